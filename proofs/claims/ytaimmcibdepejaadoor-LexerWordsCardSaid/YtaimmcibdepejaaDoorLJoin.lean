/-
  What Join returns, of the reference of layer 7: its contract.
-/
import Derived.Test.YtaimmcibdepejaaDoorLMoved
namespace Go.Proofs.YtaimmcibdepejaaDoor.L
open Go.RowKit

theorem jn_snoc : ∀ (l : List Tok) (t : Tok), jn (l ++ [t]) = jn l ++ (if l = [] then [] else [32]) ++ txt t
  | [], t => rfl
  | [u], t => by
    show txt u ++ 32 :: txt t = _
    rw [if_neg (by simp)]
    show _ = txt u ++ [32] ++ txt t
    simp
  | u :: v :: r, t => by
    have h := jn_snoc (v :: r) t
    show txt u ++ 32 :: jn (v :: (r ++ [t])) = (txt u ++ 32 :: jn (v :: r)) ++ _ ++ txt t
    rw [show v :: (r ++ [t]) = (v :: r) ++ [t] from rfl, h, if_neg (by simp), if_neg (by simp)]
    simp
theorem take_tok {xs : List T} {k : Nat} (h : k < xs.length) : toks (xs.take (k + 1)) = toks (xs.take k) ++ [xs[k].tok] := by
  unfold toks
  rw [List.take_succ_eq_append_getElem h, List.map_append]; rfl
theorem toks_nil {xs : List T} {k : Nat} (h : k < xs.length) : (toks (xs.take k) = []) ↔ k = 0 := by
  rw [← List.length_eq_zero_iff, toks_len, List.length_take]; omega
theorem jn_next0 {xs : List T} {k : Nat} (h : k < xs.length) (h0 : k = 0) : jn (toks (xs.take (k + 1))) = jn (toks (xs.take k)) ++ txt xs[k].tok := by
  rw [take_tok h, jn_snoc, if_pos ((toks_nil h).2 h0), List.append_nil]
theorem jn_next {xs : List T} {k : Nat} (h : k < xs.length) (h0 : ¬ k = 0) : jn (toks (xs.take (k + 1))) = jn (toks (xs.take k)) ++ [32] ++ txt xs[k].tok := by
  rw [take_tok h, jn_snoc, if_neg (fun e => h0 ((toks_nil h).1 e))]
theorem all_snoc {xs : List T} {k : Nat} (h : k < xs.length) (h1 : (toks (xs.take k)).all valid = true) (h2 : valid xs[k].tok = true) : (toks (xs.take (k + 1))).all valid = true := by
  rw [take_tok h, List.all_append, h1]; simp [h2]
theorem all_not {xs : List T} {k : Nat} (h : k < xs.length) (h2 : valid xs[k].tok = false) : (toks xs).all valid = false := by
  refine List.all_eq_false.2 ⟨xs[k].tok, ?_, by rw [h2]; decide⟩
  exact List.mem_map.2 ⟨xs[k], List.getElem_mem h, rfl⟩
theorem join_bad {l : List Tok} (h : l.all valid = false) : join l = ([], 1) := by unfold join; rw [if_neg (by rw [h]; decide)]
theorem join_long {l : List Tok} (h : l.all valid = true) (h2 : 16384 < (jn l).length) : join l = ([], 2) := by unfold join; rw [if_pos h, if_pos h2]
theorem join_ok {l : List Tok} (h : l.all valid = true) (h2 : ¬ 16384 < (jn l).length) : join l = (jn l, 0) := by unfold join; rw [if_pos h, if_neg h2]
theorem ret_pair {r : Str × Int} {s : ByteArray} {x : Int} {l : Str} (hr : r = (l, x)) (hs : s.data.toList = l) : Ending.returned (.tuple #[.string s, .int .i64 x]) = Ending.returned (pairS r) := by
  subst hs; rw [hr]; rfl
/-- what a token's text is, by its kind -/
theorem txt_3 {t : Tok} (h : t.k = 3) : txt t = Lib.itoa t.n := by unfold txt; rw [if_pos h]
theorem txt_4 {t : Tok} (h : t.k = 4) : txt t = quo t.t := by unfold txt; rw [if_neg (by omega), if_pos h]
theorem txt_o {t : Tok} (h : ¬ t.k = 3) (h2 : ¬ t.k = 4) : txt t = t.t := by unfold txt; rw [if_neg h, if_neg h2]
theorem valid_4 {p : T} (h : p.k = 4) (hv : valid p.tok = true) : qt p.t.data.toList = (quo p.t.data.toList, 0) := by
  rw [v_4 h] at hv
  simp only [Bool.and_eq_true, decide_eq_true_eq] at hv
  exact qt_ok (by omega) hv.1.2
theorem quoted_any (p : T) (h : p.k = 4) (hv : valid p.tok = true) (hs : p.t.size ≤ 9223372036854775800) (w : World) :
    Calls Tryd.prog 14 #[.string p.t] w fun e w' => e = .returned (.tuple #[.string ⟨(quo p.t.data.toList).toArray⟩, .int .i64 0]) ∧ w' = w :=
  (quote_any p.t hs w).mono fun e w' hh => by rw [valid_4 h hv] at hh; exact hh
theorem jn_part {xs : List T} {k : Nat} (h1 : (toks xs).all valid = true) (hn : ∀ t ∈ toks xs, t.n ≤ 9223372036854775807) : (jn (toks (xs.take k))).length ≤ 131 * k := by
  have hsub : ∀ t ∈ toks (xs.take k), t ∈ toks xs := by
    intro t ht
    obtain ⟨p, hp, rfl⟩ := List.mem_map.1 ht
    exact List.mem_map.2 ⟨p, List.mem_of_mem_take hp, rfl⟩
  have := jn_len (l := toks (xs.take k)) (List.all_eq_true.2 fun t ht => List.all_eq_true.1 h1 t (hsub t ht)) (fun t ht => hn t (hsub t ht))
  rw [toks_len, List.length_take] at this
  have : min k xs.length ≤ k := Nat.min_le_left _ _
  omega
theorem next_0 {s d : ByteArray} {A B l : Str} {m : Nat} (hs : s.data.toList = A) (hd : d.data.toList = l) (hN : B = A ++ l) (hP : B.length ≤ m) : (s ++ d).size ≤ m ∧ (s ++ d).data.toList = B := by
  have e : (s ++ d).data.toList = B := by rw [append_list, hs, hd, hN]
  exact ⟨by rw [size_len, e]; exact hP, e⟩
theorem next_1 {s d : ByteArray} {A B l : Str} {m : Nat} (hs : s.data.toList = A) (hd : d.data.toList = l) (hN : B = A ++ [32] ++ l) (hP : B.length ≤ m) : (s ++ (⟨#[32]⟩ : ByteArray) ++ d).size ≤ m ∧ (s ++ (⟨#[32]⟩ : ByteArray) ++ d).data.toList = B := by
  have e : (s ++ (⟨#[32]⟩ : ByteArray) ++ d).data.toList = B := by rw [append_list, append_list, hs, hd, hN]
  exact ⟨by rw [size_len, e]; exact hP, e⟩
theorem bound_0 {d : ByteArray} {A B l : Str} {m : Nat} (hd : d.data.toList = l) (hN : B = A ++ l) (hP : B.length ≤ m) : d.size ≤ m := by
  rw [hN, List.length_append, ← hd, ← size_len] at hP; omega
theorem bound_1 {d : ByteArray} {A B l : Str} {m : Nat} (hd : d.data.toList = l) (hN : B = A ++ [32] ++ l) (hP : B.length ≤ m) : d.size ≤ m := by
  rw [hN, List.length_append, ← hd, ← size_len] at hP; omega
set_option maxHeartbeats 4000000 in
set_option maxRecDepth 100000 in
theorem rjoin_any (a : Option Addr) (c : Nat) (xs : List T) (hx : xs.length ≤ 1000000000) (hs : ∀ j (h : j < xs.length), xs[j].t.size ≤ 9223372036854775800 ∧ -9223372036854775808 ≤ xs[j].n ∧ xs[j].n ≤ 9223372036854775807) (w : World) (hA : Tks w a xs) :
    Calls Tryd.prog 21 #[.slice a xs.length c] w fun e w' => e = .returned (pairS (join (toks xs))) ∧ Below w.heap.size w w' := by
  have HA := Lib.hid hA
  have HLn := Lib.hid hs
  clear hA hs
  have HLm : Hid (∀ t ∈ toks xs, t.n ≤ 9223372036854775807) := by
    intro t ht
    obtain ⟨p, hp, rfl⟩ := List.mem_map.1 ht
    obtain ⟨j, hj, rfl⟩ := List.getElem_of_mem hp
    exact (HLn.out j hj).2.2
  obtain ⟨n, hn⟩ : ∃ n, xs.length = n := ⟨_, rfl⟩
  have HL := Lib.hid hn
  rw [hn] at hx ⊢
  clear hn
  go_enter Tryd.func21, Tryd.ntmps21
  go_wp2
  go_loopw [5] (fun s5 wr => ∃ k : Nat, k ≤ n ∧ s5 = .int .i64 k ∧ Below w.heap.size w wr ∧ Hid ((toks (xs.take k)).all valid = true)) (fun s5 _ => n - (intOf s5).toNat)
  case atStart => exact ⟨0, Nat.zero_le _, rfl, Below.refl _ _, rfl⟩
  case round =>
    obtain ⟨k, hk, rfl, hb, HK⟩ := hrel
    by_cases hlt : k < n
    · have hlx : k < xs.length := by rw [HL.out]; exact hlt
      obtain ⟨b1, o1, rfl, hc⟩ := (HA.out.below hb).open hlx
      obtain ⟨c0, c1, c2, c3⟩ := hc k hlx
      have HV := Lib.hid (rvalid_any xs[k] (HLn.out k hlx).1)
      cases hv : valid xs[k].tok
      · have HB := Lib.hid (join_bad (all_not hlx hv))
        rw [hv] at HV
        generalize xs[k] = p at c0 c1 c2 c3 HV
        clear hc hv
        go_wp2_with fail
        refine (HV.out _).mono ?_; rintro e w1 ⟨rfl, hb1⟩
        go_wp2_with fail
        go_ret2
        exact ⟨ret_pair HB.out rfl, below_2 hb hb1⟩
      · have HN := Lib.hid (all_snoc hlx HK.out hv)
        rw [hv] at HV
        generalize xs[k] = p at c0 c1 c2 c3 HV
        clear hc hv
        go_wp2_with fail
        refine (HV.out _).mono ?_; rintro e w1 ⟨rfl, hb1⟩
        go_wp2_with fail
        go_roundw
        case rel => exact ⟨k + 1, by omega, by go_num, below_2 hb hb1, HN⟩
        case measure => simp [intOf]; omega
    · obtain rfl : n = k := by omega
      have hall := HK.out
      rw [List.take_of_length_le (by rw [HL.out]; exact Nat.le_refl _)] at hall
      have HALL := Lib.hid hall
      clear HK hall
      go_wp2_with fail
      go_loopw [4, 6] (fun s4 s6 wr2 => ∃ (k : Nat) (s : ByteArray), k ≤ n ∧ s6 = .int .i64 k ∧ s4 = .string s ∧ s.size ≤ 131 * k ∧ Below w.heap.size w wr2 ∧ Hid (s.data.toList = jn (toks (xs.take k)))) (fun _ s6 _ => n - (intOf s6).toNat)
      case atStart => exact ⟨0, ⟨#[]⟩, Nat.zero_le _, rfl, rfl, Nat.le_refl _, hb, rfl⟩
      case round =>
        obtain ⟨k, s, hk, rfl, rfl, hsz, hb2, HJ⟩ := hrel
        clear hb
        by_cases hlt : k < n
        · have hlx : k < xs.length := by rw [HL.out]; exact hlt
          obtain ⟨b1, o1, rfl, hc⟩ := (HA.out.below hb2).open hlx
          obtain ⟨c0, c1, c2, c3⟩ := hc k hlx
          obtain ⟨f1, f2, f3⟩ := HLn.out k hlx
          have hv : valid xs[k].tok = true := List.all_eq_true.1 HALL.out _ (List.mem_map.2 ⟨xs[k], List.getElem_mem hlx, rfl⟩)
          have HP := Lib.hid (jn_part (k := k + 1) HALL.out HLm.out)
          have HQ := Lib.hid (quoted_any xs[k])
          have HF := Lib.hid (rformat_any xs[k].n f2 f3)
          have HT3 := Lib.hid (txt_3 (t := xs[k].tok))
          have HT4 := Lib.hid (txt_4 (t := xs[k].tok))
          have HTo := Lib.hid (txt_o (t := xs[k].tok))
          have HN0 := Lib.hid (jn_next0 hlx)
          have HN1 := Lib.hid (jn_next hlx)
          generalize xs[k] = p at c0 c1 c2 c3 HQ HF HT3 HT4 HTo HN0 HN1 f1 hv
          have HV := Lib.hid hv
          clear hc hv f2 f3
          by_cases hk0 : k = 0
          · have bk : decide (0 < k) = false := decide_eq_false (by omega)
            by_cases k3 : p.k = 3
            · have b3 : (p.k == 3) = true := beq_iff_eq.2 k3
              have HN := Lib.hid (HN0.out hk0)
              rw [HT3.out k3] at HN
              obtain ⟨d, hd⟩ : ∃ d : ByteArray, d = ⟨(Lib.itoa p.n).toArray⟩ := ⟨_, rfl⟩
              have HD : Hid (d.data.toList = Lib.itoa p.n) := by show _ = _; rw [hd]
              rw [← hd] at HF
              have hz := bound_0 HD.out HN.out HP.out
              clear HN0 HN1 HT3 HT4 HTo HQ k3 hk0 HV hd
              go_wp2_with fail
              refine (HF.out _).mono ?_; rintro e w1 ⟨rfl, hb1⟩
              go_wp2_with fail
              go_roundw
              case rel => exact ⟨k + 1, s ++ d, by omega, by go_num, rfl, (next_0 HJ.out HD.out HN.out HP.out).1, below_2 hb2 hb1, (next_0 HJ.out HD.out HN.out HP.out).2⟩
              case measure => simp [intOf]; omega
            · have b3 : (p.k == 3) = false := beq_eq_false_iff_ne.2 k3
              by_cases k4 : p.k = 4
              · have b4 : (p.k == 4) = true := beq_iff_eq.2 k4
                have HN := Lib.hid (HN0.out hk0)
                rw [HT4.out k4] at HN
                have HQ2 := Lib.hid (HQ.out k4 HV.out f1)
                obtain ⟨d, hd⟩ : ∃ d : ByteArray, d = ⟨(quo p.t.data.toList).toArray⟩ := ⟨_, rfl⟩
                have HD : Hid (d.data.toList = quo p.t.data.toList) := by show _ = _; rw [hd]
                rw [← hd] at HQ2
                have hz := bound_0 HD.out HN.out HP.out
                clear HN0 HN1 HT3 HT4 HTo HQ k3 k4 hk0 HV HF hd
                go_wp2_with fail
                refine (HQ2.out _).mono ?_; rintro e w1 ⟨rfl, rfl⟩
                go_wp2_with fail
                go_roundw
                case rel => exact ⟨k + 1, s ++ d, by omega, by go_num, rfl, (next_0 HJ.out HD.out HN.out HP.out).1, hb2, (next_0 HJ.out HD.out HN.out HP.out).2⟩
                case measure => simp [intOf]; omega
              · have b4 : (p.k == 4) = false := beq_eq_false_iff_ne.2 k4
                have HN := Lib.hid (HN0.out hk0)
                rw [HTo.out k3 k4] at HN
                have HD : Hid (p.t.data.toList = p.t.data.toList) := rfl
                have hz := bound_0 HD.out HN.out HP.out
                clear HN0 HN1 HT3 HT4 HTo HQ k3 k4 hk0 HV HF
                go_wp2_with fail
                go_roundw
                case rel => exact ⟨k + 1, s ++ p.t, by omega, by go_num, rfl, (next_0 HJ.out HD.out HN.out HP.out).1, hb2, (next_0 HJ.out HD.out HN.out HP.out).2⟩
                case measure => simp [intOf]; omega
          · have bk : decide (0 < k) = true := decide_eq_true (by omega)
            by_cases k3 : p.k = 3
            · have b3 : (p.k == 3) = true := beq_iff_eq.2 k3
              have HN := Lib.hid (HN1.out hk0)
              rw [HT3.out k3] at HN
              obtain ⟨d, hd⟩ : ∃ d : ByteArray, d = ⟨(Lib.itoa p.n).toArray⟩ := ⟨_, rfl⟩
              have HD : Hid (d.data.toList = Lib.itoa p.n) := by show _ = _; rw [hd]
              rw [← hd] at HF
              have hz := bound_1 HD.out HN.out HP.out
              clear HN0 HN1 HT3 HT4 HTo HQ k3 hk0 HV hd
              go_wp2_with fail
              refine (HF.out _).mono ?_; rintro e w1 ⟨rfl, hb1⟩
              go_wp2_with fail
              go_roundw
              case rel => exact ⟨k + 1, s ++ (⟨#[32]⟩ : ByteArray) ++ d, by omega, by go_num, rfl, (next_1 HJ.out HD.out HN.out HP.out).1, below_2 hb2 hb1, (next_1 HJ.out HD.out HN.out HP.out).2⟩
              case measure => simp [intOf]; omega
            · have b3 : (p.k == 3) = false := beq_eq_false_iff_ne.2 k3
              by_cases k4 : p.k = 4
              · have b4 : (p.k == 4) = true := beq_iff_eq.2 k4
                have HN := Lib.hid (HN1.out hk0)
                rw [HT4.out k4] at HN
                have HQ2 := Lib.hid (HQ.out k4 HV.out f1)
                obtain ⟨d, hd⟩ : ∃ d : ByteArray, d = ⟨(quo p.t.data.toList).toArray⟩ := ⟨_, rfl⟩
                have HD : Hid (d.data.toList = quo p.t.data.toList) := by show _ = _; rw [hd]
                rw [← hd] at HQ2
                have hz := bound_1 HD.out HN.out HP.out
                clear HN0 HN1 HT3 HT4 HTo HQ k3 k4 hk0 HV HF hd
                go_wp2_with fail
                refine (HQ2.out _).mono ?_; rintro e w1 ⟨rfl, rfl⟩
                go_wp2_with fail
                go_roundw
                case rel => exact ⟨k + 1, s ++ (⟨#[32]⟩ : ByteArray) ++ d, by omega, by go_num, rfl, (next_1 HJ.out HD.out HN.out HP.out).1, hb2, (next_1 HJ.out HD.out HN.out HP.out).2⟩
                case measure => simp [intOf]; omega
              · have b4 : (p.k == 4) = false := beq_eq_false_iff_ne.2 k4
                have HN := Lib.hid (HN1.out hk0)
                rw [HTo.out k3 k4] at HN
                have HD : Hid (p.t.data.toList = p.t.data.toList) := rfl
                have hz := bound_1 HD.out HN.out HP.out
                clear HN0 HN1 HT3 HT4 HTo HQ k3 k4 hk0 HV HF
                go_wp2_with fail
                go_roundw
                case rel => exact ⟨k + 1, s ++ (⟨#[32]⟩ : ByteArray) ++ p.t, by omega, by go_num, rfl, (next_1 HJ.out HD.out HN.out HP.out).1, hb2, (next_1 HJ.out HD.out HN.out HP.out).2⟩
                case measure => simp [intOf]; omega
        · obtain rfl : n = k := by omega
          have hj := HJ.out
          rw [List.take_of_length_le (by rw [HL.out]; exact Nat.le_refl _)] at hj
          have HJ2 := Lib.hid hj
          have hlen : (jn (toks xs)).length = s.size := by rw [← hj, size_len]
          clear HJ hj
          by_cases hbig : 16384 < s.size
          · have HB := Lib.hid (join_long HALL.out (by rw [hlen]; exact hbig))
            go_wp2_with fail
            go_ret2
            exact ⟨ret_pair HB.out rfl, hb2⟩
          · have HB := Lib.hid (join_ok HALL.out (by rw [hlen]; exact hbig))
            go_wp2_with fail
            go_ret2
            exact ⟨ret_pair HB.out HJ2.out, hb2⟩
end Go.Proofs.YtaimmcibdepejaaDoor.L
