/-
  What the reference of layer 7 returns: IsName, Printable, Quote, skip, feeds: contracts, one a function.
-/
import Derived.Test.YtbmdadhbkdkgmaaGreatDoorLRefs
namespace Go.Proofs.YtbmdadhbkdkgmaaGreatDoor.L
open Go.RowKit

theorem all_take {p : UInt8 → Bool} : ∀ {l : Str}, (l.takeWhile p).length = l.length ↔ l.all p = true
  | [] => by simp
  | c :: l => by
    rw [List.takeWhile_cons, List.all_cons]
    cases hc : p c
    · rw [if_neg (by decide)]; simp
    · rw [if_pos rfl, List.length_cons, List.length_cons, Bool.true_and, ← all_take (l := l)]; omega
theorem list_cons {s : ByteArray} (h : 0 < s.size) : s.data.toList = s[0] :: s.data.toList.drop 1 := by
  have := drop_get s 0 h
  rwa [List.drop_zero] at this
theorem name_short {s : ByteArray} (h : ¬ 0 < s.size) : isName s.data.toList = false := by
  have : s.data.toList = [] := List.length_eq_zero_iff.1 (by rw [← size_len]; omega)
  rw [this]; rfl
theorem name_long {s : ByteArray} (h : ¬ s.size ≤ 16) : isName s.data.toList = false := by
  unfold isName; rw [decide_eq_false (by rw [← size_len]; exact h)]; rfl
theorem name_head {s : ByteArray} (h : 0 < s.size) (h2 : letter s[0] = false) : isName s.data.toList = false := by
  unfold isName
  rw [show headL s.data.toList = false from by rw [list_cons h]; exact h2]; simp
theorem name_part {s : ByteArray} (h : ¬ wl s 0 = s.size) : isName s.data.toList = false := by
  unfold isName
  cases ha : s.data.toList.all part
  · simp
  · exact absurd (by unfold wl; rw [List.drop_zero, size_len]; exact all_take.2 ha) h
theorem name_kw {s : ByteArray} (h : 0 < s.size) (h1 : s.size ≤ 16) (h2 : letter s[0] = true) (h3 : wl s 0 = s.size) : isName s.data.toList = !isKw s.data.toList := by
  unfold isName
  rw [decide_eq_true (by rw [← size_len]; exact h1), show headL s.data.toList = true from by rw [list_cons h]; exact h2]
  rw [all_take.1 (by unfold wl at h3; rw [List.drop_zero] at h3; rw [h3, size_len])]
  rfl
set_option maxRecDepth 100000 in
theorem isName_any (s : ByteArray) (hs : s.size ≤ 9223372036854775800) (w : World) :
    Calls Tryz.prog 25 #[.string s] w fun e w' => e = .returned (.bool (isName s.data.toList)) ∧ Below w.heap.size w w' := by
  by_cases h0 : 0 < s.size
  · by_cases h16 : s.size ≤ 16
    · have h1 := letter_any s[0]
      have h2 := word_any s hs 0 (Nat.zero_le _)
      rw [Nat.zero_add] at h2
      have h2 : ∀ w, Calls Tryz.prog 52 #[.string s, .int .i64 0] w fun e w' => e = .returned (.int .i64 ((wl s 0 : Nat) : Int)) ∧ w' = w := h2
      have HK := Lib.hid (isKw_any s)
      cases hl : letter s[0]
      · have HV := Lib.hid (name_head h0 hl)
        rw [hl] at h1
        have H1 := Lib.hid h1
        clear h1 h2 hl HK
        go_enter Tryz.func25, Tryz.ntmps25
        go_wp2_with fail
        refine (H1.out _).mono ?_; rintro e w1 ⟨rfl, rfl⟩
        go_wp2_with fail
        go_ret
        exact ⟨ret_bool HV.out.symm, Below.refl _ _⟩
      · rw [hl] at h1
        have H1 := Lib.hid h1
        have H2 := Lib.hid h2
        by_cases hw : wl s 0 = s.size
        · have HV := Lib.hid (name_kw h0 h16 hl hw)
          have bw : ((wl s 0 : Int) == (s.size : Int)) = true := beq_iff_eq.2 (by omega)
          generalize wl s 0 = L at H2 bw
          generalize isKw s.data.toList = K at HK HV
          clear h1 h2 hl hw
          cases K
          all_goals
            go_enter Tryz.func25, Tryz.ntmps25
            go_wp2_with fail
            refine (H1.out _).mono ?_; rintro e w1 ⟨rfl, rfl⟩
            go_wp2_with fail
            refine (H2.out _).mono ?_; rintro e w1 ⟨rfl, rfl⟩
            go_wp2_with fail
            refine (HK.out _).mono ?_; rintro e w2 ⟨rfl, hb2⟩
            go_wp2_with fail
            go_ret
            exact ⟨ret_bool (by rw [HV.out]; rfl), hb2⟩
        · have HV := Lib.hid (name_part hw)
          have bw : ((wl s 0 : Int) == (s.size : Int)) = false := beq_eq_false_iff_ne.2 (by omega)
          generalize wl s 0 = L at H2 bw
          clear h1 h2 hl hw HK
          go_enter Tryz.func25, Tryz.ntmps25
          go_wp2_with fail
          refine (H1.out _).mono ?_; rintro e w1 ⟨rfl, rfl⟩
          go_wp2_with fail
          refine (H2.out _).mono ?_; rintro e w1 ⟨rfl, rfl⟩
          go_wp2_with fail
          go_ret
          exact ⟨ret_bool HV.out.symm, Below.refl _ _⟩
    · have HV := Lib.hid (name_long h16)
      go_enter Tryz.func25, Tryz.ntmps25
      go_wp2_with fail
      go_ret
      exact ⟨ret_bool HV.out.symm, Below.refl _ _⟩
  · have HV := Lib.hid (name_short h0)
    have hz : s.size = 0 := by omega
    go_enter Tryz.func25, Tryz.ntmps25
    go_wp2_with fail
    go_ret
    exact ⟨ret_bool HV.out.symm, Below.refl _ _⟩

/-! ### Printable, Quote -/

def upto (p : UInt8 → Bool) (s : ByteArray) (k : Nat) : Prop := ∀ j (h : j < s.size), j < k → p s[j] = true
theorem upto_all {p : UInt8 → Bool} {s : ByteArray} (h : upto p s s.size) : s.data.toList.all p = true := by
  rw [List.all_eq_true]
  intro c hc
  obtain ⟨j, hj, rfl⟩ := List.mem_iff_getElem.1 hc
  have hj2 : j < s.size := by rw [size_len]; exact hj
  exact h j hj2 hj2
theorem upto_not {p : UInt8 → Bool} {s : ByteArray} {k : Nat} (h : k < s.size) (hp : p s[k] = false) : s.data.toList.all p = false := by
  rw [List.all_eq_false]
  refine ⟨s[k], ?_, by rw [hp]; decide⟩
  exact List.getElem_mem (l := s.data.toList) (by rw [← size_len]; exact h)
theorem prt_not {c : UInt8} (h : prt c = false) : (c.toNat : Int) < 32 ∨ 126 < (c.toNat : Int) := by
  apply Decidable.byContradiction
  intro h2
  rw [prt_iff.2 ⟨by omega, by omega⟩] at h; cases h
set_option maxRecDepth 100000 in
theorem printable_any (s : ByteArray) (hs : s.size ≤ 9223372036854775800) (w : World) :
    Calls Tryz.prog 81 #[.string s] w fun e w' => e = .returned (.bool (s.data.toList.all prt)) ∧ w' = w := by
  go_enter Tryz.func81, Tryz.ntmps81
  go_wp2
  go_loopw [3] (fun s3 wr => ∃ k : Nat, k ≤ s.size ∧ s3 = .int .i64 k ∧ wr = w ∧ Hid (upto prt s k)) (fun s3 _ => s.size - (intOf s3).toNat)
  case atStart => exact ⟨0, Nat.zero_le _, rfl, rfl, fun j _ h => absurd h (Nat.not_lt_zero _)⟩
  case round =>
    obtain ⟨k, hk, rfl, rfl, HK⟩ := hrel
    by_cases hlt : k < s.size
    · cases hok : prt s[k]
      · have HV := Lib.hid (upto_not hlt hok)
        rcases prt_not hok with h | h
        · have b1 : decide ((s[k].toNat : Int) < 32) = true := decide_eq_true h
          clear hok h
          go_wp2_with fail
          go_ret
          exact ⟨ret_bool HV.out.symm, rfl⟩
        · have b1 : decide ((s[k].toNat : Int) < 32) = false := decide_eq_false (by omega)
          have b2 : decide (126 < (s[k].toNat : Int)) = true := decide_eq_true h
          clear hok h
          go_wp2_with fail
          go_ret
          exact ⟨ret_bool HV.out.symm, rfl⟩
      · have HN : Hid (upto prt s (k + 1)) := by
          intro j h hj
          by_cases e : j = k
          · subst e; exact hok
          · exact HK.out j h (by omega)
        have hp := prt_iff.1 hok
        have b1 : decide ((s[k].toNat : Int) < 32) = false := decide_eq_false (by omega)
        have b2 : decide (126 < (s[k].toNat : Int)) = false := decide_eq_false (by omega)
        clear hok hp
        go_wp2_with fail
        go_roundw
        case rel => exact ⟨k + 1, by omega, by go_num, by first | rfl | trivial, HN⟩
        case measure => simp [intOf]; omega
    · obtain rfl : k = s.size := by omega
      have HV := Lib.hid (upto_all HK.out)
      go_wp2_with fail
      go_ret
      exact ⟨ret_bool HV.out.symm, rfl⟩
theorem esc_app : ∀ a b : Str, esc (a ++ b) = esc a ++ esc b
  | [], _ => rfl
  | c :: a, b => by
    rw [List.cons_append, esc, esc, esc_app a b]
    split <;> rfl
theorem take_snoc (s : ByteArray) (k : Nat) (h : k < s.size) : s.data.toList.take (k + 1) = s.data.toList.take k ++ [s[k]] := by
  rw [List.take_succ_eq_append_getElem (by simpa using h)]; rfl
def pairS (r : Str × Int) : Value := .tuple #[.string ⟨r.1.toArray⟩, .int .i64 r.2]
theorem qt_long {s : ByteArray} (h : 64 < s.size) : qt s.data.toList = ([], 2) := by unfold qt; rw [if_pos (by rw [← size_len]; exact h)]
theorem qt_bad {s : ByteArray} (h : ¬ 64 < s.size) (h2 : s.data.toList.all prt = false) : qt s.data.toList = ([], 1) := by unfold qt; rw [if_neg (by rw [← size_len]; exact h), if_neg (by rw [h2]; decide)]
theorem qt_ok {s : ByteArray} (h : ¬ 64 < s.size) (h2 : s.data.toList.all prt = true) : qt s.data.toList = (quo s.data.toList, 0) := by unfold qt; rw [if_neg (by rw [← size_len]; exact h), if_pos h2]
set_option maxHeartbeats 1000000 in
set_option maxRecDepth 100000 in
theorem quote_any (s : ByteArray) (hs : s.size ≤ 9223372036854775800) (w : World) :
    Calls Tryz.prog 47 #[.string s] w fun e w' => e = .returned (pairS (qt s.data.toList)) ∧ w' = w := by
  by_cases h64 : 64 < s.size
  · have HV := Lib.hid (qt_long h64)
    go_enter Tryz.func47, Tryz.ntmps47
    go_wp2
    go_ret2
    exact ⟨by rw [HV.out]; rfl, rfl⟩
  · have hp := printable_any s hs
    cases hok : s.data.toList.all prt
    · have HV := Lib.hid (qt_bad h64 hok)
      rw [hok] at hp
      have HP := Lib.hid hp
      clear hok hp
      go_enter Tryz.func47, Tryz.ntmps47
      go_wp2_with fail
      refine (HP.out _).mono ?_; rintro e w1 ⟨rfl, rfl⟩
      go_wp2_with fail
      go_ret2
      exact ⟨by rw [HV.out]; rfl, rfl⟩
    · have HV := Lib.hid (qt_ok h64 hok)
      rw [hok] at hp
      have HP := Lib.hid hp
      clear hok hp
      go_enter Tryz.func47, Tryz.ntmps47
      go_wp2_with fail
      refine (HP.out _).mono ?_; rintro e w1 ⟨rfl, rfl⟩
      go_wp2_with fail
      go_loopw [4, 5] (fun vo vi wr => ∃ (k : Nat) (T : ByteArray), k ≤ s.size ∧ vi = .int .i64 k ∧ vo = .string T ∧ T.size ≤ 2 * k + 1 ∧ wr = w1 ∧ Hid (T.data.toList = 34 :: esc (s.data.toList.take k))) (fun _ vi _ => s.size - (intOf vi).toNat)
      case atStart => exact ⟨0, ⟨#[34]⟩, Nat.zero_le _, rfl, rfl, by decide, rfl, rfl⟩
      case round =>
        obtain ⟨k, T, hk, rfl, rfl, hT, rfl, HT⟩ := hrel
        by_cases hlt : k < s.size
        · obtain ⟨d, hd, hd2, hsl⟩ := slice_one s k hlt
          have hone : (⟨#[92]⟩ : ByteArray).size = 1 := rfl
          by_cases hq : s[k].toNat = 34 ∨ s[k].toNat = 92
          · have HN : Hid ((T ++ ⟨#[92]⟩ ++ d).data.toList = 34 :: esc (s.data.toList.take (k + 1))) := by
              show _ = _
              rw [append_list, append_list, HT.out, hd, take_snoc s k hlt, esc_app]
              simp [esc, hq]
            have hz : (T ++ ⟨#[92]⟩ ++ d).size ≤ 2 * (k + 1) + 1 := by rw [ByteArray.size_append, ByteArray.size_append, hd2, hone]; omega
            have hz2 : (T ++ (⟨#[92]⟩ : ByteArray)).size ≤ 1000 := by rw [ByteArray.size_append, hone]; omega
            rcases hq with hq | hq
            · have b1 : ((s[k].toNat : Int) == 34) = true := beq_iff_eq.2 (by omega)
              clear hd hq
              go_wp2_with fail
              go_roundw
              case rel => exact ⟨k + 1, _, by omega, by go_num, rfl, hz, by first | rfl | trivial, HN⟩
              case measure => simp [intOf]; omega
            · have b1 : ((s[k].toNat : Int) == 34) = false := beq_eq_false_iff_ne.2 (by omega)
              have b2 : ((s[k].toNat : Int) == 92) = true := beq_iff_eq.2 (by omega)
              clear hd hq
              go_wp2_with fail
              go_roundw
              case rel => exact ⟨k + 1, _, by omega, by go_num, rfl, hz, by first | rfl | trivial, HN⟩
              case measure => simp [intOf]; omega
          · have HN : Hid ((T ++ d).data.toList = 34 :: esc (s.data.toList.take (k + 1))) := by
              show _ = _
              rw [append_list, HT.out, hd, take_snoc s k hlt, esc_app]
              simp [esc, hq]
            have hz : (T ++ d).size ≤ 2 * (k + 1) + 1 := by rw [ByteArray.size_append, hd2]; omega
            have b1 : ((s[k].toNat : Int) == 34) = false := beq_eq_false_iff_ne.2 (by omega)
            have b2 : ((s[k].toNat : Int) == 92) = false := beq_eq_false_iff_ne.2 (by omega)
            clear hd hq
            go_wp2_with fail
            go_roundw
            case rel => exact ⟨k + 1, _, by omega, by go_num, rfl, hz, by first | rfl | trivial, HN⟩
            case measure => simp [intOf]; omega
        · obtain rfl : k = s.size := by omega
          have HE : Hid (T ++ ⟨#[34]⟩ = ⟨(quo s.data.toList).toArray⟩) := by
            refine bytes_eq ?_
            rw [append_list, HT.out, List.take_of_length_le (by rw [size_len]; exact Nat.le_refl _)]
            rfl
          have hone : (⟨#[34]⟩ : ByteArray).size = 1 := rfl
          go_wp2_with fail
          go_ret2
          exact ⟨by rw [HV.out]; show _ = Ending.returned (.tuple #[.string ⟨(quo s.data.toList).toArray⟩, .int .i64 0]); rw [← HE.out]; rfl, rfl⟩

/-! ### skip, feeds -/

/-- where what is left begins -/
def sk (b : Bool) (s : ByteArray) (k : Nat) : Nat := s.size - (skp b (s.data.toList.drop k)).length
theorem sk_end (b : Bool) (s : ByteArray) : sk b s s.size = s.size := by unfold sk; rw [drop_all]; cases b <;> rfl
theorem sk_hash {s : ByteArray} {k : Nat} (h : k < s.size) (hc : s[k].toNat = 35) : sk false s k = sk true s k := by
  unfold sk
  rw [drop_get s k h, skp, skp, if_pos hc, if_neg (by omega)]
theorem sk_in {s : ByteArray} {k : Nat} (h : k < s.size) (hc : ¬ s[k].toNat = 10) : sk true s k = sk true s (k + 1) := by
  unfold sk
  rw [drop_get s k h, skp, if_neg hc]
theorem sk_out {s : ByteArray} {k : Nat} (h : k < s.size) (hc : s[k].toNat = 10) : sk true s k = sk false s k := by
  unfold sk
  rw [drop_get s k h, skp, skp, if_pos hc, if_neg (by omega), if_pos (by omega)]
theorem sk_blank {s : ByteArray} {k : Nat} (h : k < s.size) (hc : s[k].toNat = 32 ∨ s[k].toNat = 9 ∨ s[k].toNat = 10) : sk false s k = sk false s (k + 1) := by
  unfold sk
  rw [drop_get s k h, skp, if_neg (by omega), if_pos hc]
theorem sk_stop {s : ByteArray} {k : Nat} (h : k < s.size) (h0 : ¬ s[k].toNat = 35) (hc : ¬ (s[k].toNat = 32 ∨ s[k].toNat = 9 ∨ s[k].toNat = 10)) : sk false s k = k := by
  unfold sk
  rw [drop_get s k h, skp, if_neg h0, if_neg hc, ← drop_get s k h, List.length_drop, ← size_len]; omega
theorem sk_le (b : Bool) (s : ByteArray) (k : Nat) : sk b s k ≤ s.size := by unfold sk; omega
/-- what is left from there on -/
theorem sk_drop (s : ByteArray) (k : Nat) (hk : k ≤ s.size) : s.data.toList.drop (sk false s k) = skp false (s.data.toList.drop k) ∧ k ≤ sk false s k := by
  have h := skp_suffix false (s.data.toList.drop k)
  have h2 : skp false (s.data.toList.drop k) <:+ s.data.toList := h.trans (List.drop_suffix _ _)
  have hl := h.length_le
  rw [List.length_drop, ← size_len] at hl
  refine ⟨?_, by unfold sk; omega⟩
  rw [List.suffix_iff_eq_drop] at h2
  conv => rhs; rw [h2]
  rw [← size_len]; rfl
theorem nf_take {s : ByteArray} {k : Nat} (h : k < s.size) : nf (s.data.toList.take (k + 1)) = nf (s.data.toList.take k) + if s[k].toNat = 10 then 1 else 0 := by
  rw [take_snoc s k h, nf_app]
  congr 1
  unfold nf
  rw [List.countP_cons]
  by_cases hc : s[k].toNat = 10
  · rw [if_pos (decide_eq_true hc), if_pos hc]; rfl
  · rw [if_neg (by rw [decide_eq_false hc]; decide), if_neg hc]; rfl
theorem nf_len (l : Str) : nf l ≤ l.length := List.countP_le_length
end Go.Proofs.YtbmdadhbkdkgmaaGreatDoor.L
