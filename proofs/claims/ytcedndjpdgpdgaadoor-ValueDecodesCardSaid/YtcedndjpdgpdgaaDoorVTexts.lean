/-
  What the reference of layer 5 returns: Quote, Format, unquote, Parse: contracts, one a function.
-/
import Derived.Test.YtcedndjpdgpdgaaDoorVRefs
namespace Go.Proofs.YtcedndjpdgpdgaaDoor.V
open Go.RowKit

theorem append_list (a b : ByteArray) : (a ++ b).data.toList = a.data.toList ++ b.data.toList := by simp [ByteArray.data_append]
theorem bytes_eq {a b : ByteArray} (h : a.data.toList = b.data.toList) : a = b := WideShapes.bytes_inj h
/-- one byte of a string, sliced -/
theorem byte_run (s : ByteArray) (k : Nat) (h : k < s.size) : ∃ d : ByteArray, d.data.toList = [s[k]] ∧ d.size ≤ 1 ∧
    ∀ W, (Instr.slice 9 (.string s) (some (.int .i64 (k : Int))) (some (.int .i64 ((k : Int) + 1))) none).run Tryd.prog W = .ok (.string d) W := by
  have hl : (s.extract k (k + 1)).data.toList = [s[k]] := by
    simp only [ByteArray.data_extract, Array.toList_extract, List.extract_eq_take_drop]
    have hk : k < s.data.toList.length := by simpa using h
    rw [List.drop_eq_getElem_cons hk]
    simp
    rfl
  refine ⟨s.extract k (k + 1), hl, by rw [size_len, hl]; exact Nat.le_refl _, fun W => ?_⟩
  exact run_slice_string (P := Tryd.prog) W 9 s .i64 .i64 (k : Int) ((k : Int) + 1) Tryd.underlying9 (by omega) (by omega) (by omega)

/-! ### Quote -/

theorem quote_next {s o d : ByteArray} {k : Nat} (hk : k < s.size) (ho : o.data.toList = 34 :: (s.data.toList.take k).flatMap esc) (hd : d.data.toList = [s[k]]) :
    ((s[k].toNat = 34 ∨ s[k].toNat = 92) → (o ++ ⟨#[92]⟩ ++ d).data.toList = 34 :: (s.data.toList.take (k + 1)).flatMap esc) ∧
    (¬ (s[k].toNat = 34 ∨ s[k].toNat = 92) → (o ++ d).data.toList = 34 :: (s.data.toList.take (k + 1)).flatMap esc) := by
  have e34 : (34 : UInt8).toNat = 34 := rfl
  have e92 : (92 : UInt8).toNat = 92 := rfl
  have key : (s[k] = 34 ∨ s[k] = 92) ↔ (s[k].toNat = 34 ∨ s[k].toNat = 92) := by
    rw [← UInt8.toNat_inj, ← UInt8.toNat_inj, e34, e92]
  rw [take_snoc s k hk, List.flatMap_append]
  constructor
  · intro h
    have e : [s[k]].flatMap esc = [92, s[k]] := by
      show esc s[k] ++ [] = _
      rw [List.append_nil]; unfold esc; rw [if_pos (key.2 h)]
    rw [e, append_list, append_list, ho, hd]
    show 34 :: (_ ++ [92]) ++ [s[k]] = _
    simp
  · intro h
    have e : [s[k]].flatMap esc = [s[k]] := by
      show esc s[k] ++ [] = _
      rw [List.append_nil]; unfold esc; rw [if_neg (fun x => h (key.1 x))]
    rw [e, append_list, ho, hd]
    rfl
theorem quote_end {s o : ByteArray} (ho : o.data.toList = 34 :: (s.data.toList.take s.size).flatMap esc) : o ++ ⟨#[34]⟩ = ⟨(quote s.data.toList).toArray⟩ := by
  refine bytes_eq ?_
  rw [append_list, ho, take_all]
  rfl
set_option maxHeartbeats 1000000 in
set_option maxRecDepth 100000 in
theorem rquote_any (s : ByteArray) (hs : s.size ≤ 1000000) (w : World) :
    Calls Tryd.prog 39 #[.string s] w fun e w' => e = .returned (.string ⟨(quote s.data.toList).toArray⟩) ∧ w' = w := by
  go_enter Tryd.func39, Tryd.ntmps39
  go_wp2
  go_loop [3, 4] (fun vo vi => ∃ (k : Nat) (o : ByteArray), k ≤ s.size ∧ vi = .int .i64 k ∧ vo = .string o ∧ o.size ≤ 2 * k + 1 ∧ Hid (o.data.toList = 34 :: (s.data.toList.take k).flatMap esc)) (fun _ vi => s.size - (intOf vi).toNat)
  case atStart => exact ⟨0, ⟨#[34]⟩, Nat.zero_le _, rfl, rfl, Nat.le_refl _, rfl⟩
  case round =>
    obtain ⟨k, o, hk, rfl, rfl, hz, HO⟩ := hrel
    by_cases hlt : k < s.size
    · obtain ⟨d, hd, hd1, hrun⟩ := byte_run s k hlt
      have HN := Lib.hid (quote_next hlt HO.out hd)
      clear hd
      by_cases h34 : (s[k].toNat : Int) = 34
      · have HX := Lib.hid (HN.out.1 (Or.inl (by omega)))
        go_wp2
        go_round
        case rel => exact ⟨k + 1, o ++ ⟨#[92]⟩ ++ d, by omega, by go_num, rfl, by simp; have : (ByteArray.mk #[92]).size = 1 := rfl; omega, HX⟩
        case measure => simp [intOf]; omega
      · by_cases h92 : (s[k].toNat : Int) = 92
        · have HX := Lib.hid (HN.out.1 (Or.inr (by omega)))
          go_wp2
          go_round
          case rel => exact ⟨k + 1, o ++ ⟨#[92]⟩ ++ d, by omega, by go_num, rfl, by simp; have : (ByteArray.mk #[92]).size = 1 := rfl; omega, HX⟩
          case measure => simp [intOf]; omega
        · have HX := Lib.hid (HN.out.2 (by omega))
          have b34 : ((s[k].toNat : Int) == 34) = false := beq_eq_false_iff_ne.2 h34
          have b92 : ((s[k].toNat : Int) == 92) = false := beq_eq_false_iff_ne.2 h92
          clear h34 h92
          go_wp2
          go_round
          case rel => exact ⟨k + 1, o ++ d, by omega, by go_num, rfl, by simp; omega, HX⟩
          case measure => simp [intOf]; omega
    · obtain rfl : s.size = k := by omega
      have HE := Lib.hid (quote_end HO.out)
      go_wp2
      go_ret
      exact ⟨ret_string HE.out, rfl⟩

/-! ### Format -/

theorem fmt_no {v : Val} (h : valid v = false) : fmt v = [] := by unfold fmt; rw [h]; rfl
theorem fmt_0 {n : Int} {s : List UInt8} (h : valid ⟨0, n, s⟩ = true) : fmt ⟨0, n, s⟩ = [110, 105, 108] := by unfold fmt; rw [h]; rfl
theorem fmt_1 {n : Int} {s : List UInt8} (h : valid ⟨1, n, s⟩ = true) : fmt ⟨1, n, s⟩ = Lib.itoa n := by unfold fmt; rw [h]; rfl
theorem fmt_2 {n : Int} {s : List UInt8} (h : valid ⟨2, n, s⟩ = true) : fmt ⟨2, n, s⟩ = quote s := by unfold fmt; rw [h]; rfl
set_option maxRecDepth 100000 in
theorem rfmt_any (k n : Int) (h0 : -9223372036854775808 ≤ n) (h1 : n ≤ 9223372036854775807) (s : ByteArray) (hs : s.size ≤ 1000000) (w : World) :
    Calls Tryd.prog 21 #[.agg #[.int .i64 k, .int .i64 n, .string s]] w fun e w' => e = .returned (.string ⟨(fmt ⟨k, n, s.data.toList⟩).toArray⟩) ∧ Below w.heap.size w w' := by
  have HV := Lib.hid (rvalid_any k n s (by omega))
  have HQ := Lib.hid (rquote_any s hs)
  have HF := Lib.hid (rformat_any n h0 h1)
  have HB := Lib.hid (Has.box w k n s)
  have HW := Lib.hid (below_box w (.cells #[.int .i64 k, .int .i64 n, .string s] 23))
  cases hv : valid ⟨k, n, s.data.toList⟩
  · have HE := Lib.hid (fmt_no hv)
    rw [hv] at HV
    clear hv
    go_enter Tryd.func21, Tryd.ntmps21
    go_wp2_with fail
    refine (HV.out _).mono ?_; rintro e w1 ⟨rfl, hb1⟩
    go_wp2_with fail
    go_ret
    exact ⟨ret_string (by rw [HE.out]), below_2 HW.out hb1⟩
  · rw [hv] at HV
    rcases valid_iff.1 hv with ⟨hk, _⟩ | ⟨hk, _⟩ | ⟨hk, _⟩
    · simp only at hk
      subst hk
      have HE := Lib.hid (fmt_0 hv)
      clear hv
      go_enter Tryd.func21, Tryd.ntmps21
      go_wp2_with fail
      refine (HV.out _).mono ?_; rintro e w1 ⟨rfl, hb1⟩
      obtain ⟨a0, a1, a2⟩ := HB.out.below hb1 (by simp)
      go_wp2_with fail
      go_ret
      exact ⟨ret_string (by rw [HE.out]), below_2 HW.out hb1⟩
    · simp only at hk
      subst hk
      have HE := Lib.hid (fmt_1 hv)
      clear hv
      go_enter Tryd.func21, Tryd.ntmps21
      go_wp2_with fail
      refine (HV.out _).mono ?_; rintro e w1 ⟨rfl, hb1⟩
      obtain ⟨a0, a1, a2⟩ := HB.out.below hb1 (by simp)
      go_wp2_with fail
      refine (HF.out _).mono ?_; rintro e w2 ⟨rfl, hb2⟩
      go_wp2_with fail
      go_ret
      exact ⟨ret_string (by rw [HE.out]), below_2 (below_2 HW.out hb1) hb2⟩
    · simp only at hk
      subst hk
      have HE := Lib.hid (fmt_2 hv)
      clear hv
      go_enter Tryd.func21, Tryd.ntmps21
      go_wp2_with fail
      refine (HV.out _).mono ?_; rintro e w1 ⟨rfl, hb1⟩
      obtain ⟨a0, a1, a2⟩ := HB.out.below hb1 (by simp)
      go_wp2_with fail
      refine (HQ.out _).mono ?_; rintro e w2 ⟨rfl, rfl⟩
      go_wp2_with fail
      go_ret
      exact ⟨ret_string (by rw [HE.out]), below_2 HW.out hb1⟩

/-! ### unquote -/

theorem un_char {c : UInt8} {r : List UInt8} (h1 : c ≠ 34) (h2 : c ≠ 92) : un (c :: r) = if prt c then (un r).map (c :: ·) else none := by
  cases r with
  | nil =>
    rw [un_one, if_neg h1]
    cases prt c <;> rfl
  | cons d r => exact un_plain h1 h2 (by simp)
theorem un_esc {d : UInt8} {r : List UInt8} (h : d = 34 ∨ d = 92) : un (92 :: d :: r) = (un r).map (d :: ·) := by rw [un_two, if_neg (by decide), if_pos rfl, if_pos h]
theorem un_esc_bad {d : UInt8} {r : List UInt8} (h : ¬ (d = 34 ∨ d = 92)) : un (92 :: d :: r) = none := by rw [un_two, if_neg (by decide), if_pos rfl, if_neg h]
theorem un_esc_end : un [92] = none := by rw [un_one, if_neg (by decide)]
theorem un_end : un [34] = some [] := by rw [un_one, if_pos rfl]
theorem un_more {d : UInt8} {r : List UInt8} : un (34 :: d :: r) = none := by rw [un_two, if_pos rfl]
/-- what has been read is o, and the rest is read from place i on -/
def Reads (s o : ByteArray) (i : Nat) : Prop := un (s.data.toList.drop 1) = (un (s.data.toList.drop i)).map (o.data.toList ++ ·)
theorem Reads.start (s : ByteArray) : Reads s ⟨#[]⟩ 1 := by
  unfold Reads
  cases un (s.data.toList.drop 1) <;> rfl
theorem drop_at {s : ByteArray} {i : Nat} (h : i < s.size) : s.data.toList.drop i = s[i] :: s.data.toList.drop (i + 1) := by
  rw [List.drop_eq_getElem_cons (by simpa using h)]; rfl
theorem drop_out {s : ByteArray} {i : Nat} (h : ¬ i < s.size) : s.data.toList.drop i = [] := List.drop_of_length_le (by have := size_len s; omega)
theorem map_more {o d : ByteArray} {c : UInt8} (hd : d.data.toList = [c]) (x : Option (List UInt8)) : (x.map (c :: ·)).map (o.data.toList ++ ·) = x.map ((o ++ d).data.toList ++ ·) := by
  cases x with
  | none => rfl
  | some t =>
    show some (o.data.toList ++ (c :: t)) = some ((o ++ d).data.toList ++ t)
    rw [append_list, hd, List.append_assoc]; rfl
theorem byte_is {c : UInt8} {m : Nat} (hm : m < 256) (h : (c.toNat : Int) = m) : c = m.toUInt8 := by
  refine UInt8.toNat_inj.1 ?_
  have e : m.toUInt8.toNat = m % 256 := rfl
  rw [e]; omega
theorem byte_not {c : UInt8} {m : Nat} (hm : m < 256) (h : ¬ (c.toNat : Int) = m) : c ≠ m.toUInt8 := by
  rintro rfl
  have e : m.toUInt8.toNat = m % 256 := rfl
  rw [e] at h; omega
theorem reads_none {s o : ByteArray} {i : Nat} (h : Reads s o i) (hu : un (s.data.toList.drop i) = none) : un (s.data.toList.drop 1) = none := by
  unfold Reads at h; rw [h, hu]; rfl
theorem reads_char {s o d : ByteArray} {i : Nat} (h : Reads s o i) (hi : i < s.size) (h1 : ¬ (s[i].toNat : Int) = 34) (h2 : ¬ (s[i].toNat : Int) = 92) :
    (prt s[i] = true → d.data.toList = [s[i]] → Reads s (o ++ d) (i + 1)) ∧ (prt s[i] = false → un (s.data.toList.drop 1) = none) := by
  have e := un_char (c := s[i]) (r := s.data.toList.drop (i + 1)) (byte_not (by decide) h1) (byte_not (by decide) h2)
  constructor
  · intro hp hd
    unfold Reads at h ⊢
    rw [h, drop_at hi, e, if_pos hp, map_more hd]
  · intro hp
    refine reads_none h ?_
    rw [drop_at hi, e, hp]; rfl
theorem reads_esc {s o d : ByteArray} {i : Nat} (h : Reads s o i) (hi : i < s.size) (h2 : (s[i].toNat : Int) = 92) (hj : i + 1 < s.size) :
    (((s[i + 1].toNat : Int) = 34 ∨ (s[i + 1].toNat : Int) = 92) → d.data.toList = [s[i + 1]] → Reads s (o ++ d) (i + 2)) ∧ (¬ ((s[i + 1].toNat : Int) = 34 ∨ (s[i + 1].toNat : Int) = 92) → un (s.data.toList.drop 1) = none) := by
  have e0 : s[i] = 92 := byte_is (m := 92) (by decide) h2
  constructor
  · intro hp hd
    unfold Reads at h ⊢
    rw [h, drop_at hi, drop_at hj, e0, un_esc (hp.elim (fun x => Or.inl (byte_is (m := 34) (by decide) x)) (fun x => Or.inr (byte_is (m := 92) (by decide) x))), map_more hd]
  · intro hp
    refine reads_none h ?_
    rw [drop_at hi, drop_at hj, e0]
    refine un_esc_bad fun x => hp ?_
    rcases x with x | x
    · left; rw [x]; rfl
    · right; rw [x]; rfl
theorem reads_cut {s o : ByteArray} {i : Nat} (h : Reads s o i) (hi : i < s.size) (h2 : (s[i].toNat : Int) = 92) (hj : ¬ i + 1 < s.size) : un (s.data.toList.drop 1) = none := by
  refine reads_none h ?_
  rw [drop_at hi, drop_out hj, byte_is (m := 92) (by decide) h2]
  exact un_esc_end
theorem reads_out {s o : ByteArray} {i : Nat} (h : Reads s o i) (hi : ¬ i < s.size) : un (s.data.toList.drop 1) = none := by
  refine reads_none h ?_
  rw [drop_out hi]; rfl
theorem reads_quote {s o : ByteArray} {i : Nat} (h : Reads s o i) (hi : i < s.size) (h1 : (s[i].toNat : Int) = 34) :
    (i + 1 = s.size → un (s.data.toList.drop 1) = some o.data.toList) ∧ (i + 1 ≠ s.size → un (s.data.toList.drop 1) = none) := by
  have e0 : s[i] = 34 := byte_is (m := 34) (by decide) h1
  constructor
  · intro hj
    unfold Reads at h
    rw [h, drop_at hi, drop_out (by omega), e0]
    show (un [34]).map _ = _
    rw [un_end]
    show some (o.data.toList ++ []) = _
    rw [List.append_nil]
  · intro hj
    refine reads_none h ?_
    rw [drop_at hi, drop_at (by omega), e0]
    exact un_more
/-- what unquote returns -/
def unqS (s : ByteArray) : ByteArray := match un (s.data.toList.drop 1) with | none => ⟨#[]⟩ | some t => if t.length ≤ 64 then ⟨t.toArray⟩ else ⟨#[]⟩
def unqE (s : ByteArray) : Int := match un (s.data.toList.drop 1) with | none => 5 | some t => if t.length ≤ 64 then 0 else 2
theorem unq_none {s : ByteArray} (h : un (s.data.toList.drop 1) = none) : unqS s = ⟨#[]⟩ ∧ unqE s = 5 := by unfold unqS unqE; rw [h]; exact ⟨rfl, rfl⟩
theorem unq_long {s o : ByteArray} (h : un (s.data.toList.drop 1) = some o.data.toList) (hl : ¬ o.size ≤ 64) : unqS s = ⟨#[]⟩ ∧ unqE s = 2 := by
  unfold unqS unqE; rw [h]
  rw [size_len] at hl
  exact ⟨if_neg hl, if_neg hl⟩
theorem unq_some {s o : ByteArray} (h : un (s.data.toList.drop 1) = some o.data.toList) (hl : o.size ≤ 64) : unqS s = o ∧ unqE s = 0 := by
  unfold unqS unqE; rw [h]
  rw [size_len] at hl
  exact ⟨if_pos hl, if_pos hl⟩
theorem ret_se {a b : ByteArray} {x y : Int} (h : a = b ∧ x = y) : Ending.returned (.tuple #[.string b, .int .i64 y]) = .returned (.tuple #[.string a, .int .i64 x]) := by rw [h.1, h.2]
set_option maxHeartbeats 2000000 in
set_option maxRecDepth 100000 in
theorem runquote_any (s : ByteArray) (hs : s.size ≤ 1000000) (hp : 0 < s.size) (w : World) :
    Calls Tryd.prog 43 #[.string s] w fun e w' => e = .returned (.tuple #[.string (unqS s), .int .i64 (unqE s)]) ∧ w' = w := by
  go_enter Tryd.func43, Tryd.ntmps43
  go_wp2
  go_loop [4, 5] (fun vo vi => ∃ (i : Nat) (o : ByteArray), 1 ≤ i ∧ i ≤ s.size ∧ vi = .int .i64 i ∧ vo = .string o ∧ o.size ≤ i ∧ Hid (Reads s o i)) (fun _ vi => s.size - (intOf vi).toNat)
  case atStart => exact ⟨1, ⟨#[]⟩, Nat.le_refl _, hp, rfl, rfl, Nat.zero_le _, Reads.start s⟩
  case round =>
    obtain ⟨i, o, hi1, hi, rfl, rfl, hz, HR⟩ := hrel
    by_cases hlt : i < s.size
    · by_cases h34 : (s[i].toNat : Int) = 34
      · by_cases hend : i + 1 = s.size
        · have HQ := Lib.hid ((reads_quote HR.out hlt h34).1 hend)
          by_cases hl : o.size ≤ 64
          · have HE := Lib.hid (unq_some HQ.out hl)
            go_wp2
            go_ret2
            exact ⟨ret_se HE.out, rfl⟩
          · have HE := Lib.hid (unq_long HQ.out hl)
            go_wp2
            go_ret2
            exact ⟨ret_se HE.out, rfl⟩
        · have HE := Lib.hid (unq_none ((reads_quote HR.out hlt h34).2 hend))
          go_wp2
          go_ret2
          exact ⟨ret_se HE.out, rfl⟩
      · by_cases h92 : (s[i].toNat : Int) = 92
        · by_cases hj : i + 1 < s.size
          · obtain ⟨d, hd, hd1, hrun⟩ := byte_run s (i + 1) hj
            rw [show ((i + 1 : Nat) : Int) = (i : Int) + 1 from by omega] at hrun
            by_cases hq : (s[i + 1].toNat : Int) = 34 ∨ (s[i + 1].toNat : Int) = 92
            · have HN := Lib.hid ((reads_esc HR.out hlt h92 hj).1 hq hd)
              clear hd
              rcases hq with hq | hq
              all_goals
                go_wp2
                go_round
                case rel => exact ⟨i + 2, o ++ d, by omega, by omega, by go_num, rfl, by simp; omega, HN⟩
                case measure => simp [intOf]; omega
            · have HE := Lib.hid (unq_none ((reads_esc (d := d) HR.out hlt h92 hj).2 hq))
              rw [not_or] at hq
              have q1 : ((s[i + 1].toNat : Int) != 34) = true := bne_iff_ne.2 hq.1
              have q2 : ((s[i + 1].toNat : Int) != 92) = true := bne_iff_ne.2 hq.2
              clear hd hrun hq
              go_wp2
              go_ret2
              exact ⟨ret_se HE.out, rfl⟩
          · have HE := Lib.hid (unq_none (reads_cut HR.out hlt h92 hj))
            go_wp2
            go_ret2
            exact ⟨ret_se HE.out, rfl⟩
        · obtain ⟨d, hd, hd1, hrun⟩ := byte_run s i hlt
          by_cases hok : prt s[i] = true
          · have HN := Lib.hid ((reads_char HR.out hlt h34 h92).1 hok hd)
            obtain ⟨g1, g2⟩ := (prt_iff _).1 hok
            clear hd hok
            go_wp2
            go_round
            case rel => exact ⟨i + 1, o ++ d, by omega, by omega, by go_num, rfl, by simp; omega, HN⟩
            case measure => simp [intOf]; omega
          · rw [Bool.not_eq_true] at hok
            have HE := Lib.hid (unq_none ((reads_char (d := d) HR.out hlt h34 h92).2 hok))
            have HO := Lib.hid hok
            clear hd hok hrun
            go_wp2
            all_goals first
              | (go_ret2; exact ⟨ret_se HE.out, rfl⟩)
              | (exfalso; have h := (prt_iff s[i]).2 (by omega); rw [HO.out] at h; exact absurd h (by decide))
    · have HE := Lib.hid (unq_none (reads_out HR.out hlt))
      obtain rfl : s.size = i := by omega
      go_wp2
      go_ret2
      exact ⟨ret_se HE.out, rfl⟩
end Go.Proofs.YtcedndjpdgpdgaaDoor.V
