/-
  What the program's own value functions return: isPlainByte, isSpecial, isPlain, Valid, Int, newString, Str, Compare and what it calls: contracts, one a function.
-/
import Derived.Test.YtcedndjpdgpdgaaDoorVLawsC
namespace Go.Proofs.YtcedndjpdgpdgaaDoor.V
open Go.RowKit

theorem opb_any (c : UInt8) (w : World) :
    Calls Tryd.prog 57 #[.int .u8 (c.toNat : Int)] w fun e w' => e = .returned (.bool (prt c)) ∧ w' = w := by
  by_cases hok : prt c = true
  · have HO := Lib.hid hok
    obtain ⟨g1, g2⟩ := (prt_iff _).1 hok
    clear hok
    go_enter Tryd.func57, Tryd.ntmps57
    go_wp2
    all_goals (go_ret; exact ⟨ret_bool (by rw [HO.out]), rfl⟩)
  · rw [Bool.not_eq_true] at hok
    have HO := Lib.hid hok
    clear hok
    go_enter Tryd.func57, Tryd.ntmps57
    go_wp2
    all_goals (go_ret; exact ⟨ret_bool (by first | (rw [HO.out]; done) | (rw [HO.out]; refine decide_eq_false fun h => ?_; have h2 := (prt_iff c).2 ⟨by omega, h⟩; rw [HO.out] at h2; cases h2)), rfl⟩)
/-- a byte behind a backslash -/
def spec (c : UInt8) : Bool := decide (c.toNat = 34 ∨ c.toNat = 92)
theorem spec_iff (c : UInt8) : spec c = true ↔ (c.toNat = 34 ∨ c.toNat = 92) := decide_eq_true_iff
theorem spec_all : ∀ n : Fin 256, decide (0 ≤ Lib.indexByte [34, 92] n.val.toUInt8) = decide (n.val = 34 ∨ n.val = 92) := by decide +kernel
theorem spec_index (c : UInt8) : decide (0 ≤ Lib.indexByte [34, 92] c) = spec c := by
  have h := spec_all ⟨c.toNat, byte_lt c⟩
  have e : c.toNat.toUInt8 = c := by simp
  simp only [e] at h
  exact h
theorem index_spec (c : UInt8) (w : World) :
    Calls Tryd.prog 80 #[.string ⟨#[34, 92]⟩, .int .u8 (c.toNat : Int)] w fun e w' => e = .returned (.int .i64 (Lib.indexByte [34, 92] c)) ∧ w' = w := by
  refine (Tryd.strings_IndexByte _ _ w).mono ?_
  intro e w' h
  obtain ⟨h1, h2⟩ := h
  refine ⟨?_, h2⟩
  rw [h1]
  simp
theorem ospec_any (c : UInt8) (w : World) :
    Calls Tryd.prog 63 #[.int .u8 (c.toNat : Int)] w fun e w' => e = .returned (.bool (spec c)) ∧ w' = w := by
  have HI := Lib.hid (index_spec c)
  have HS := Lib.hid (spec_index c)
  generalize spec c = S at HS
  generalize Lib.indexByte [34, 92] c = x at HI HS
  go_enter Tryd.func63, Tryd.ntmps63
  go_wp2_with (go_at_call 80; refine (HI.out _).mono ?_; rintro e w' ⟨rfl, rfl⟩)
  go_ret
  exact ⟨ret_bool HS.out, rfl⟩

set_option maxRecDepth 100000 in
theorem oplain_any (s : ByteArray) (hs : s.size ≤ 9223372036854775807) (w : World) :
    Calls Tryd.prog 28 #[.string s] w fun e w' => e = .returned (.bool (plain s.data.toList)) ∧ w' = w := by
  have HC := Lib.hid opb_any
  by_cases h64 : s.size ≤ 64
  · have HL := Lib.hid (plain_good h64)
    go_enter Tryd.func28, Tryd.ntmps28
    go_wp2
    go_loop [9] (fun vi => ∃ k : Nat, k ≤ s.size ∧ vi = .int .i64 k ∧ Hid (upto s k)) (fun vi => s.size - (intOf vi).toNat)
    case atStart => exact ⟨0, Nat.zero_le _, rfl, rfl⟩
    case round =>
      obtain ⟨k, hk, rfl, HU⟩ := hrel
      by_cases hlt : k < s.size
      · have HX := Lib.hid (HC.out s[k])
        by_cases hok : prt s[k] = true
        · have HN := Lib.hid (upto_next HU.out hlt hok)
          rw [hok] at HX
          clear hok
          go_wp2_with fail
          refine (HX.out _).mono ?_; rintro e w' ⟨rfl, rfl⟩
          go_wp2_with fail
          go_round
          case rel => exact ⟨k + 1, by omega, by go_num, HN⟩
          case measure => simp [intOf]; omega
        · rw [Bool.not_eq_true] at hok
          have HB := Lib.hid (plain_bad hlt hok)
          rw [hok] at HX
          clear hok
          go_wp2_with fail
          refine (HX.out _).mono ?_; rintro e w' ⟨rfl, rfl⟩
          go_wp2_with fail
          go_ret
          exact ⟨ret_bool HB.out.symm, rfl⟩
      · obtain rfl : s.size = k := by omega
        have HG := Lib.hid (HL.out HU.out)
        go_wp2_with fail
        go_ret
        exact ⟨ret_bool HG.out.symm, rfl⟩
  · have HB := Lib.hid (plain_long h64)
    go_enter Tryd.func28, Tryd.ntmps28
    go_wp2
    go_ret
    exact ⟨ret_bool HB.out.symm, rfl⟩

set_option maxRecDepth 100000 in
theorem ovalid_any (k n : Int) (s : ByteArray) (hs : s.size ≤ 9223372036854775807) (w : World) :
    Calls Tryd.prog 14 #[.agg #[.int .i64 k, .int .i64 n, .string s]] w fun e w' => e = .returned (.bool (valid ⟨k, n, s.data.toList⟩)) ∧ Below w.heap.size w w' := by
  have HW := Lib.hid (below_box w (.cells #[.int .i64 k, .int .i64 n, .string s] 23))
  by_cases h0 : k = 0
  · subst h0
    have HV := Lib.hid (valid_nil (n := n) (s := s))
    cases hn : (n == 0)
    all_goals
      rw [hn] at HV
      go_enter Tryd.func14, Tryd.ntmps14
      go_wp2_with fail
      go_ret
      exact ⟨ret_bool (by rw [HV.out]; rfl), HW.out⟩
  · by_cases h1 : k = 1
    · subst h1
      have HV := Lib.hid (valid_int (n := n) (s := s))
      clear h0
      go_enter Tryd.func14, Tryd.ntmps14
      go_wp2_with fail
      go_ret
      exact ⟨ret_bool (by rw [HV.out]), HW.out⟩
    · by_cases h2 : k = 2
      · subst h2
        have HV := Lib.hid (valid_str (n := n) (s := s))
        have HP := Lib.hid (oplain_any s hs)
        generalize plain s.data.toList = P at HV HP
        clear h0 h1
        cases hn : (n == 0)
        · rw [hn] at HV
          go_enter Tryd.func14, Tryd.ntmps14
          go_wp2_with fail
          go_ret
          exact ⟨ret_bool (by rw [HV.out]; rfl), HW.out⟩
        · rw [hn] at HV
          go_enter Tryd.func14, Tryd.ntmps14
          go_wp2_with fail
          refine (HP.out _).mono ?_; rintro e w1 ⟨rfl, rfl⟩
          go_wp2_with fail
          go_ret
          exact ⟨ret_bool (by rw [HV.out]; rfl), HW.out⟩
      · have HV := Lib.hid (valid_not (n := n) (s := s) h0 h1 h2)
        have b0 : (k == 0) = false := beq_eq_false_iff_ne.2 h0
        have b1 : (k == 1) = false := beq_eq_false_iff_ne.2 h1
        have b2 : (k == 2) = false := beq_eq_false_iff_ne.2 h2
        clear h0 h1 h2
        go_enter Tryd.func14, Tryd.ntmps14
        go_wp2_with fail
        go_ret
        exact ⟨ret_bool HV.out.symm, HW.out⟩

theorem oint_any (n : Int) (w : World) :
    Calls Tryd.prog 16 #[.int .i64 n] w fun e w' => e = .returned (.agg #[.int .i64 1, .int .i64 n, .string ⟨#[]⟩]) ∧ Below w.heap.size w w' := by
  have HW := Lib.hid (below_box w (.cells #[.int .i64 1, .int .i64 n, .string ⟨#[]⟩] 23))
  go_enter Tryd.func16, Tryd.ntmps16
  go_wp2_with fail
  refine bodyPost_ret (v := .agg #[.int .i64 1, .int .i64 n, .string ⟨#[]⟩]) (by simp [results, Tryd.results16, go_sem]) rfl ⟨rfl, HW.out⟩
theorem onew_any (s : ByteArray) (w : World) :
    Calls Tryd.prog 29 #[.string s] w fun e w' => e = .returned (.agg #[.int .i64 2, .int .i64 0, .string s]) ∧ Below w.heap.size w w' := by
  have HW := Lib.hid (below_box w (.cells #[.int .i64 2, .int .i64 0, .string s] 23))
  go_enter Tryd.func29, Tryd.ntmps29
  go_wp2_with fail
  refine bodyPost_ret (v := .agg #[.int .i64 2, .int .i64 0, .string s]) (by simp [results, Tryd.results29, go_sem]) rfl ⟨rfl, HW.out⟩

set_option maxRecDepth 100000 in
theorem ostr_any (s : ByteArray) (hs : s.size ≤ 1000000) (w : World) :
    Calls Tryd.prog 12 #[.string s] w fun e w' => e = .returned (strV s) ∧ Below w.heap.size w w' := by
  have HP := Lib.hid (oplain_any s (by omega))
  have HY := Lib.hid (strV_yes (s := s))
  have HN := Lib.hid (strV_no (s := s))
  have HM := Lib.hid (Mine.new w 0 0 ⟨#[]⟩)
  have HW := Lib.hid (fun x y z => below_box w (.cells #[.int .i64 x, .int .i64 y, .string z] 23))
  have HC := Lib.hid (fun w => W.clone_any s w (by omega))
  have HG := Lib.hid (onew_any s)
  generalize plain s.data.toList = P at HP HY HN
  cases P
  · go_enter Tryd.func12, Tryd.ntmps12
    go_wp2_with fail
    refine (HP.out _).mono ?_; rintro e w1 ⟨rfl, rfl⟩
    go_wp2_with fail
    refine bodyPost_ret (v := .tuple #[.agg #[.int .i64 0, .int .i64 0, .string ⟨#[]⟩], .int .i64 1]) (by simp [results, Tryd.results12, go_sem]) rfl ⟨?_, HW.out _ _ _⟩
    rw [HN.out trivial]
  · go_enter Tryd.func12, Tryd.ntmps12
    go_wp2_with fail
    refine (HP.out _).mono ?_; rintro e w1 ⟨rfl, rfl⟩
    go_wp2_with fail
    refine (HC.out _).mono ?_; rintro e w2 ⟨rfl, hb2⟩
    go_wp2_with fail
    refine (HG.out _).mono ?_; rintro e w3 ⟨rfl, hb3⟩
    obtain ⟨⟨x0, x1, x2, c0, c1, c2⟩, d0, d1, d2⟩ := (HM.out.below hb2 (by simp)).below hb3 (by have := hb2.size; simp at this; omega)
    go_wp2_with fail
    obtain ⟨q0, q1, q2⟩ := stored ⟨c0, c1, c2⟩ 2 0 s
    refine bodyPost_ret (v := .tuple #[.agg #[.int .i64 2, .int .i64 0, .string s], .int .i64 0]) (by simp [results, Tryd.results12, go_sem, q0, q1, q2]) rfl ⟨?_, stored_below (below_2 (below_2 (HW.out _ _ _) hb2) hb3) (Nat.le_refl _) _ _ _⟩
    rw [HY.out trivial]

/-! ### Compare -/

theorem cmp_lt {a b : Val} (h : less a b = true) : cmp a b = -1 := by unfold cmp; rw [if_pos h]
theorem cmp_gt {a b : Val} (h : less b a = true) : cmp a b = 1 := by
  have h1 := cmp_lt h
  have h2 := cmp_neg a b
  omega
/-- numbers compared -/
def ci (x y : Int) : Int := if x < y then -1 else if y < x then 1 else 0
/-- strings compared -/
def cs (x y : List UInt8) : Int := if x < y then -1 else if y < x then 1 else 0
theorem cmp_kind {a b : Val} (h : a.k ≠ b.k) : cmp a b = ci a.k b.k := by
  unfold ci
  by_cases h1 : a.k < b.k
  · rw [if_pos h1]; exact cmp_lt (less_iff.2 (Or.inl h1))
  · rw [if_neg h1, if_pos (by omega)]; exact cmp_gt (less_iff.2 (Or.inl (by omega)))
theorem cmp_num {a b : Val} (h : a.k = b.k) (h2 : a.n ≠ b.n) : cmp a b = ci a.n b.n := by
  unfold ci
  by_cases h1 : a.n < b.n
  · rw [if_pos h1]; exact cmp_lt (less_iff.2 (Or.inr ⟨h, Or.inl h1⟩))
  · rw [if_neg h1, if_pos (by omega)]; exact cmp_gt (less_iff.2 (Or.inr ⟨h.symm, Or.inl (by omega)⟩))
theorem cmp_str {a b : Val} (h : a.k = b.k) (h2 : a.n = b.n) : cmp a b = cs a.s b.s := by
  unfold cs
  by_cases h1 : a.s < b.s
  · rw [if_pos h1]; exact cmp_lt (less_iff.2 (Or.inr ⟨h, Or.inr ⟨h2, h1⟩⟩))
  · by_cases h3 : b.s < a.s
    · rw [if_neg h1, if_pos h3]; exact cmp_gt (less_iff.2 (Or.inr ⟨h.symm, Or.inr ⟨h2.symm, h3⟩⟩))
    · rw [if_neg h1, if_neg h3]; exact (cmp_zero a b).2 (Val.eq h h2 (lt_tri h1 h3))
theorem nan64_any (x : Int) (w : World) :
    Calls Tryd.prog 78 #[.int .i64 x] w fun e w' => e = .returned (.bool false) ∧ w' = w := by
  go_enter Tryd.func78, Tryd.ntmps78
  go_wp2
  go_ret
  exact ⟨ret_bool (by simp), rfl⟩
theorem nanS_any (x : ByteArray) (w : World) :
    Calls Tryd.prog 77 #[.string x] w fun e w' => e = .returned (.bool false) ∧ w' = w := by
  go_enter Tryd.func77, Tryd.ntmps77
  go_wp2
  go_ret
  exact ⟨ret_bool (by simp), rfl⟩
theorem cmpI_any (x y : Int) (w : World) :
    Calls Tryd.prog 32 #[.int .i64 x, .int .i64 y] w fun e w' => e = .returned (.int .i64 (ci x y)) ∧ w' = w := by
  refine (Tryd.cmp_Compare_int x y w).mono ?_
  rintro e w' ⟨rfl, rfl⟩
  exact ⟨ret_int (by unfold Lib.compareInt ci; rfl), rfl⟩
theorem cmp64_any (x y : Int) (w : World) :
    Calls Tryd.prog 61 #[.int .i64 x, .int .i64 y] w fun e w' => e = .returned (.int .i64 (ci x y)) ∧ w' = w := by
  have HN := Lib.hid nan64_any
  have key : ∀ v : Int, ci x y = v → Hid (ci x y = v) := fun _ h => h
  by_cases h1 : x < y
  · have HV := key (-1) (by unfold ci; rw [if_pos h1])
    clear key
    go_enter Tryd.func61, Tryd.ntmps61
    go_wp2_with fail
    refine (HN.out _ _).mono ?_; rintro e w1 ⟨rfl, rfl⟩
    go_wp2_with fail
    refine (HN.out _ _).mono ?_; rintro e w1 ⟨rfl, rfl⟩
    go_wp2_with fail
    go_ret
    exact ⟨ret_int HV.out.symm, rfl⟩
  · by_cases h2 : y < x
    · have HV := key 1 (by unfold ci; rw [if_neg h1, if_pos h2])
      clear key
      go_enter Tryd.func61, Tryd.ntmps61
      go_wp2_with fail
      refine (HN.out _ _).mono ?_; rintro e w1 ⟨rfl, rfl⟩
      go_wp2_with fail
      refine (HN.out _ _).mono ?_; rintro e w1 ⟨rfl, rfl⟩
      go_wp2_with fail
      go_ret
      exact ⟨ret_int HV.out.symm, rfl⟩
    · have HV := key 0 (by unfold ci; rw [if_neg h1, if_neg h2])
      clear key
      go_enter Tryd.func61, Tryd.ntmps61
      go_wp2_with fail
      refine (HN.out _ _).mono ?_; rintro e w1 ⟨rfl, rfl⟩
      go_wp2_with fail
      refine (HN.out _ _).mono ?_; rintro e w1 ⟨rfl, rfl⟩
      go_wp2_with fail
      go_ret
      exact ⟨ret_int HV.out.symm, rfl⟩
theorem cmpS_any (x y : ByteArray) (w : World) :
    Calls Tryd.prog 60 #[.string x, .string y] w fun e w' => e = .returned (.int .i64 (cs x.data.toList y.data.toList)) ∧ w' = w := by
  have HN := Lib.hid nanS_any
  have key : ∀ v : Int, cs x.data.toList y.data.toList = v → Hid (cs x.data.toList y.data.toList = v) := fun _ h => h
  cases h3 : Op.bytesLess x.toList y.toList
  · have n3 := h3
    rw [lss_eq] at n3
    have n3 := of_decide_eq_false n3
    cases h4 : (x.toList == y.toList)
    · have n4 := h4
      rw [eql_eq] at n4
      have n4 := of_decide_eq_false n4
      have HV := key 1 (by unfold cs; rw [if_neg n3, if_pos (Decidable.byContradiction fun h => n4 (lt_tri n3 h))])
      clear key n3 n4
      go_enter Tryd.func60, Tryd.ntmps60
      go_wp2_with fail
      refine (HN.out _ _).mono ?_; rintro e w1 ⟨rfl, rfl⟩
      go_wp2_with fail
      refine (HN.out _ _).mono ?_; rintro e w1 ⟨rfl, rfl⟩
      go_wp2_with fail
      go_ret
      exact ⟨ret_int HV.out.symm, rfl⟩
    · have n4 := h4
      rw [eql_eq] at n4
      have n4 := of_decide_eq_true n4
      have HV := key 0 (by unfold cs; rw [if_neg n3, if_neg (by rw [n4]; exact lt_irr _)])
      clear key n3 n4
      go_enter Tryd.func60, Tryd.ntmps60
      go_wp2_with fail
      refine (HN.out _ _).mono ?_; rintro e w1 ⟨rfl, rfl⟩
      go_wp2_with fail
      refine (HN.out _ _).mono ?_; rintro e w1 ⟨rfl, rfl⟩
      go_wp2_with fail
      go_ret
      exact ⟨ret_int HV.out.symm, rfl⟩
  · have n3 := h3
    rw [lss_eq] at n3
    have n3 := of_decide_eq_true n3
    have HV := key (-1) (by unfold cs; rw [if_pos n3])
    clear key n3
    go_enter Tryd.func60, Tryd.ntmps60
    go_wp2_with fail
    refine (HN.out _ _).mono ?_; rintro e w1 ⟨rfl, rfl⟩
    go_wp2_with fail
    refine (HN.out _ _).mono ?_; rintro e w1 ⟨rfl, rfl⟩
    go_wp2_with fail
    go_ret
    exact ⟨ret_int HV.out.symm, rfl⟩
set_option maxRecDepth 100000 in
theorem meths_any (k n : Int) (s : ByteArray) (l m : Int) (t : ByteArray) (w : World) :
    Calls Tryd.prog 33 #[.agg #[.int .i64 k, .int .i64 n, .string s], .agg #[.int .i64 l, .int .i64 m, .string t]] w fun e w' => e = .returned (.int .i64 (cs s.data.toList t.data.toList)) ∧ Below w.heap.size w w' := by
  have HW := Lib.hid (below_box2 w (.cells #[.int .i64 k, .int .i64 n, .string s] 44) (.cells #[.int .i64 l, .int .i64 m, .string t] 23))
  have HC := Lib.hid (cmpS_any s t)
  generalize cs s.data.toList t.data.toList = r at HC
  go_enter Tryd.func33, Tryd.ntmps33
  go_wp2_with fail
  refine (HC.out _).mono ?_; rintro e w1 ⟨rfl, rfl⟩
  go_wp2_with fail
  go_ret
  exact ⟨rfl, HW.out⟩
set_option maxRecDepth 100000 in
theorem methn_any (k n : Int) (s : ByteArray) (l m : Int) (t : ByteArray) (w : World) :
    Calls Tryd.prog 34 #[.agg #[.int .i64 k, .int .i64 n, .string s], .agg #[.int .i64 l, .int .i64 m, .string t]] w fun e w' => e = .returned (.int .i64 (ci n m)) ∧ Below w.heap.size w w' := by
  have HW := Lib.hid (below_box2 w (.cells #[.int .i64 k, .int .i64 n, .string s] 44) (.cells #[.int .i64 l, .int .i64 m, .string t] 23))
  have HC := Lib.hid (cmp64_any n m)
  generalize ci n m = r at HC
  go_enter Tryd.func34, Tryd.ntmps34
  go_wp2_with fail
  refine (HC.out _).mono ?_; rintro e w1 ⟨rfl, rfl⟩
  go_wp2_with fail
  go_ret
  exact ⟨rfl, HW.out⟩
set_option maxRecDepth 100000 in
theorem ocompare_any (k n : Int) (s : ByteArray) (l m : Int) (t : ByteArray) (w : World) :
    Calls Tryd.prog 18 #[.agg #[.int .i64 k, .int .i64 n, .string s], .agg #[.int .i64 l, .int .i64 m, .string t]] w fun e w' => e = .returned (.int .i64 (cmp ⟨k, n, s.data.toList⟩ ⟨l, m, t.data.toList⟩)) ∧ Below w.heap.size w w' := by
  have hmf : ∀ (fn : Fn) (first cap : Array Value) (w : World), (Instr.makeFunc fn first cap).run Tryd.prog w = .ok (.func fn first cap) w := fun _ _ _ _ => rfl
  have HW := Lib.hid (below_box2 w (.cells #[.int .i64 k, .int .i64 n, .string s] 23) (.cells #[.int .i64 l, .int .i64 m, .string t] 23))
  by_cases h1 : k = l
  · by_cases h2 : n = m
    · have HV := Lib.hid (cmp_str (a := ⟨k, n, s.data.toList⟩) (b := ⟨l, m, t.data.toList⟩) h1 h2)
      have HC := Lib.hid (meths_any k n s l m t)
      have b1 : (k != l) = false := by rw [h1]; simp
      have b2 : (n != m) = false := by rw [h2]; simp
      clear h1 h2
      go_enter Tryd.func18, Tryd.ntmps18
      go_wp2_with fail
      refine (HC.out _).mono ?_; rintro e w1 ⟨rfl, hb1⟩
      go_wp2_with fail
      go_ret
      exact ⟨ret_int HV.out.symm, below_2 HW.out hb1⟩
    · have HV := Lib.hid (cmp_num (a := ⟨k, n, s.data.toList⟩) (b := ⟨l, m, t.data.toList⟩) h1 h2)
      have HC := Lib.hid (methn_any k n s l m t)
      have b1 : (k != l) = false := by rw [h1]; simp
      have b2 : (n != m) = true := bne_iff_ne.2 h2
      clear h1 h2
      go_enter Tryd.func18, Tryd.ntmps18
      go_wp2_with fail
      refine (HC.out _).mono ?_; rintro e w1 ⟨rfl, hb1⟩
      go_wp2_with fail
      go_ret
      exact ⟨ret_int HV.out.symm, below_2 HW.out hb1⟩
  · have HV := Lib.hid (cmp_kind (a := ⟨k, n, s.data.toList⟩) (b := ⟨l, m, t.data.toList⟩) h1)
    have HC := Lib.hid (cmpI_any k l)
    have b1 : (k != l) = true := bne_iff_ne.2 h1
    clear h1
    go_enter Tryd.func18, Tryd.ntmps18
    go_wp2_with fail
    refine (HC.out _).mono ?_; rintro e w1 ⟨rfl, rfl⟩
    go_wp2_with fail
    go_ret
    exact ⟨ret_int HV.out.symm, HW.out⟩
end Go.Proofs.YtcedndjpdgpdgaaDoor.V
