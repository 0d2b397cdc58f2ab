/-
  The laws of layer 5, walked over whatever the program's own functions return (a structure of contracts): the examples; Valid, Int and Str; Parse; Encode; Decode.
-/
import Derived.Test.YtcedndjpdgpdgaaDoorVDecs
import Derived.Deep.DeepCutAuto
import Derived.Lib.SmallJoins
namespace Go.Proofs.YtcedndjpdgpdgaaDoor.V
open Go.RowKit

/-- the table that the program's Format may read lies as its initialiser lays it -/
def Tab (w : World) : Prop := Lib.TabIs Tryd.prog w "internal/strconv.uint64pow10" .u64 Lib.pow10Tab
theorem gPow5 : Tryd.prog.globalNamed "internal/strconv.uint64pow10" = some 0 := by kernel_rfl
theorem Tab.below {w w' : World} (h : Tab w) (hb : Below w.heap.size w w') : Tab w' := Joins.tab_stays gPow5 h hb (Nat.le_refl _)
/-- what the program's own functions return -/
structure Own : Prop where
  valid : ∀ (k n : Int) (s : ByteArray), s.size ≤ 1000000 → ∀ w, Tab w → Calls Tryd.prog 14 #[.agg #[.int .i64 k, .int .i64 n, .string s]] w fun e w' => e = .returned (.bool (valid ⟨k, n, s.data.toList⟩)) ∧ Below w.heap.size w w'
  int : ∀ (n : Int), ∀ w, Tab w → Calls Tryd.prog 16 #[.int .i64 n] w fun e w' => e = .returned (.agg #[.int .i64 1, .int .i64 n, .string ⟨#[]⟩]) ∧ Below w.heap.size w w'
  str : ∀ (s : ByteArray), s.size ≤ 1000000 → ∀ w, Tab w → Calls Tryd.prog 12 #[.string s] w fun e w' => e = .returned (strV s) ∧ Below w.heap.size w w'
  compare : ∀ (k n : Int) (s : ByteArray) (l m : Int) (t : ByteArray), ∀ w, Tab w → Calls Tryd.prog 18 #[.agg #[.int .i64 k, .int .i64 n, .string s], .agg #[.int .i64 l, .int .i64 m, .string t]] w fun e w' => e = .returned (.int .i64 (cmp ⟨k, n, s.data.toList⟩ ⟨l, m, t.data.toList⟩)) ∧ Below w.heap.size w w'
  fmt : ∀ (k n : Int) (s : ByteArray), -9223372036854775808 ≤ n → n ≤ 9223372036854775807 → s.size ≤ 1000000 → ∀ w, Tab w → Calls Tryd.prog 20 #[.agg #[.int .i64 k, .int .i64 n, .string s]] w fun e w' => e = .returned (.string ⟨(fmt ⟨k, n, s.data.toList⟩).toArray⟩) ∧ Below w.heap.size w w'
  ps : ∀ (s : ByteArray), s.size ≤ 1000000 → ∀ w, Tab w → Calls Tryd.prog 22 #[.string s] w fun e w' => e = .returned (pairV (ps s.data.toList)) ∧ Below w.heap.size w w'
  enc : ∀ (k n : Int) (s : ByteArray), -9223372036854775808 ≤ n → n ≤ 9223372036854775807 → s.size ≤ 1000000 → ∀ w, Tab w → Calls Tryd.prog 24 #[.agg #[.int .i64 k, .int .i64 n, .string s]] w fun e w' => e = .returned (.string ⟨(enc ⟨k, n, s.data.toList⟩).toArray⟩) ∧ Below w.heap.size w w'
  ds : ∀ (s : ByteArray), s.size ≤ 1000000 → ∀ (a : Int), -9223372036854775808 ≤ a → a ≤ 9223372036854775807 → ∀ w, Tab w → Calls Tryd.prog 26 #[.string s, .int .i64 a] w fun e w' => e = .returned (tripV (ds s.data.toList a)) ∧ Below w.heap.size w w'
/-- a contract, in every world that a region that only reads may come to -/
theorem grown {f : FuncId} {args : Array Value} {v : Value} {W : World} (hT : Tab W) (h : ∀ w, Tab w → Calls Tryd.prog f args w fun e w' => e = .returned v ∧ Below w.heap.size w w') (d : Nat) (os : Array Obj) :
    Calls Tryd.prog f args (Sort.grow (redrawn W d) os) fun e w'' => e = .returned v ∧ ∃ p : Regrown, w'' = Sort.grow (redrawn W p.d) p.os :=
  Calls.regrown_of (h _ (hT.below (below_regrown W d os)))
theorem grown' {f : FuncId} {args : Array Value} {v : Value} {W : World} (h : ∀ w, Calls Tryd.prog f args w fun e w' => e = .returned v ∧ Below w.heap.size w w') (d : Nat) (os : Array Obj) :
    Calls Tryd.prog f args (Sort.grow (redrawn W d) os) fun e w'' => e = .returned v ∧ ∃ p : Regrown, w'' = Sort.grow (redrawn W p.d) p.os :=
  Calls.regrown_of (h _)
theorem grown_has {W : World} {b : Nat} {k n : Int} {s : ByteArray} (h : Has W b k n s) :
    (∀ (d : Nat) (os : Array Obj), (Sort.grow (redrawn W d) os).cell? ⟨b, 0, none⟩ = some (.int .i64 k)) ∧ (∀ (d : Nat) (os : Array Obj), (Sort.grow (redrawn W d) os).cell? ⟨b, 1, none⟩ = some (.int .i64 n)) ∧ (∀ (d : Nat) (os : Array Obj), (Sort.grow (redrawn W d) os).cell? ⟨b, 2, none⟩ = some (.string s)) :=
  ⟨fun d os => cell_regrown h.kind d os, fun d os => cell_regrown h.num d os, fun d os => cell_regrown h.str d os⟩

/-! ### the examples -/

theorem p_1 : pairV (ps (ByteArray.mk #[45, 48]).data.toList) = .tuple #[.agg #[.int .i64 0, .int .i64 0, .string ⟨#[]⟩], .int .i64 5] := by
  rw [ps_other (by decide) (fun _ => by show ¬ ((45 : UInt8).toNat : Int) = 34; decide), show pE (ByteArray.mk #[45, 48]).data.toList = 5 from by decide]; rfl
theorem p_2 : pairV (ps (ByteArray.mk #[57, 50, 50, 51, 51, 55, 50, 48, 51, 54, 56, 53, 52, 55, 55, 53, 56, 48, 56]).data.toList) = .tuple #[.agg #[.int .i64 0, .int .i64 0, .string ⟨#[]⟩], .int .i64 3] := by
  rw [ps_other (by decide) (fun _ => by show ¬ ((57 : UInt8).toNat : Int) = 34; decide), show pE (ByteArray.mk #[57, 50, 50, 51, 51, 55, 50, 48, 51, 54, 56, 53, 52, 55, 55, 53, 56, 48, 56]).data.toList = 3 from by decide]; rfl
theorem p_4 : pairV (ps (ByteArray.mk #[34, 97, 92, 34, 98, 34]).data.toList) = .tuple #[.agg #[.int .i64 2, .int .i64 0, .string ⟨#[97, 34, 98]⟩], .int .i64 0] := by
  have h : un ((ByteArray.mk #[34, 97, 92, 34, 98, 34]).data.toList.drop 1) = some [97, 34, 98] := un_quote [97, 34, 98] (by decide)
  obtain ⟨h1, h2⟩ := unq_some (s := ⟨#[34, 97, 92, 34, 98, 34]⟩) (o := ⟨#[97, 34, 98]⟩) h (by decide)
  rw [ps_unq (by decide) (by decide), h1, h2]; rfl
theorem s_3 : strV ⟨#[97, 34, 98]⟩ = .tuple #[.agg #[.int .i64 2, .int .i64 0, .string ⟨#[97, 34, 98]⟩], .int .i64 0] := strV_yes (by decide)
theorem f_6 : (⟨(fmt ⟨1, -7, (ByteArray.mk #[]).data.toList⟩).toArray⟩ : ByteArray) = ⟨#[45, 55]⟩ := by
  rw [fmt_1 (by decide), show Lib.itoa (-7) = [45, 55] from by rw [Lib.itoa, if_pos (by decide), show (-7 : Int).natAbs = 7 from rfl, Lib.decDigits]; rfl]
theorem f_7 : (⟨(fmt ⟨2, 0, (ByteArray.mk #[97, 34, 98]).data.toList⟩).toArray⟩ : ByteArray) = ⟨#[34, 97, 92, 34, 98, 34]⟩ := by
  rw [fmt_2 (by decide)]; rfl
theorem e_8 : (⟨(enc ⟨1, -1, (ByteArray.mk #[]).data.toList⟩).toArray⟩ : ByteArray) = ⟨#[1, 1]⟩ := by
  rw [show enc ⟨1, -1, (ByteArray.mk #[]).data.toList⟩ = Lib.uvarint 1 ++ Lib.uvarint (Lib.zigzag (-1)) from rfl, show Lib.zigzag (-1) = 1 from by decide, Lib.uvarint_small (by decide)]; rfl
theorem c_10 : cmp ⟨1, 1, (ByteArray.mk #[]).data.toList⟩ ⟨2, 0, (ByteArray.mk #[97, 34, 98]).data.toList⟩ = -1 := by
  unfold cmp
  rw [if_pos (less_iff.2 (Or.inl (by show (1 : Int) < 2; decide)))]
theorem v_9 : valid ⟨2, 0, (ByteArray.mk #[97, 34, 98]).data.toList⟩ = true := by decide
set_option maxHeartbeats 2000000 in
set_option maxRecDepth 100000 in
theorem works_any (O : Own) (w : World) (hT : Tab w) : Calls Tryd.prog 11 #[] w fun e w' => e = .returned (.bool true) ∧ Below w.heap.size w w' := by
  have P1 := Lib.hid (O.ps ⟨#[45, 48]⟩ (by decide))
  have P2 := Lib.hid (O.ps ⟨#[57, 50, 50, 51, 51, 55, 50, 48, 51, 54, 56, 53, 52, 55, 55, 53, 56, 48, 56]⟩ (by decide))
  have P3 := Lib.hid (O.str ⟨#[97, 34, 98]⟩ (by decide))
  have P4 := Lib.hid (O.ps ⟨#[34, 97, 92, 34, 98, 34]⟩ (by decide))
  have P5 := Lib.hid (O.int (-7))
  have P6 := Lib.hid (O.fmt 1 (-7) ⟨#[]⟩ (by decide) (by decide) (by decide))
  have P7 := Lib.hid (O.fmt 2 0 ⟨#[97, 34, 98]⟩ (by decide) (by decide) (by decide))
  have P8 := Lib.hid (O.int (-1))
  have P9 := Lib.hid (O.enc 1 (-1) ⟨#[]⟩ (by decide) (by decide) (by decide))
  have P10 := Lib.hid (O.valid 2 0 ⟨#[97, 34, 98]⟩ (by decide))
  have P11 := Lib.hid (O.int 1)
  have P12 := Lib.hid (O.compare 1 1 ⟨#[]⟩ 2 0 ⟨#[97, 34, 98]⟩)
  rw [p_1] at P1
  rw [p_2] at P2
  rw [s_3] at P3
  rw [p_4] at P4
  rw [f_6] at P6
  rw [f_7] at P7
  rw [e_8] at P9
  rw [v_9] at P10
  rw [c_10] at P12
  have HT := Lib.hid hT
  clear hT O
  go_enter Tryd.func11, Tryd.ntmps11
  go_wp2_with fail
  refine (P1.out _ HT.out).mono ?_; rintro e w1 ⟨rfl, hb1⟩
  have B1 := Lib.hid (below_2 hb1 (below_box w1 (.cells #[.int .i64 0, .int .i64 0, .string ⟨#[]⟩] 23)))
  go_wp2_with fail
  refine (P2.out _ (HT.out.below B1.out)).mono ?_; rintro e w2 ⟨rfl, hb2⟩
  have B2 := Lib.hid (below_2 (below_2 B1.out hb2) (below_box w2 (.cells #[.int .i64 0, .int .i64 0, .string ⟨#[]⟩] 23)))
  go_wp2_with fail
  refine (P3.out _ (HT.out.below B2.out)).mono ?_; rintro e w3 ⟨rfl, hb3⟩
  have B3 := Lib.hid (below_2 (below_2 B2.out hb3) (below_box w3 (.cells #[.int .i64 2, .int .i64 0, .string ⟨#[97, 34, 98]⟩] 23)))
  have HS := Lib.hid (Has.box w3 2 0 ⟨#[97, 34, 98]⟩)
  go_wp2_with fail
  refine (P4.out _ (HT.out.below B3.out)).mono ?_; rintro e w4 ⟨rfl, hb4⟩
  have B4 := Lib.hid (below_2 (below_2 B3.out hb4) (below_box w4 (.cells #[.int .i64 2, .int .i64 0, .string ⟨#[97, 34, 98]⟩] 23)))
  have HT4 := Lib.hid (HT.out.below B4.out)
  obtain ⟨r0, r1, r2⟩ := grown_has ((HS.out.below hb4 (by simp)).alloc (by have := hb4.size; simp at this; omega) (.cells #[.int .i64 2, .int .i64 0, .string ⟨#[97, 34, 98]⟩] 23))
  obtain ⟨r3, r4, r5⟩ := grown_has (Has.box w4 2 0 ⟨#[97, 34, 98]⟩)
  have C5 := Lib.hid (grown HT4.out P5.out)
  have C6 := Lib.hid (grown HT4.out P6.out)
  have C7 := Lib.hid (grown HT4.out P7.out)
  have C8 := Lib.hid (grown HT4.out P8.out)
  have C9 := Lib.hid (grown HT4.out P9.out)
  have C10 := Lib.hid (grown HT4.out P10.out)
  have C11 := Lib.hid (grown HT4.out P11.out)
  have C12 := Lib.hid (grown HT4.out P12.out)
  go_wp2_with fail
  refine wp_region_quiet_below (by kernel_rfl) (by kernel_rfl) ?_
  repeat (go_big_quiet_step (first | with_reducible exact C5.out _ _ | with_reducible exact C6.out _ _ | with_reducible exact C7.out _ _ | with_reducible exact C8.out _ _ | with_reducible exact C9.out _ _ | with_reducible exact C10.out _ _ | with_reducible exact C11.out _ _ | with_reducible exact C12.out _ _))
  refine wpQuiet_nil ?_
  intro _ hw'
  obtain ⟨⟨dq, osq⟩, hw''⟩ := hw'
  subst hw''
  go_wp2_with fail
  go_ret
  exact ⟨rfl, below_2 B4.out (below_regrown _ _ _)⟩
end Go.Proofs.YtcedndjpdgpdgaaDoor.V
