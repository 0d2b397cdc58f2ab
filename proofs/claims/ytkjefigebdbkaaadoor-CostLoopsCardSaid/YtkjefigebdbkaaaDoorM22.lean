/-
  What the program's functions ofProc, Steps, Gets, Puts, Emits and Check of layer 13 return: contracts.
  The law package of layer 13: of: a contract.
  The law package of layer 13: the example: contract.
  The laws of layer 13: a loop around the body multiplies the counts.
  The laws of layer 13: renaming a variable does not change the counts.
-/
import Derived.Test.YtkjefigebdbkaaaDoorM21
import Derived.Test.YtkjefigebdbkaaaDoorM19
import Derived.Test.YtkjefigebdbkaaaDoorM07
import Derived.Test.YtkjefigebdbkaaaDoorSYRK
import Derived.Test.YtkjefigebdbkaaaDoorM11
import Derived.Lib.QuietBelow
import Derived.BigQuiet
namespace Go.Proofs.YtkjefigebdbkaaaDoor.Q
open Go.RowKit
open A (Ex St Pr Bx okB okS cE cB cS Bodies OkP PrIn prV prO)
open L (below_2 below_box ret_bool ret_int)

structure Ci where
  s : Int
  g : Int
  u : Int
  m : Int
def ciV (c : Ci) : Value := .agg #[.int .i64 c.s, .int .i64 c.g, .int .i64 c.u, .int .i64 c.m]
def Ci.of (c : Ct) : Ci := ⟨c.s, c.g, c.u, c.m⟩
def Ci.no : Ci := ⟨-1, -1, -1, -1⟩
/-- the four counts of a procedure -/
def cst (p : Pr) : Ci := if N.checkN p ≠ 0 then Ci.no else Ci.of (exB p.body).cut
/-- Check -/
def costE (c : Ci) (e : Int) : Int := if e ≠ 0 then e else if 16384 < c.s then 13 else if 64 < c.g ∨ 64 < c.u ∨ 16 < c.m then 2 else 0
theorem chk_of {p : Pr} (h : N.checkN p = 0) : (Y.chk p).2 = 0 := by
  unfold N.checkN at h
  apply Decidable.byContradiction
  intro h0
  rw [if_pos h0] at h
  exact h0 h
theorem val_of {p : Pr} (h : N.checkN p = 0) : A.valE p = 0 := ((Y.chk_main p).2 (chk_of h)).val
theorem list_of {p : Pr} (h : N.checkN p = 0) (hok : OkP p) (a2 : Option Addr) (c2 : Nat) (w : World) (hK : Bodies w a2 p.body) :
    Calls Tryd.prog 61 #[.slice a2 p.body.length c2] w fun e' w' => e' = .returned (ctV (exB p.body).cut) ∧ Below w.heap.size w w' :=
  olist_any p.body a2 c2 w hok.bodyLen hok.body (go_val (val_of h)) (by have := N.val_cB (val_of h); omega) hK
set_option maxHeartbeats 8000000 in
set_option maxRecDepth 100000 in
theorem oproc_any (p : Pr) (a1 a2 : Option Addr) (c1 c2 : Nat) (hok : OkP p) (hc1 : p.params.length ≤ c1) (w : World) (ht : Y.Tb w) (hK : PrIn w p a1 a2) :
    Calls Tryd.prog 29 #[prV p a1 c1 a2 c2] w fun e' w' => e' = .returned (.tuple #[ciV (cst p), .int .i64 (N.checkN p)]) ∧ Below w.heap.size w w' := by
  obtain ⟨W1, e1⟩ : ∃ z, z = w.alloc (.cells #[.string p.name, .slice a1 p.params.length c1, .slice a2 p.body.length c2] 25) := ⟨_, rfl⟩
  have bb1 : Below w.heap.size w W1 := by rw [e1]; exact below_box _ _
  have xx1 := Bx.new w #[.string p.name, .slice a1 p.params.length c1, .slice a2 p.body.length c2] 25
  rw [← e1] at xx1
  have s1 : W1.heap.size = w.heap.size + 1 := by rw [e1]; simp
  obtain ⟨W2, e2⟩ : ∃ z, z = W1.alloc (.cells #[.int .i64 0, .int .i64 0, .int .i64 0, .int .i64 0] 68) := ⟨_, rfl⟩
  have bb2 : Below W1.heap.size W1 W2 := by rw [e2]; exact below_box _ _
  have xx2 := Bx.new W1 #[.int .i64 0, .int .i64 0, .int .i64 0, .int .i64 0] 68
  rw [← e2] at xx2
  rw [s1] at xx2
  have HB := Lib.hid (below_2 bb1 bb2)
  have HX := Lib.hid (xx1.below bb2)
  have HZ := Lib.hid xx2
  have HW : Hid ((w.alloc (.cells #[.string p.name, .slice a1 p.params.length c1, .slice a2 p.body.length c2] 25)).alloc (.cells #[.int .i64 0, .int .i64 0, .int .i64 0, .int .i64 0] 68) = W2) := by show _ = _; rw [← e1, ← e2]
  have HC := Lib.hid (N.oCheck_any p a1 a2 c1 c2 hok hc1 W2 (ht.below HB.out) (hK.below HB.out))
  have HK := Lib.hid (hK.below HB.out)
  have HLs : Hid (N.checkN p = 0 → ∀ w', Below W2.heap.size W2 w' → Calls Tryd.prog 61 #[.slice a2 p.body.length c2] w' fun e' w'' => e' = .returned (ctV (exB p.body).cut) ∧ Below w'.heap.size w' w'') := fun h w' hb => list_of h hok a2 c2 w' (HK.out.below hb).body
  obtain ⟨V, hV⟩ : ∃ V, cst p = V := ⟨_, rfl⟩
  have hV2 : (if N.checkN p ≠ 0 then Ci.no else Ci.of (exB p.body).cut) = V := hV
  rw [hV]
  have HV := Lib.hid hV2
  generalize N.checkN p = E at *
  clear e1 e2 bb1 bb2 xx1 xx2 s1 hok hc1 ht hK hV hV2
  unfold prV at HC ⊢
  by_cases h0 : E = 0
  case neg =>
    have b1 : (E != 0) = true := bne_iff_ne.2 h0
    have hv := HV.out
    rw [if_pos h0] at hv
    subst hv
    clear h0 HV
    go_enter Tryd.func29, Tryd.ntmps29
    go_wp2_with fail
    rw [HW.out]
    have x0 := HX.out.cell 0
    have x1 := HX.out.cell 1
    have x2 := HX.out.cell 2
    simp only [List.getElem?_toArray, List.getElem?_cons_zero, List.getElem?_cons_succ] at x0 x1 x2
    go_wp2_with fail
    refine HC.out.mono ?_; rintro e' w3 ⟨rfl, hb3⟩
    have HB3 := Lib.hid (below_2 HB.out hb3)
    have hz3 := HZ.out.below hb3
    clear hb3 x0 x1 x2
    obtain ⟨d0, d1, d2, d3, d4, d5, d6, d7⟩ := four_open hz3
    have hz := four_set hz3 (.int .i64 (-1)) (.int .i64 (-1)) (.int .i64 (-1)) (.int .i64 (-1))
    have q0 := hz.cell 0
    have q1 := hz.cell 1
    have q2 := hz.cell 2
    have q3 := hz.cell 3
    simp only [List.getElem?_toArray, List.getElem?_cons_zero, List.getElem?_cons_succ] at q0 q1 q2 q3
    clear hz
    go_wp2_with fail
    refine bodyPost_ret (v := .tuple #[.agg #[.int .i64 (-1), .int .i64 (-1), .int .i64 (-1), .int .i64 (-1)], .int .i64 E]) (by simp [results, Tryd.results29, go_sem, q0, q1, q2, q3]) rfl ?_
    exact ⟨rfl, four_below HB3.out (Nat.le_succ _) _ _ _ _⟩
  subst h0
  have hv := HV.out
  rw [if_neg (fun z => z rfl)] at hv
  have HL2 := Lib.hid (HLs.out rfl)
  generalize (exB p.body).cut = X at hv HL2
  subst hv
  unfold ctV at HL2
  clear HV HLs
  go_enter Tryd.func29, Tryd.ntmps29
  go_wp2_with fail
  rw [HW.out]
  have x0 := HX.out.cell 0
  have x1 := HX.out.cell 1
  have x2 := HX.out.cell 2
  simp only [List.getElem?_toArray, List.getElem?_cons_zero, List.getElem?_cons_succ] at x0 x1 x2
  go_wp2_with fail
  refine HC.out.mono ?_; rintro e' w3 ⟨rfl, hb3⟩
  have HB3 := Lib.hid hb3
  have x3 := (HX.out.below hb3).cell 2
  simp only [List.getElem?_toArray, List.getElem?_cons_zero, List.getElem?_cons_succ] at x3
  clear hb3 x0 x1 x2
  go_wp2_with fail
  refine (HL2.out _ HB3.out).mono ?_; rintro e' w4 ⟨rfl, hb4⟩
  have HB4 := Lib.hid (below_2 HB.out (below_2 HB3.out hb4))
  have hz4 := HZ.out.below (below_2 HB3.out hb4)
  clear hb4 x3
  obtain ⟨d0, d1, d2, d3, d4, d5, d6, d7⟩ := four_open hz4
  have hz := four_set hz4 (.int .i64 (X.s : Int)) (.int .i64 (X.g : Int)) (.int .i64 (X.u : Int)) (.int .i64 (X.m : Int))
  have q0 := hz.cell 0
  have q1 := hz.cell 1
  have q2 := hz.cell 2
  have q3 := hz.cell 3
  simp only [List.getElem?_toArray, List.getElem?_cons_zero, List.getElem?_cons_succ] at q0 q1 q2 q3
  clear hz
  go_wp2_with fail
  refine bodyPost_ret (v := .tuple #[.agg #[.int .i64 (X.s : Int), .int .i64 (X.g : Int), .int .i64 (X.u : Int), .int .i64 (X.m : Int)], .int .i64 0]) (by simp [results, Tryd.results29, go_sem, q0, q1, q2, q3]) rfl ?_
  exact ⟨rfl, four_below HB4.out (Nat.le_succ _) _ _ _ _⟩
set_option maxHeartbeats 8000000 in
set_option maxRecDepth 100000 in
theorem oSteps_any (p : Pr) (a1 a2 : Option Addr) (c1 c2 : Nat) (hok : OkP p) (hc1 : p.params.length ≤ c1) (w : World) (ht : Y.Tb w) (hK : PrIn w p a1 a2) :
    Calls Tryd.prog 30 #[prV p a1 c1 a2 c2] w fun e' w' => e' = .returned (.int .i64 (cst p).s) ∧ Below w.heap.size w w' := by
  obtain ⟨W1, e1⟩ : ∃ z, z = w.alloc (.cells #[.string p.name, .slice a1 p.params.length c1, .slice a2 p.body.length c2] 25) := ⟨_, rfl⟩
  have bb1 : Below w.heap.size w W1 := by rw [e1]; exact below_box _ _
  have xx1 := Bx.new w #[.string p.name, .slice a1 p.params.length c1, .slice a2 p.body.length c2] 25
  rw [← e1] at xx1
  have s1 : W1.heap.size = w.heap.size + 1 := by rw [e1]; simp
  have HB := Lib.hid bb1
  have HX := Lib.hid xx1
  have HW : Hid (w.alloc (.cells #[.string p.name, .slice a1 p.params.length c1, .slice a2 p.body.length c2] 25) = W1) := by show _ = _; rw [← e1]
  have HC := Lib.hid (oproc_any p a1 a2 c1 c2 hok hc1 W1 (ht.below HB.out) (hK.below HB.out))
  generalize N.checkN p = E at *
  generalize cst p = C at *
  obtain ⟨C0, C1, C2, C3⟩ := C
  clear e1 bb1 xx1 s1 hok hc1 ht hK
  unfold ciV at HC
  unfold prV at HC ⊢
  go_enter Tryd.func30, Tryd.ntmps30
  go_wp2_with fail
  rw [HW.out]
  have x0 := HX.out.cell 0
  have x1 := HX.out.cell 1
  have x2 := HX.out.cell 2
  simp only [List.getElem?_toArray, List.getElem?_cons_zero, List.getElem?_cons_succ] at x0 x1 x2
  go_wp2_with fail
  refine HC.out.mono ?_; rintro e' w3 ⟨rfl, hb3⟩
  have HB3 := Lib.hid (below_2 HB.out hb3)
  clear hb3 x0 x1 x2
  go_wp2_with fail
  go_ret
  exact ⟨rfl, below_2 HB3.out (below_box _ _)⟩
set_option maxHeartbeats 8000000 in
set_option maxRecDepth 100000 in
theorem oGets_any (p : Pr) (a1 a2 : Option Addr) (c1 c2 : Nat) (hok : OkP p) (hc1 : p.params.length ≤ c1) (w : World) (ht : Y.Tb w) (hK : PrIn w p a1 a2) :
    Calls Tryd.prog 31 #[prV p a1 c1 a2 c2] w fun e' w' => e' = .returned (.int .i64 (cst p).g) ∧ Below w.heap.size w w' := by
  obtain ⟨W1, e1⟩ : ∃ z, z = w.alloc (.cells #[.string p.name, .slice a1 p.params.length c1, .slice a2 p.body.length c2] 25) := ⟨_, rfl⟩
  have bb1 : Below w.heap.size w W1 := by rw [e1]; exact below_box _ _
  have xx1 := Bx.new w #[.string p.name, .slice a1 p.params.length c1, .slice a2 p.body.length c2] 25
  rw [← e1] at xx1
  have s1 : W1.heap.size = w.heap.size + 1 := by rw [e1]; simp
  have HB := Lib.hid bb1
  have HX := Lib.hid xx1
  have HW : Hid (w.alloc (.cells #[.string p.name, .slice a1 p.params.length c1, .slice a2 p.body.length c2] 25) = W1) := by show _ = _; rw [← e1]
  have HC := Lib.hid (oproc_any p a1 a2 c1 c2 hok hc1 W1 (ht.below HB.out) (hK.below HB.out))
  generalize N.checkN p = E at *
  generalize cst p = C at *
  obtain ⟨C0, C1, C2, C3⟩ := C
  clear e1 bb1 xx1 s1 hok hc1 ht hK
  unfold ciV at HC
  unfold prV at HC ⊢
  go_enter Tryd.func31, Tryd.ntmps31
  go_wp2_with fail
  rw [HW.out]
  have x0 := HX.out.cell 0
  have x1 := HX.out.cell 1
  have x2 := HX.out.cell 2
  simp only [List.getElem?_toArray, List.getElem?_cons_zero, List.getElem?_cons_succ] at x0 x1 x2
  go_wp2_with fail
  refine HC.out.mono ?_; rintro e' w3 ⟨rfl, hb3⟩
  have HB3 := Lib.hid (below_2 HB.out hb3)
  clear hb3 x0 x1 x2
  go_wp2_with fail
  go_ret
  exact ⟨rfl, below_2 HB3.out (below_box _ _)⟩
set_option maxHeartbeats 8000000 in
set_option maxRecDepth 100000 in
theorem oPuts_any (p : Pr) (a1 a2 : Option Addr) (c1 c2 : Nat) (hok : OkP p) (hc1 : p.params.length ≤ c1) (w : World) (ht : Y.Tb w) (hK : PrIn w p a1 a2) :
    Calls Tryd.prog 32 #[prV p a1 c1 a2 c2] w fun e' w' => e' = .returned (.int .i64 (cst p).u) ∧ Below w.heap.size w w' := by
  obtain ⟨W1, e1⟩ : ∃ z, z = w.alloc (.cells #[.string p.name, .slice a1 p.params.length c1, .slice a2 p.body.length c2] 25) := ⟨_, rfl⟩
  have bb1 : Below w.heap.size w W1 := by rw [e1]; exact below_box _ _
  have xx1 := Bx.new w #[.string p.name, .slice a1 p.params.length c1, .slice a2 p.body.length c2] 25
  rw [← e1] at xx1
  have s1 : W1.heap.size = w.heap.size + 1 := by rw [e1]; simp
  have HB := Lib.hid bb1
  have HX := Lib.hid xx1
  have HW : Hid (w.alloc (.cells #[.string p.name, .slice a1 p.params.length c1, .slice a2 p.body.length c2] 25) = W1) := by show _ = _; rw [← e1]
  have HC := Lib.hid (oproc_any p a1 a2 c1 c2 hok hc1 W1 (ht.below HB.out) (hK.below HB.out))
  generalize N.checkN p = E at *
  generalize cst p = C at *
  obtain ⟨C0, C1, C2, C3⟩ := C
  clear e1 bb1 xx1 s1 hok hc1 ht hK
  unfold ciV at HC
  unfold prV at HC ⊢
  go_enter Tryd.func32, Tryd.ntmps32
  go_wp2_with fail
  rw [HW.out]
  have x0 := HX.out.cell 0
  have x1 := HX.out.cell 1
  have x2 := HX.out.cell 2
  simp only [List.getElem?_toArray, List.getElem?_cons_zero, List.getElem?_cons_succ] at x0 x1 x2
  go_wp2_with fail
  refine HC.out.mono ?_; rintro e' w3 ⟨rfl, hb3⟩
  have HB3 := Lib.hid (below_2 HB.out hb3)
  clear hb3 x0 x1 x2
  go_wp2_with fail
  go_ret
  exact ⟨rfl, below_2 HB3.out (below_box _ _)⟩
set_option maxHeartbeats 8000000 in
set_option maxRecDepth 100000 in
theorem oEmits_any (p : Pr) (a1 a2 : Option Addr) (c1 c2 : Nat) (hok : OkP p) (hc1 : p.params.length ≤ c1) (w : World) (ht : Y.Tb w) (hK : PrIn w p a1 a2) :
    Calls Tryd.prog 33 #[prV p a1 c1 a2 c2] w fun e' w' => e' = .returned (.int .i64 (cst p).m) ∧ Below w.heap.size w w' := by
  obtain ⟨W1, e1⟩ : ∃ z, z = w.alloc (.cells #[.string p.name, .slice a1 p.params.length c1, .slice a2 p.body.length c2] 25) := ⟨_, rfl⟩
  have bb1 : Below w.heap.size w W1 := by rw [e1]; exact below_box _ _
  have xx1 := Bx.new w #[.string p.name, .slice a1 p.params.length c1, .slice a2 p.body.length c2] 25
  rw [← e1] at xx1
  have s1 : W1.heap.size = w.heap.size + 1 := by rw [e1]; simp
  have HB := Lib.hid bb1
  have HX := Lib.hid xx1
  have HW : Hid (w.alloc (.cells #[.string p.name, .slice a1 p.params.length c1, .slice a2 p.body.length c2] 25) = W1) := by show _ = _; rw [← e1]
  have HC := Lib.hid (oproc_any p a1 a2 c1 c2 hok hc1 W1 (ht.below HB.out) (hK.below HB.out))
  generalize N.checkN p = E at *
  generalize cst p = C at *
  obtain ⟨C0, C1, C2, C3⟩ := C
  clear e1 bb1 xx1 s1 hok hc1 ht hK
  unfold ciV at HC
  unfold prV at HC ⊢
  go_enter Tryd.func33, Tryd.ntmps33
  go_wp2_with fail
  rw [HW.out]
  have x0 := HX.out.cell 0
  have x1 := HX.out.cell 1
  have x2 := HX.out.cell 2
  simp only [List.getElem?_toArray, List.getElem?_cons_zero, List.getElem?_cons_succ] at x0 x1 x2
  go_wp2_with fail
  refine HC.out.mono ?_; rintro e' w3 ⟨rfl, hb3⟩
  have HB3 := Lib.hid (below_2 HB.out hb3)
  clear hb3 x0 x1 x2
  go_wp2_with fail
  go_ret
  exact ⟨rfl, below_2 HB3.out (below_box _ _)⟩
set_option maxHeartbeats 8000000 in
set_option maxRecDepth 100000 in
theorem oCost_any (p : Pr) (a1 a2 : Option Addr) (c1 c2 : Nat) (hok : OkP p) (hc1 : p.params.length ≤ c1) (w : World) (ht : Y.Tb w) (hK : PrIn w p a1 a2) :
    Calls Tryd.prog 12 #[prV p a1 c1 a2 c2] w fun e' w' => e' = .returned (.int .i64 (costE (cst p) (N.checkN p))) ∧ Below w.heap.size w w' := by
  obtain ⟨W1, e1⟩ : ∃ z, z = w.alloc (.cells #[.string p.name, .slice a1 p.params.length c1, .slice a2 p.body.length c2] 25) := ⟨_, rfl⟩
  have bb1 : Below w.heap.size w W1 := by rw [e1]; exact below_box _ _
  have xx1 := Bx.new w #[.string p.name, .slice a1 p.params.length c1, .slice a2 p.body.length c2] 25
  rw [← e1] at xx1
  have s1 : W1.heap.size = w.heap.size + 1 := by rw [e1]; simp
  have HB := Lib.hid bb1
  have HX := Lib.hid xx1
  have HW : Hid (w.alloc (.cells #[.string p.name, .slice a1 p.params.length c1, .slice a2 p.body.length c2] 25) = W1) := by show _ = _; rw [← e1]
  have HC := Lib.hid (oproc_any p a1 a2 c1 c2 hok hc1 W1 (ht.below HB.out) (hK.below HB.out))
  generalize N.checkN p = E at *
  generalize cst p = C at *
  obtain ⟨C0, C1, C2, C3⟩ := C
  clear e1 bb1 xx1 s1 hok hc1 ht hK
  obtain ⟨R, hR⟩ : ∃ R, costE ⟨C0, C1, C2, C3⟩ E = R := ⟨_, rfl⟩
  rw [hR]
  have hR1 : (if E ≠ 0 then E else if 16384 < C0 then 13 else if 64 < C1 ∨ 64 < C2 ∨ 16 < C3 then 2 else 0) = R := hR
  have HR := Lib.hid hR1
  clear hR hR1
  unfold ciV at HC
  unfold prV at HC ⊢
  by_cases h0 : E = 0
  case neg =>
    have b1 : (E != 0) = true := bne_iff_ne.2 h0
    obtain rfl : E = R := by rw [← HR.out, if_pos h0]
    clear h0 HR
    go_enter Tryd.func12, Tryd.ntmps12
    go_wp2_with fail
    rw [HW.out]
    have x0 := HX.out.cell 0
    have x1 := HX.out.cell 1
    have x2 := HX.out.cell 2
    simp only [List.getElem?_toArray, List.getElem?_cons_zero, List.getElem?_cons_succ] at x0 x1 x2
    go_wp2_with fail
    refine HC.out.mono ?_; rintro e' w3 ⟨rfl, hb3⟩
    have HB3 := Lib.hid (below_2 HB.out hb3)
    clear hb3 x0 x1 x2
    go_wp2_with fail
    go_ret
    exact ⟨rfl, below_2 HB3.out (below_box _ _)⟩
  subst h0
  by_cases h0 : 16384 < C0
  · have b0 : decide (16384 < C0) = true := decide_eq_true h0
    obtain rfl : 13 = R := by rw [← HR.out, if_neg (fun z => z rfl), if_pos h0]
    clear HR
    go_enter Tryd.func12, Tryd.ntmps12
    go_wp2_with fail
    rw [HW.out]
    have x0 := HX.out.cell 0
    have x1 := HX.out.cell 1
    have x2 := HX.out.cell 2
    simp only [List.getElem?_toArray, List.getElem?_cons_zero, List.getElem?_cons_succ] at x0 x1 x2
    go_wp2_with fail
    refine HC.out.mono ?_; rintro e' w3 ⟨rfl, hb3⟩
    have HB3 := Lib.hid (below_2 HB.out hb3)
    clear hb3 x0 x1 x2
    go_wp2_with fail
    go_ret
    exact ⟨rfl, below_2 HB3.out (below_box _ _)⟩
  have b0 : decide (16384 < C0) = false := decide_eq_false h0
  by_cases h1 : 64 < C1
  · have b1 : decide (64 < C1) = true := decide_eq_true h1
    obtain rfl : 2 = R := by rw [← HR.out, if_neg (fun z => z rfl), if_neg h0, if_pos (Or.inl h1)]
    clear HR h0
    go_enter Tryd.func12, Tryd.ntmps12
    go_wp2_with fail
    rw [HW.out]
    have x0 := HX.out.cell 0
    have x1 := HX.out.cell 1
    have x2 := HX.out.cell 2
    simp only [List.getElem?_toArray, List.getElem?_cons_zero, List.getElem?_cons_succ] at x0 x1 x2
    go_wp2_with fail
    refine HC.out.mono ?_; rintro e' w3 ⟨rfl, hb3⟩
    have HB3 := Lib.hid (below_2 HB.out hb3)
    clear hb3 x0 x1 x2
    go_wp2_with fail
    go_ret
    exact ⟨rfl, below_2 HB3.out (below_box _ _)⟩
  have b1 : decide (64 < C1) = false := decide_eq_false h1
  by_cases h2 : 64 < C2
  · have b2 : decide (64 < C2) = true := decide_eq_true h2
    obtain rfl : 2 = R := by rw [← HR.out, if_neg (fun z => z rfl), if_neg h0, if_pos (Or.inr (Or.inl h2))]
    clear HR h0 h1
    go_enter Tryd.func12, Tryd.ntmps12
    go_wp2_with fail
    rw [HW.out]
    have x0 := HX.out.cell 0
    have x1 := HX.out.cell 1
    have x2 := HX.out.cell 2
    simp only [List.getElem?_toArray, List.getElem?_cons_zero, List.getElem?_cons_succ] at x0 x1 x2
    go_wp2_with fail
    refine HC.out.mono ?_; rintro e' w3 ⟨rfl, hb3⟩
    have HB3 := Lib.hid (below_2 HB.out hb3)
    clear hb3 x0 x1 x2
    go_wp2_with fail
    go_ret
    exact ⟨rfl, below_2 HB3.out (below_box _ _)⟩
  have b2 : decide (64 < C2) = false := decide_eq_false h2
  by_cases h3 : 16 < C3
  · have b3 : decide (16 < C3) = true := decide_eq_true h3
    obtain rfl : 2 = R := by rw [← HR.out, if_neg (fun z => z rfl), if_neg h0, if_pos (Or.inr (Or.inr h3))]
    clear HR h0 h1 h2
    go_enter Tryd.func12, Tryd.ntmps12
    go_wp2_with fail
    rw [HW.out]
    have x0 := HX.out.cell 0
    have x1 := HX.out.cell 1
    have x2 := HX.out.cell 2
    simp only [List.getElem?_toArray, List.getElem?_cons_zero, List.getElem?_cons_succ] at x0 x1 x2
    go_wp2_with fail
    refine HC.out.mono ?_; rintro e' w3 ⟨rfl, hb3⟩
    have HB3 := Lib.hid (below_2 HB.out hb3)
    clear hb3 x0 x1 x2
    go_wp2_with fail
    go_ret
    exact ⟨rfl, below_2 HB3.out (below_box _ _)⟩
  have b3 : decide (16 < C3) = false := decide_eq_false h3
  obtain rfl : 0 = R := by rw [← HR.out, if_neg (fun z => z rfl), if_neg h0, if_neg (fun z => z.elim h1 (fun z => z.elim h2 h3))]
  clear HR h0 h1 h2 h3
  go_enter Tryd.func12, Tryd.ntmps12
  go_wp2_with fail
  rw [HW.out]
  have x0 := HX.out.cell 0
  have x1 := HX.out.cell 1
  have x2 := HX.out.cell 2
  simp only [List.getElem?_toArray, List.getElem?_cons_zero, List.getElem?_cons_succ] at x0 x1 x2
  go_wp2_with fail
  refine HC.out.mono ?_; rintro e' w3 ⟨rfl, hb3⟩
  have HB3 := Lib.hid (below_2 HB.out hb3)
  clear hb3 x0 x1 x2
  go_wp2_with fail
  go_ret
  exact ⟨rfl, below_2 HB3.out (below_box _ _)⟩
end Go.Proofs.YtkjefigebdbkaaaDoor.Q
namespace Go.Proofs.YtkjefigebdbkaaaDoor.Q
open Go.RowKit
open A (Ex St Pr Bx okB okS cE cB cS Bodies OkP PrIn prV prO)
open L (below_2 below_box ret_bool ret_int)
open P (On on_set off_of wp_region_inv IS FT)

set_option maxHeartbeats 8000000 in
set_option maxRecDepth 100000 in
theorem lof_any (p : Pr) (a1 a2 : Option Addr) (c1 c2 : Nat) (hok : OkP p) (hc1 : p.params.length ≤ c1) (w : World) (ht : Y.Tb w) (hK : PrIn w p a1 a2) :
    Calls Tryd.prog 15 #[prV p a1 c1 a2 c2] w fun e' w' => e' = .returned (ciV (cst p)) ∧ Below w.heap.size w w' := by
  obtain ⟨W1, e1⟩ : ∃ z, z = w.alloc (.cells #[.string p.name, .slice a1 p.params.length c1, .slice a2 p.body.length c2] 25) := ⟨_, rfl⟩
  have bb1 : Below w.heap.size w W1 := by rw [e1]; exact below_box _ _
  have xx1 := Bx.new w #[.string p.name, .slice a1 p.params.length c1, .slice a2 p.body.length c2] 25
  rw [← e1] at xx1
  have s1 : W1.heap.size = w.heap.size + 1 := by rw [e1]; simp
  obtain ⟨W2, e2⟩ : ∃ z, z = W1.alloc (.cells #[.int .i64 0, .int .i64 0, .int .i64 0, .int .i64 0] 35) := ⟨_, rfl⟩
  have bb2 : Below W1.heap.size W1 W2 := by rw [e2]; exact below_box _ _
  have xx2 := Bx.new W1 #[.int .i64 0, .int .i64 0, .int .i64 0, .int .i64 0] 35
  rw [← e2] at xx2
  rw [s1] at xx2
  have HB := Lib.hid (below_2 bb1 bb2)
  have HX := Lib.hid (xx1.below bb2)
  have HZ := Lib.hid xx2
  have HW : Hid ((w.alloc (.cells #[.string p.name, .slice a1 p.params.length c1, .slice a2 p.body.length c2] 25)).alloc (.cells #[.int .i64 0, .int .i64 0, .int .i64 0, .int .i64 0] 35) = W2) := by show _ = _; rw [← e1, ← e2]
  have HSteps := Lib.hid (fun w' (hb : Below W2.heap.size W2 w') => oSteps_any p a1 a2 c1 c2 hok hc1 w' (ht.below (below_2 HB.out hb)) (hK.below (below_2 HB.out hb)))
  have HGets := Lib.hid (fun w' (hb : Below W2.heap.size W2 w') => oGets_any p a1 a2 c1 c2 hok hc1 w' (ht.below (below_2 HB.out hb)) (hK.below (below_2 HB.out hb)))
  have HPuts := Lib.hid (fun w' (hb : Below W2.heap.size W2 w') => oPuts_any p a1 a2 c1 c2 hok hc1 w' (ht.below (below_2 HB.out hb)) (hK.below (below_2 HB.out hb)))
  have HEmits := Lib.hid (fun w' (hb : Below W2.heap.size W2 w') => oEmits_any p a1 a2 c1 c2 hok hc1 w' (ht.below (below_2 HB.out hb)) (hK.below (below_2 HB.out hb)))
  generalize cst p = C at *
  obtain ⟨C0, C1, C2, C3⟩ := C
  clear e1 e2 bb1 bb2 xx1 xx2 s1 hok hc1 ht hK
  unfold prV at *
  go_enter Tryd.func15, Tryd.ntmps15
  go_upto_region 1 with fail
  rw [HW.out]
  refine wp_region_inv rfl (fun l a w' => ∃ v0 v1 v2 v3 v4 v5 v6 v7 v8 : Value, a = { tmps := #[Value.agg #[.string p.name, .slice a1 p.params.length c1, .slice a2 p.body.length c2], Value.pointer (some { block := w.heap.size, off := 0 }), Value.pointer (some { block := w.heap.size + 1, off := 0 }), v0, v1, v2, v3, v4, v5, v6, v7, v8], defers := [] } ∧ ((¬ On l 9 ∧ IS (FT [some (.agg #[.string p.name, .slice a1 p.params.length c1, .slice a2 p.body.length c2]), some (.int .i64 C0), some (.agg #[.string p.name, .slice a1 p.params.length c1, .slice a2 p.body.length c2]), some (.int .i64 C1), some (.agg #[.string p.name, .slice a1 p.params.length c1, .slice a2 p.body.length c2]), some (.int .i64 C2), some (.agg #[.string p.name, .slice a1 p.params.length c1, .slice a2 p.body.length c2]), some (.int .i64 C3), some (.agg #[.int .i64 C0, .int .i64 C1, .int .i64 C2, .int .i64 C3])] 35 #[.int .i64 0, .int .i64 0, .int .i64 0, .int .i64 0] (0)) W2 l w' [v0, v1, v2, v3, v4, v5, v6, v7, v8]) ∨ (On l 9 ∧ (∀ j, j < 9 → On l j) ∧ Bx w' (w.heap.size + 1) #[.int .i64 C0, .int .i64 C1, .int .i64 C2, .int .i64 C3] 35 ∧ Below w.heap.size w w'))) (by kernel_rfl) ?_ ?_ ?_
  · intro l hl
    exact ⟨_, _, _, _, _, _, _, _, _, rfl, Or.inl ⟨hl 9, IS.start _ _ hl _⟩⟩
  · rintro l a w' ⟨v0, v1, v2, v3, v4, v5, v6, v7, v8, rfl, hF⟩ i hi h0 hall
    have hF2 : i < 9 → ¬ On l 9 ∧ IS (FT [some (.agg #[.string p.name, .slice a1 p.params.length c1, .slice a2 p.body.length c2]), some (.int .i64 C0), some (.agg #[.string p.name, .slice a1 p.params.length c1, .slice a2 p.body.length c2]), some (.int .i64 C1), some (.agg #[.string p.name, .slice a1 p.params.length c1, .slice a2 p.body.length c2]), some (.int .i64 C2), some (.agg #[.string p.name, .slice a1 p.params.length c1, .slice a2 p.body.length c2]), some (.int .i64 C3), some (.agg #[.int .i64 C0, .int .i64 C1, .int .i64 C2, .int .i64 C3])] 35 #[.int .i64 0, .int .i64 0, .int .i64 0, .int .i64 0] (0)) W2 l w' [v0, v1, v2, v3, v4, v5, v6, v7, v8] := fun h => hF.resolve_right (fun z => off_of h0 (z.2.1 i h))
    match i, hi, h0, hall, hF2 with
    | 0, _, h0, hall, hF2 =>
      obtain ⟨hnm, F⟩ := hF2 (by decide)
      have HNm : Hid (¬ On (l.setIfInBounds 0 true) 9) := fun z => hnm (((on_set h0 9).1 z).resolve_left (by decide))
      clear hF hF2 hnm
      have hxx := HX.out.below F.bel
      have q0 := hxx.cell 0
      have q1 := hxx.cell 1
      have q2 := hxx.cell 2
      simp only [List.getElem?_toArray, List.getElem?_cons_zero, List.getElem?_cons_succ] at q0 q1 q2
      clear hxx
      have HF := Lib.hid (F.step FT.mono h0 (show 0 < 9 by decide) (Below.refl _ _) (x := .agg #[.string p.name, .slice a1 p.params.length c1, .slice a2 p.body.length c2]) rfl)
      clear F hall h0
      refine wpOp_step (by rfl) (fun K' hK => ?_)
      have HKk := Lib.hid hK
      clear hK
      go_simp
      exact HKk.out _ _ ⟨_, _, _, _, _, _, _, _, _, rfl, Or.inl ⟨HNm.out, HF.out⟩⟩
    | 1, _, h0, hall, hF2 =>
      obtain ⟨hnm, F⟩ := hF2 (by decide)
      have HNm : Hid (¬ On (l.setIfInBounds 1 true) 9) := fun z => hnm (((on_set h0 9).1 z).resolve_left (by decide))
      clear hF hF2 hnm
      obtain rfl : v0 = .agg #[.string p.name, .slice a1 p.params.length c1, .slice a2 p.body.length c2] := F.f 0 (hall 0 (by decide +kernel))
      have HC := Lib.hid (HSteps.out w' F.bel)
      have HF := Lib.hid (fun w'' hb x hx => F.step FT.mono h0 (show 1 < 9 by decide) (w' := w'') hb (x := x) hx)
      clear F hall h0
      refine wpOp_step (by rfl) (fun K' hK => ?_)
      have HKk := Lib.hid hK
      clear hK
      go_simp
      go_at_call 30
      refine HC.out.mono ?_; rintro e' w5 ⟨rfl, hb5⟩
      have HF5 := Lib.hid (HF.out w5 hb5 (.int .i64 C0) rfl)
      exact HKk.out _ _ ⟨_, _, _, _, _, _, _, _, _, rfl, Or.inl ⟨HNm.out, HF5.out⟩⟩
    | 2, _, h0, hall, hF2 =>
      obtain ⟨hnm, F⟩ := hF2 (by decide)
      have HNm : Hid (¬ On (l.setIfInBounds 2 true) 9) := fun z => hnm (((on_set h0 9).1 z).resolve_left (by decide))
      clear hF hF2 hnm
      have hxx := HX.out.below F.bel
      have q0 := hxx.cell 0
      have q1 := hxx.cell 1
      have q2 := hxx.cell 2
      simp only [List.getElem?_toArray, List.getElem?_cons_zero, List.getElem?_cons_succ] at q0 q1 q2
      clear hxx
      have HF := Lib.hid (F.step FT.mono h0 (show 2 < 9 by decide) (Below.refl _ _) (x := .agg #[.string p.name, .slice a1 p.params.length c1, .slice a2 p.body.length c2]) rfl)
      clear F hall h0
      refine wpOp_step (by rfl) (fun K' hK => ?_)
      have HKk := Lib.hid hK
      clear hK
      go_simp
      exact HKk.out _ _ ⟨_, _, _, _, _, _, _, _, _, rfl, Or.inl ⟨HNm.out, HF.out⟩⟩
    | 3, _, h0, hall, hF2 =>
      obtain ⟨hnm, F⟩ := hF2 (by decide)
      have HNm : Hid (¬ On (l.setIfInBounds 3 true) 9) := fun z => hnm (((on_set h0 9).1 z).resolve_left (by decide))
      clear hF hF2 hnm
      obtain rfl : v2 = .agg #[.string p.name, .slice a1 p.params.length c1, .slice a2 p.body.length c2] := F.f 2 (hall 2 (by decide +kernel))
      have HC := Lib.hid (HGets.out w' F.bel)
      have HF := Lib.hid (fun w'' hb x hx => F.step FT.mono h0 (show 3 < 9 by decide) (w' := w'') hb (x := x) hx)
      clear F hall h0
      refine wpOp_step (by rfl) (fun K' hK => ?_)
      have HKk := Lib.hid hK
      clear hK
      go_simp
      go_at_call 31
      refine HC.out.mono ?_; rintro e' w5 ⟨rfl, hb5⟩
      have HF5 := Lib.hid (HF.out w5 hb5 (.int .i64 C1) rfl)
      exact HKk.out _ _ ⟨_, _, _, _, _, _, _, _, _, rfl, Or.inl ⟨HNm.out, HF5.out⟩⟩
    | 4, _, h0, hall, hF2 =>
      obtain ⟨hnm, F⟩ := hF2 (by decide)
      have HNm : Hid (¬ On (l.setIfInBounds 4 true) 9) := fun z => hnm (((on_set h0 9).1 z).resolve_left (by decide))
      clear hF hF2 hnm
      have hxx := HX.out.below F.bel
      have q0 := hxx.cell 0
      have q1 := hxx.cell 1
      have q2 := hxx.cell 2
      simp only [List.getElem?_toArray, List.getElem?_cons_zero, List.getElem?_cons_succ] at q0 q1 q2
      clear hxx
      have HF := Lib.hid (F.step FT.mono h0 (show 4 < 9 by decide) (Below.refl _ _) (x := .agg #[.string p.name, .slice a1 p.params.length c1, .slice a2 p.body.length c2]) rfl)
      clear F hall h0
      refine wpOp_step (by rfl) (fun K' hK => ?_)
      have HKk := Lib.hid hK
      clear hK
      go_simp
      exact HKk.out _ _ ⟨_, _, _, _, _, _, _, _, _, rfl, Or.inl ⟨HNm.out, HF.out⟩⟩
    | 5, _, h0, hall, hF2 =>
      obtain ⟨hnm, F⟩ := hF2 (by decide)
      have HNm : Hid (¬ On (l.setIfInBounds 5 true) 9) := fun z => hnm (((on_set h0 9).1 z).resolve_left (by decide))
      clear hF hF2 hnm
      obtain rfl : v4 = .agg #[.string p.name, .slice a1 p.params.length c1, .slice a2 p.body.length c2] := F.f 4 (hall 4 (by decide +kernel))
      have HC := Lib.hid (HPuts.out w' F.bel)
      have HF := Lib.hid (fun w'' hb x hx => F.step FT.mono h0 (show 5 < 9 by decide) (w' := w'') hb (x := x) hx)
      clear F hall h0
      refine wpOp_step (by rfl) (fun K' hK => ?_)
      have HKk := Lib.hid hK
      clear hK
      go_simp
      go_at_call 32
      refine HC.out.mono ?_; rintro e' w5 ⟨rfl, hb5⟩
      have HF5 := Lib.hid (HF.out w5 hb5 (.int .i64 C2) rfl)
      exact HKk.out _ _ ⟨_, _, _, _, _, _, _, _, _, rfl, Or.inl ⟨HNm.out, HF5.out⟩⟩
    | 6, _, h0, hall, hF2 =>
      obtain ⟨hnm, F⟩ := hF2 (by decide)
      have HNm : Hid (¬ On (l.setIfInBounds 6 true) 9) := fun z => hnm (((on_set h0 9).1 z).resolve_left (by decide))
      clear hF hF2 hnm
      have hxx := HX.out.below F.bel
      have q0 := hxx.cell 0
      have q1 := hxx.cell 1
      have q2 := hxx.cell 2
      simp only [List.getElem?_toArray, List.getElem?_cons_zero, List.getElem?_cons_succ] at q0 q1 q2
      clear hxx
      have HF := Lib.hid (F.step FT.mono h0 (show 6 < 9 by decide) (Below.refl _ _) (x := .agg #[.string p.name, .slice a1 p.params.length c1, .slice a2 p.body.length c2]) rfl)
      clear F hall h0
      refine wpOp_step (by rfl) (fun K' hK => ?_)
      have HKk := Lib.hid hK
      clear hK
      go_simp
      exact HKk.out _ _ ⟨_, _, _, _, _, _, _, _, _, rfl, Or.inl ⟨HNm.out, HF.out⟩⟩
    | 7, _, h0, hall, hF2 =>
      obtain ⟨hnm, F⟩ := hF2 (by decide)
      have HNm : Hid (¬ On (l.setIfInBounds 7 true) 9) := fun z => hnm (((on_set h0 9).1 z).resolve_left (by decide))
      clear hF hF2 hnm
      obtain rfl : v6 = .agg #[.string p.name, .slice a1 p.params.length c1, .slice a2 p.body.length c2] := F.f 6 (hall 6 (by decide +kernel))
      have HC := Lib.hid (HEmits.out w' F.bel)
      have HF := Lib.hid (fun w'' hb x hx => F.step FT.mono h0 (show 7 < 9 by decide) (w' := w'') hb (x := x) hx)
      clear F hall h0
      refine wpOp_step (by rfl) (fun K' hK => ?_)
      have HKk := Lib.hid hK
      clear hK
      go_simp
      go_at_call 33
      refine HC.out.mono ?_; rintro e' w5 ⟨rfl, hb5⟩
      have HF5 := Lib.hid (HF.out w5 hb5 (.int .i64 C3) rfl)
      exact HKk.out _ _ ⟨_, _, _, _, _, _, _, _, _, rfl, Or.inl ⟨HNm.out, HF5.out⟩⟩
    | 8, _, h0, hall, hF2 =>
      obtain ⟨hnm, F⟩ := hF2 (by decide)
      have HNm : Hid (¬ On (l.setIfInBounds 8 true) 9) := fun z => hnm (((on_set h0 9).1 z).resolve_left (by decide))
      clear hF hF2 hnm
      obtain rfl : v1 = .int .i64 C0 := F.f 1 (hall 1 (by decide +kernel))
      obtain rfl : v3 = .int .i64 C1 := F.f 3 (hall 3 (by decide +kernel))
      obtain rfl : v5 = .int .i64 C2 := F.f 5 (hall 5 (by decide +kernel))
      obtain rfl : v7 = .int .i64 C3 := F.f 7 (hall 7 (by decide +kernel))
      have HF := Lib.hid (F.step FT.mono h0 (show 8 < 9 by decide) (Below.refl _ _) (x := .agg #[.int .i64 C0, .int .i64 C1, .int .i64 C2, .int .i64 C3]) rfl)
      clear F hall h0
      refine wpOp_step (by rfl) (fun K' hK => ?_)
      have HKk := Lib.hid hK
      clear hK
      go_simp
      exact HKk.out _ _ ⟨_, _, _, _, _, _, _, _, _, rfl, Or.inl ⟨HNm.out, HF.out⟩⟩
    | 9, _, h0, hall, _ =>
      obtain ⟨_, F⟩ := hF.resolve_right (fun z => off_of h0 z.1)
      obtain rfl : v8 = .agg #[.int .i64 C0, .int .i64 C1, .int .i64 C2, .int .i64 C3] := F.f 8 (hall 8 (by decide +kernel))
      have hZZ := HZ.out.below F.bel
      obtain ⟨q0, q1, q2, q3, q4, q5, q6, q7⟩ := four_open (hZZ)
      have HFin : Hid (On (l.setIfInBounds 9 true) 9 ∧ (∀ j, j < 9 → On (l.setIfInBounds 9 true) j) ∧ Bx ((((w'.setCell ⟨w.heap.size + 1, 0, none⟩ (.int .i64 C0)).setCell ⟨w.heap.size + 1, 1, none⟩ (.int .i64 C1)).setCell ⟨w.heap.size + 1, 2, none⟩ (.int .i64 C2)).setCell ⟨w.heap.size + 1, 3, none⟩ (.int .i64 C3)) (w.heap.size + 1) #[.int .i64 C0, .int .i64 C1, .int .i64 C2, .int .i64 C3] 35 ∧ Below w.heap.size w ((((w'.setCell ⟨w.heap.size + 1, 0, none⟩ (.int .i64 C0)).setCell ⟨w.heap.size + 1, 1, none⟩ (.int .i64 C1)).setCell ⟨w.heap.size + 1, 2, none⟩ (.int .i64 C2)).setCell ⟨w.heap.size + 1, 3, none⟩ (.int .i64 C3))) :=
        ⟨(on_set h0 9).2 (Or.inl rfl), (fun j hj => by
          refine (on_set h0 j).2 (Or.inr (hall j ?_))
          revert hj
          revert j
          decide +kernel), four_set hZZ _ _ _ _, four_below (below_2 HB.out F.bel) (Nat.le_succ _) _ _ _ _⟩
      clear F hall h0 hF hF2
      clear hZZ
      refine wpOp_step (by rfl) (fun K' hK => ?_)
      have HKk := Lib.hid hK
      clear hK
      go_simp
      exact HKk.out _ _ ⟨_, _, _, _, _, _, _, _, _, rfl, Or.inr HFin.out⟩
    | i + 10, hi, _, _, _ => exact absurd hi (by show ¬ (i + 10 < 10); omega)
  rintro l9 a wz ⟨t0, t1, t2, t3, t4, t5, t6, t7, t8, rfl, hF⟩ hall
  obtain ⟨_, _, hZ, hBl⟩ := hF.resolve_left (fun z => z.1 (hall 9 (by decide)))
  clear hF hall
  have q0 := hZ.cell 0
  have q1 := hZ.cell 1
  have q2 := hZ.cell 2
  have q3 := hZ.cell 3
  simp only [List.getElem?_toArray, List.getElem?_cons_zero, List.getElem?_cons_succ] at q0 q1 q2 q3
  have HBL := Lib.hid hBl
  clear hZ hBl
  go_wp2_with fail
  refine bodyPost_ret (v := .agg #[.int .i64 C0, .int .i64 C1, .int .i64 C2, .int .i64 C3]) (by simp [results, Tryd.results15, go_sem, q0, q1, q2, q3]) rfl ?_
  exact ⟨rfl, HBL.out⟩
end Go.Proofs.YtkjefigebdbkaaaDoor.Q
namespace Go.Proofs.YtkjefigebdbkaaaDoor.Q
open Go.RowKit
open A (Ex St Pr Pm exV exO exV_mk okE okEs okB okS cE cB Bx OkP PrIn prV exprs ExAt ExsAt StAt StsAt Bodies Kids)
open L (below_2 below_box ret_bool)

def lf (o n : Int) (s : ByteArray) : Ex := .mk o n s []
def kE : Ex := lf 3 0 ⟨#[107]⟩
def sumE : Ex := .mk 4 0 ⟨#[]⟩ [.mk 22 0 ⟨#[]⟩ [kE], lf 1 1 ⟨#[]⟩]
def putS : St := .mk 3 ⟨#[]⟩ 0 kE sumE [] []
def exP : Pr := ⟨⟨#[112]⟩, [⟨⟨#[107]⟩, 2⟩, ⟨⟨#[110]⟩, 1⟩], [.mk 6 ⟨#[105]⟩ 3 (lf 1 0 ⟨#[]⟩) (lf 3 0 ⟨#[110]⟩) [putS] []]⟩
theorem chk_ex : N.checkN exP = 0 := by kernel_rfl
theorem cst_ex : cst exP = ⟨7, 3, 3, 0⟩ := by kernel_rfl
theorem cost_ex : costE (cst exP) (N.checkN exP) = 0 := by rw [chk_ex, cst_ex]; rfl
theorem okE_lf (o n : Int) (s : ByteArray) (ho : -9223372036854775808 ≤ o ∧ o ≤ 9223372036854775807) (hn : -9223372036854775808 ≤ n ∧ n ≤ 9223372036854775807) (hs : s.size ≤ 1000000000000000) : okE (lf o n s) := by
  unfold lf
  rw [okE, okEs]
  exact ⟨ho, hn, hs, Nat.zero_le _, trivial⟩
theorem ok_k : okE kE := okE_lf _ _ _ (by decide) (by decide) (by decide)
theorem ok_sum : okE sumE := by
  unfold sumE
  rw [okE, okEs, okEs, okEs, okE, okEs, okEs]
  exact ⟨by decide, by decide, by decide, by decide, ⟨by decide, by decide, by decide, by decide, ok_k, trivial⟩, okE_lf _ _ _ (by decide) (by decide) (by decide), trivial⟩
theorem okB_no : okB [] := by rw [okB]; trivial
theorem ok_put : okS putS := by
  unfold putS
  rw [okS]
  exact ⟨by decide, by decide, by decide, ok_k, ok_sum, by decide, okB_no, by decide, okB_no⟩
theorem ok_exP : OkP exP := by
  refine ⟨by decide, by decide, fun j h => ?_, by decide, ?_⟩
  · match j, h with
    | 0, _ => exact (by decide : (1 : Nat) ≤ 1000000000000000)
    | 1, _ => exact (by decide : (1 : Nat) ≤ 1000000000000000)
    | j + 2, h => exact absurd h (by show ¬ (j + 2 < 2); omega)
  · show okB [_]
    rw [okB, okB, okS]
    refine ⟨⟨by decide, by decide, by decide, okE_lf _ _ _ (by decide) (by decide) (by decide), okE_lf _ _ _ (by decide) (by decide) (by decide), by decide, ?_, by decide, okB_no⟩, trivial⟩
    rw [okB, okB]
    exact ⟨ok_put, trivial⟩
theorem at_lf {F : World} {g i : Nat} {o n : Int} {s : ByteArray} (h0 : F.cell? ⟨g, i, none⟩ = some (.int .i64 o)) (h1 : F.cell? ⟨g, i + 1, none⟩ = some (.int .i64 n)) (h2 : F.cell? ⟨g, i + 2, none⟩ = some (.string s)) (h3 : F.cell? ⟨g, i + 3, none⟩ = some (.slice none 0 0)) : ExAt F (lf o n s) g i :=
  ⟨h0, h1, h2, none, 0, h3, Or.inl rfl⟩
/-- what the example's memory holds -/
structure EB (n : Nat) (F : World) : Prop where
  c0 : Bx F (n) #[.int .i64 3, .int .i64 0, .string ⟨#[107]⟩, .slice none 0 0] 46
  c1 : Bx F (n + 1) #[.int .i64 3, .int .i64 0, .string ⟨#[107]⟩, .slice none 0 0] 46
  c2 : Bx F (n + 1 + 1) #[.int .i64 22, .int .i64 0, .string ⟨#[]⟩, .slice (some ⟨n + 1, 0, none⟩) 1 1, .int .i64 1, .int .i64 1, .string ⟨#[]⟩, .slice none 0 0] 46
  c3 : Bx F (n + 1 + 1 + 1) #[.int .i64 3, .string ⟨#[]⟩, .int .i64 0, .int .i64 3, .int .i64 0, .string ⟨#[107]⟩, .slice none 0 0, .int .i64 4, .int .i64 0, .string ⟨#[]⟩, .slice (some ⟨n + 1 + 1, 0, none⟩) 2 2, .slice none 0 0, .slice none 0 0] 48
  c4 : Bx F (n + 1 + 1 + 1 + 1) #[.string ⟨#[107]⟩, .int .i64 2, .string ⟨#[110]⟩, .int .i64 1] 51
  c5 : Bx F (n + 1 + 1 + 1 + 1 + 1) #[.int .i64 3, .string ⟨#[]⟩, .int .i64 0, .int .i64 3, .int .i64 0, .string ⟨#[107]⟩, .slice none 0 0, .int .i64 4, .int .i64 0, .string ⟨#[]⟩, .slice (some ⟨n + 1 + 1, 0, none⟩) 2 2, .slice none 0 0, .slice none 0 0] 48
  c6 : Bx F (n + 1 + 1 + 1 + 1 + 1 + 1) #[.int .i64 6, .string ⟨#[105]⟩, .int .i64 3, .int .i64 1, .int .i64 0, .string ⟨#[]⟩, .slice none 0 0, .int .i64 3, .int .i64 0, .string ⟨#[110]⟩, .slice none 0 0, .slice (some ⟨n + 1 + 1 + 1 + 1 + 1, 0, none⟩) 1 1, .slice none 0 0] 48
  c7 : Bx F (n + 1 + 1 + 1 + 1 + 1 + 1 + 1) #[.string ⟨#[112]⟩, .slice (some ⟨n + 1 + 1 + 1 + 1, 0, none⟩) 2 2, .slice (some ⟨n + 1 + 1 + 1 + 1 + 1 + 1, 0, none⟩) 1 1] 25
theorem EB.below {n : Nat} {F F' : World} (H : EB n F) (hb : Below F.heap.size F F') : EB n F' :=
  ⟨H.c0.below hb, H.c1.below hb, H.c2.below hb, H.c3.below hb, H.c4.below hb, H.c5.below hb, H.c6.below hb, H.c7.below hb⟩
theorem in_ex {n : Nat} {F : World} (H : EB n F) : PrIn F exP (some ⟨n + 1 + 1 + 1 + 1, 0, none⟩) (some ⟨n + 1 + 1 + 1 + 1 + 1 + 1, 0, none⟩) := by
  refine ⟨Or.inr ⟨_, 0, rfl, fun j h => ?_⟩, Or.inr ⟨_, 0, rfl, ?_⟩⟩
  · match j, h with
    | 0, _ => exact ⟨H.c4.cell 0, H.c4.cell 1⟩
    | 1, _ => exact ⟨H.c4.cell 2, H.c4.cell 3⟩
    | j + 2, h => exact absurd h (by show ¬ (j + 2 < 2); omega)
  · show StsAt F [_] _ 0
    rw [StsAt, StsAt, StAt]
    have x := H.c6
    refine ⟨⟨x.cell 0, x.cell 1, x.cell 2, at_lf (x.cell 3) (x.cell 4) (x.cell 5) (x.cell 6), at_lf (x.cell 7) (x.cell 8) (x.cell 9) (x.cell 10), ⟨_, _, x.cell 11, Or.inr ⟨_, 0, rfl, ?_⟩⟩, ⟨_, _, x.cell 12, Or.inl rfl⟩⟩, trivial⟩
    show StsAt F [putS] _ 0
    unfold putS
    rw [StsAt, StsAt, StAt]
    have y := H.c5
    refine ⟨⟨y.cell 0, y.cell 1, y.cell 2, at_lf (y.cell 3) (y.cell 4) (y.cell 5) (y.cell 6), ?_, ⟨_, _, y.cell 11, Or.inl rfl⟩, ⟨_, _, y.cell 12, Or.inl rfl⟩⟩, trivial⟩
    unfold sumE
    rw [ExAt]
    refine ⟨y.cell 7, y.cell 8, y.cell 9, _, _, y.cell 10, Or.inr ⟨_, 0, rfl, ?_⟩⟩
    have z := H.c2
    rw [ExsAt, ExsAt, ExsAt, ExAt]
    refine ⟨⟨z.cell 0, z.cell 1, z.cell 2, _, _, z.cell 3, Or.inr ⟨_, 0, rfl, ?_⟩⟩, at_lf (z.cell 4) (z.cell 5) (z.cell 6) (z.cell 7), trivial⟩
    rw [ExsAt, ExsAt]
    exact ⟨at_lf (H.c1.cell 0) (H.c1.cell 1) (H.c1.cell 2) (H.c1.cell 3), trivial⟩
theorem call_Steps {n : Nat} {F : World} (H : EB n F) (ht : Y.Tb F) : Calls Tryd.prog 30 #[.agg #[.string ⟨#[112]⟩, .slice (some ⟨n + 1 + 1 + 1 + 1, 0, none⟩) 2 2, .slice (some ⟨n + 1 + 1 + 1 + 1 + 1 + 1, 0, none⟩) 1 1]] F fun e' w' => e' = .returned (.int .i64 7) ∧ Below F.heap.size F w' := by
  have := oSteps_any exP (some ⟨n + 1 + 1 + 1 + 1, 0, none⟩) (some ⟨n + 1 + 1 + 1 + 1 + 1 + 1, 0, none⟩) 2 1 ok_exP (by decide) F ht (in_ex H)
  rw [cst_ex] at this
  exact this
theorem call_Gets {n : Nat} {F : World} (H : EB n F) (ht : Y.Tb F) : Calls Tryd.prog 31 #[.agg #[.string ⟨#[112]⟩, .slice (some ⟨n + 1 + 1 + 1 + 1, 0, none⟩) 2 2, .slice (some ⟨n + 1 + 1 + 1 + 1 + 1 + 1, 0, none⟩) 1 1]] F fun e' w' => e' = .returned (.int .i64 3) ∧ Below F.heap.size F w' := by
  have := oGets_any exP (some ⟨n + 1 + 1 + 1 + 1, 0, none⟩) (some ⟨n + 1 + 1 + 1 + 1 + 1 + 1, 0, none⟩) 2 1 ok_exP (by decide) F ht (in_ex H)
  rw [cst_ex] at this
  exact this
theorem call_Puts {n : Nat} {F : World} (H : EB n F) (ht : Y.Tb F) : Calls Tryd.prog 32 #[.agg #[.string ⟨#[112]⟩, .slice (some ⟨n + 1 + 1 + 1 + 1, 0, none⟩) 2 2, .slice (some ⟨n + 1 + 1 + 1 + 1 + 1 + 1, 0, none⟩) 1 1]] F fun e' w' => e' = .returned (.int .i64 3) ∧ Below F.heap.size F w' := by
  have := oPuts_any exP (some ⟨n + 1 + 1 + 1 + 1, 0, none⟩) (some ⟨n + 1 + 1 + 1 + 1 + 1 + 1, 0, none⟩) 2 1 ok_exP (by decide) F ht (in_ex H)
  rw [cst_ex] at this
  exact this
theorem call_Emits {n : Nat} {F : World} (H : EB n F) (ht : Y.Tb F) : Calls Tryd.prog 33 #[.agg #[.string ⟨#[112]⟩, .slice (some ⟨n + 1 + 1 + 1 + 1, 0, none⟩) 2 2, .slice (some ⟨n + 1 + 1 + 1 + 1 + 1 + 1, 0, none⟩) 1 1]] F fun e' w' => e' = .returned (.int .i64 0) ∧ Below F.heap.size F w' := by
  have := oEmits_any exP (some ⟨n + 1 + 1 + 1 + 1, 0, none⟩) (some ⟨n + 1 + 1 + 1 + 1 + 1 + 1, 0, none⟩) 2 1 ok_exP (by decide) F ht (in_ex H)
  rw [cst_ex] at this
  exact this
theorem call_Check {n : Nat} {F : World} (H : EB n F) (ht : Y.Tb F) : Calls Tryd.prog 12 #[.agg #[.string ⟨#[112]⟩, .slice (some ⟨n + 1 + 1 + 1 + 1, 0, none⟩) 2 2, .slice (some ⟨n + 1 + 1 + 1 + 1 + 1 + 1, 0, none⟩) 1 1]] F fun e' w' => e' = .returned (.int .i64 0) ∧ Below F.heap.size F w' := by
  have := oCost_any exP (some ⟨n + 1 + 1 + 1 + 1, 0, none⟩) (some ⟨n + 1 + 1 + 1 + 1 + 1 + 1, 0, none⟩) 2 1 ok_exP (by decide) F ht (in_ex H)
  rw [cost_ex] at this
  exact this
theorem ex_chain (w : World) : EB w.heap.size ((((((((w.alloc (.cells #[.int .i64 3, .int .i64 0, .string ⟨#[107]⟩, .slice none 0 0] 46)).alloc (.cells #[.int .i64 3, .int .i64 0, .string ⟨#[107]⟩, .slice none 0 0] 46)).alloc (.cells #[.int .i64 22, .int .i64 0, .string ⟨#[]⟩, .slice (some ⟨w.heap.size + 1, 0, none⟩) 1 1, .int .i64 1, .int .i64 1, .string ⟨#[]⟩, .slice none 0 0] 46)).alloc (.cells #[.int .i64 3, .string ⟨#[]⟩, .int .i64 0, .int .i64 3, .int .i64 0, .string ⟨#[107]⟩, .slice none 0 0, .int .i64 4, .int .i64 0, .string ⟨#[]⟩, .slice (some ⟨w.heap.size + 1 + 1, 0, none⟩) 2 2, .slice none 0 0, .slice none 0 0] 48)).alloc (.cells #[.string ⟨#[107]⟩, .int .i64 2, .string ⟨#[110]⟩, .int .i64 1] 51)).alloc (.cells #[.int .i64 3, .string ⟨#[]⟩, .int .i64 0, .int .i64 3, .int .i64 0, .string ⟨#[107]⟩, .slice none 0 0, .int .i64 4, .int .i64 0, .string ⟨#[]⟩, .slice (some ⟨w.heap.size + 1 + 1, 0, none⟩) 2 2, .slice none 0 0, .slice none 0 0] 48)).alloc (.cells #[.int .i64 6, .string ⟨#[105]⟩, .int .i64 3, .int .i64 1, .int .i64 0, .string ⟨#[]⟩, .slice none 0 0, .int .i64 3, .int .i64 0, .string ⟨#[110]⟩, .slice none 0 0, .slice (some ⟨w.heap.size + 1 + 1 + 1 + 1 + 1, 0, none⟩) 1 1, .slice none 0 0] 48)).alloc (.cells #[.string ⟨#[112]⟩, .slice (some ⟨w.heap.size + 1 + 1 + 1 + 1, 0, none⟩) 2 2, .slice (some ⟨w.heap.size + 1 + 1 + 1 + 1 + 1 + 1, 0, none⟩) 1 1] 25)) ∧ Below w.heap.size w ((((((((w.alloc (.cells #[.int .i64 3, .int .i64 0, .string ⟨#[107]⟩, .slice none 0 0] 46)).alloc (.cells #[.int .i64 3, .int .i64 0, .string ⟨#[107]⟩, .slice none 0 0] 46)).alloc (.cells #[.int .i64 22, .int .i64 0, .string ⟨#[]⟩, .slice (some ⟨w.heap.size + 1, 0, none⟩) 1 1, .int .i64 1, .int .i64 1, .string ⟨#[]⟩, .slice none 0 0] 46)).alloc (.cells #[.int .i64 3, .string ⟨#[]⟩, .int .i64 0, .int .i64 3, .int .i64 0, .string ⟨#[107]⟩, .slice none 0 0, .int .i64 4, .int .i64 0, .string ⟨#[]⟩, .slice (some ⟨w.heap.size + 1 + 1, 0, none⟩) 2 2, .slice none 0 0, .slice none 0 0] 48)).alloc (.cells #[.string ⟨#[107]⟩, .int .i64 2, .string ⟨#[110]⟩, .int .i64 1] 51)).alloc (.cells #[.int .i64 3, .string ⟨#[]⟩, .int .i64 0, .int .i64 3, .int .i64 0, .string ⟨#[107]⟩, .slice none 0 0, .int .i64 4, .int .i64 0, .string ⟨#[]⟩, .slice (some ⟨w.heap.size + 1 + 1, 0, none⟩) 2 2, .slice none 0 0, .slice none 0 0] 48)).alloc (.cells #[.int .i64 6, .string ⟨#[105]⟩, .int .i64 3, .int .i64 1, .int .i64 0, .string ⟨#[]⟩, .slice none 0 0, .int .i64 3, .int .i64 0, .string ⟨#[110]⟩, .slice none 0 0, .slice (some ⟨w.heap.size + 1 + 1 + 1 + 1 + 1, 0, none⟩) 1 1, .slice none 0 0] 48)).alloc (.cells #[.string ⟨#[112]⟩, .slice (some ⟨w.heap.size + 1 + 1 + 1 + 1, 0, none⟩) 2 2, .slice (some ⟨w.heap.size + 1 + 1 + 1 + 1 + 1 + 1, 0, none⟩) 1 1] 25)) := by
  obtain ⟨z1, e1⟩ : ∃ z, z = w.alloc (.cells #[.int .i64 3, .int .i64 0, .string ⟨#[107]⟩, .slice none 0 0] 46) := ⟨_, rfl⟩
  have b1 : Below w.heap.size w z1 := by rw [e1]; exact below_box _ _
  have x1 := Bx.new w #[.int .i64 3, .int .i64 0, .string ⟨#[107]⟩, .slice none 0 0] 46
  rw [← e1] at x1
  have s1 : z1.heap.size = w.heap.size + 1 := by rw [e1]; simp
  rw [← e1]
  obtain ⟨z2, e2⟩ : ∃ z, z = z1.alloc (.cells #[.int .i64 3, .int .i64 0, .string ⟨#[107]⟩, .slice none 0 0] 46) := ⟨_, rfl⟩
  have b2 : Below z1.heap.size z1 z2 := by rw [e2]; exact below_box _ _
  have x2 := Bx.new z1 #[.int .i64 3, .int .i64 0, .string ⟨#[107]⟩, .slice none 0 0] 46
  rw [← e2] at x2
  rw [s1] at x2
  have s2 : z2.heap.size = w.heap.size + 1 + 1 := by rw [e2]; simp [s1]
  rw [← e2]
  obtain ⟨z3, e3⟩ : ∃ z, z = z2.alloc (.cells #[.int .i64 22, .int .i64 0, .string ⟨#[]⟩, .slice (some ⟨w.heap.size + 1, 0, none⟩) 1 1, .int .i64 1, .int .i64 1, .string ⟨#[]⟩, .slice none 0 0] 46) := ⟨_, rfl⟩
  have b3 : Below z2.heap.size z2 z3 := by rw [e3]; exact below_box _ _
  have x3 := Bx.new z2 #[.int .i64 22, .int .i64 0, .string ⟨#[]⟩, .slice (some ⟨w.heap.size + 1, 0, none⟩) 1 1, .int .i64 1, .int .i64 1, .string ⟨#[]⟩, .slice none 0 0] 46
  rw [← e3] at x3
  rw [s2] at x3
  have s3 : z3.heap.size = w.heap.size + 1 + 1 + 1 := by rw [e3]; simp [s2]
  rw [← e3]
  obtain ⟨z4, e4⟩ : ∃ z, z = z3.alloc (.cells #[.int .i64 3, .string ⟨#[]⟩, .int .i64 0, .int .i64 3, .int .i64 0, .string ⟨#[107]⟩, .slice none 0 0, .int .i64 4, .int .i64 0, .string ⟨#[]⟩, .slice (some ⟨w.heap.size + 1 + 1, 0, none⟩) 2 2, .slice none 0 0, .slice none 0 0] 48) := ⟨_, rfl⟩
  have b4 : Below z3.heap.size z3 z4 := by rw [e4]; exact below_box _ _
  have x4 := Bx.new z3 #[.int .i64 3, .string ⟨#[]⟩, .int .i64 0, .int .i64 3, .int .i64 0, .string ⟨#[107]⟩, .slice none 0 0, .int .i64 4, .int .i64 0, .string ⟨#[]⟩, .slice (some ⟨w.heap.size + 1 + 1, 0, none⟩) 2 2, .slice none 0 0, .slice none 0 0] 48
  rw [← e4] at x4
  rw [s3] at x4
  have s4 : z4.heap.size = w.heap.size + 1 + 1 + 1 + 1 := by rw [e4]; simp [s3]
  rw [← e4]
  obtain ⟨z5, e5⟩ : ∃ z, z = z4.alloc (.cells #[.string ⟨#[107]⟩, .int .i64 2, .string ⟨#[110]⟩, .int .i64 1] 51) := ⟨_, rfl⟩
  have b5 : Below z4.heap.size z4 z5 := by rw [e5]; exact below_box _ _
  have x5 := Bx.new z4 #[.string ⟨#[107]⟩, .int .i64 2, .string ⟨#[110]⟩, .int .i64 1] 51
  rw [← e5] at x5
  rw [s4] at x5
  have s5 : z5.heap.size = w.heap.size + 1 + 1 + 1 + 1 + 1 := by rw [e5]; simp [s4]
  rw [← e5]
  obtain ⟨z6, e6⟩ : ∃ z, z = z5.alloc (.cells #[.int .i64 3, .string ⟨#[]⟩, .int .i64 0, .int .i64 3, .int .i64 0, .string ⟨#[107]⟩, .slice none 0 0, .int .i64 4, .int .i64 0, .string ⟨#[]⟩, .slice (some ⟨w.heap.size + 1 + 1, 0, none⟩) 2 2, .slice none 0 0, .slice none 0 0] 48) := ⟨_, rfl⟩
  have b6 : Below z5.heap.size z5 z6 := by rw [e6]; exact below_box _ _
  have x6 := Bx.new z5 #[.int .i64 3, .string ⟨#[]⟩, .int .i64 0, .int .i64 3, .int .i64 0, .string ⟨#[107]⟩, .slice none 0 0, .int .i64 4, .int .i64 0, .string ⟨#[]⟩, .slice (some ⟨w.heap.size + 1 + 1, 0, none⟩) 2 2, .slice none 0 0, .slice none 0 0] 48
  rw [← e6] at x6
  rw [s5] at x6
  have s6 : z6.heap.size = w.heap.size + 1 + 1 + 1 + 1 + 1 + 1 := by rw [e6]; simp [s5]
  rw [← e6]
  obtain ⟨z7, e7⟩ : ∃ z, z = z6.alloc (.cells #[.int .i64 6, .string ⟨#[105]⟩, .int .i64 3, .int .i64 1, .int .i64 0, .string ⟨#[]⟩, .slice none 0 0, .int .i64 3, .int .i64 0, .string ⟨#[110]⟩, .slice none 0 0, .slice (some ⟨w.heap.size + 1 + 1 + 1 + 1 + 1, 0, none⟩) 1 1, .slice none 0 0] 48) := ⟨_, rfl⟩
  have b7 : Below z6.heap.size z6 z7 := by rw [e7]; exact below_box _ _
  have x7 := Bx.new z6 #[.int .i64 6, .string ⟨#[105]⟩, .int .i64 3, .int .i64 1, .int .i64 0, .string ⟨#[]⟩, .slice none 0 0, .int .i64 3, .int .i64 0, .string ⟨#[110]⟩, .slice none 0 0, .slice (some ⟨w.heap.size + 1 + 1 + 1 + 1 + 1, 0, none⟩) 1 1, .slice none 0 0] 48
  rw [← e7] at x7
  rw [s6] at x7
  have s7 : z7.heap.size = w.heap.size + 1 + 1 + 1 + 1 + 1 + 1 + 1 := by rw [e7]; simp [s6]
  rw [← e7]
  obtain ⟨z8, e8⟩ : ∃ z, z = z7.alloc (.cells #[.string ⟨#[112]⟩, .slice (some ⟨w.heap.size + 1 + 1 + 1 + 1, 0, none⟩) 2 2, .slice (some ⟨w.heap.size + 1 + 1 + 1 + 1 + 1 + 1, 0, none⟩) 1 1] 25) := ⟨_, rfl⟩
  have b8 : Below z7.heap.size z7 z8 := by rw [e8]; exact below_box _ _
  have x8 := Bx.new z7 #[.string ⟨#[112]⟩, .slice (some ⟨w.heap.size + 1 + 1 + 1 + 1, 0, none⟩) 2 2, .slice (some ⟨w.heap.size + 1 + 1 + 1 + 1 + 1 + 1, 0, none⟩) 1 1] 25
  rw [← e8] at x8
  rw [s7] at x8
  rw [← e8]
  refine ⟨⟨(((((((x1.below b2).below b3).below b4).below b5).below b6).below b7).below b8), ((((((x2.below b3).below b4).below b5).below b6).below b7).below b8), (((((x3.below b4).below b5).below b6).below b7).below b8), ((((x4.below b5).below b6).below b7).below b8), (((x5.below b6).below b7).below b8), ((x6.below b7).below b8), (x7.below b8), x8⟩, ?_⟩
  exact (below_2 (below_2 (below_2 (below_2 (below_2 (below_2 (below_2 b1 b2) b3) b4) b5) b6) b7) b8)
set_option maxHeartbeats 8000000 in
set_option maxRecDepth 100000 in
theorem lives_any (w : World) (ht : Y.Tb w) : Calls Tryd.prog 13 #[] w fun e' w' => e' = .returned (.bool true) ∧ Below w.heap.size w w' := by
  obtain ⟨hE, hB⟩ := ex_chain w
  obtain ⟨F, hF⟩ : ∃ F, ((((((((w.alloc (.cells #[.int .i64 3, .int .i64 0, .string ⟨#[107]⟩, .slice none 0 0] 46)).alloc (.cells #[.int .i64 3, .int .i64 0, .string ⟨#[107]⟩, .slice none 0 0] 46)).alloc (.cells #[.int .i64 22, .int .i64 0, .string ⟨#[]⟩, .slice (some ⟨w.heap.size + 1, 0, none⟩) 1 1, .int .i64 1, .int .i64 1, .string ⟨#[]⟩, .slice none 0 0] 46)).alloc (.cells #[.int .i64 3, .string ⟨#[]⟩, .int .i64 0, .int .i64 3, .int .i64 0, .string ⟨#[107]⟩, .slice none 0 0, .int .i64 4, .int .i64 0, .string ⟨#[]⟩, .slice (some ⟨w.heap.size + 1 + 1, 0, none⟩) 2 2, .slice none 0 0, .slice none 0 0] 48)).alloc (.cells #[.string ⟨#[107]⟩, .int .i64 2, .string ⟨#[110]⟩, .int .i64 1] 51)).alloc (.cells #[.int .i64 3, .string ⟨#[]⟩, .int .i64 0, .int .i64 3, .int .i64 0, .string ⟨#[107]⟩, .slice none 0 0, .int .i64 4, .int .i64 0, .string ⟨#[]⟩, .slice (some ⟨w.heap.size + 1 + 1, 0, none⟩) 2 2, .slice none 0 0, .slice none 0 0] 48)).alloc (.cells #[.int .i64 6, .string ⟨#[105]⟩, .int .i64 3, .int .i64 1, .int .i64 0, .string ⟨#[]⟩, .slice none 0 0, .int .i64 3, .int .i64 0, .string ⟨#[110]⟩, .slice none 0 0, .slice (some ⟨w.heap.size + 1 + 1 + 1 + 1 + 1, 0, none⟩) 1 1, .slice none 0 0] 48)).alloc (.cells #[.string ⟨#[112]⟩, .slice (some ⟨w.heap.size + 1 + 1 + 1 + 1, 0, none⟩) 2 2, .slice (some ⟨w.heap.size + 1 + 1 + 1 + 1 + 1 + 1, 0, none⟩) 1 1] 25)) = F := ⟨_, rfl⟩
  rw [hF] at hE hB
  have HE := Lib.hid hE
  have HT := Lib.hid (ht.below hB)
  have HB := Lib.hid hB
  have HF := Lib.hid hF
  clear hE hB hF ht
  go_enter Tryd.func13, Tryd.ntmps13
  go_wp2_with fail
  rw [HF.out]
  refine (call_Steps HE.out HT.out).mono ?_; rintro e' w1 ⟨rfl, hb⟩
  have H1 := Lib.hid (HE.out.below hb)
  have T1 := Lib.hid (HT.out.below hb)
  have B1 := Lib.hid (below_2 HB.out hb)
  clear hb HF
  have y0 := H1.out.c7.cell 0
  have y1 := H1.out.c7.cell 1
  have y2 := H1.out.c7.cell 2
  simp only [List.getElem?_toArray, List.getElem?_cons_succ, List.getElem?_cons_zero] at y0 y1 y2
  go_wp2_with fail
  refine (call_Gets H1.out T1.out).mono ?_; rintro e' w2 ⟨rfl, hb⟩
  have H2 := Lib.hid (H1.out.below hb)
  have T2 := Lib.hid (T1.out.below hb)
  have B2 := Lib.hid (below_2 B1.out hb)
  clear hb y0 y1 y2
  have y0 := H2.out.c7.cell 0
  have y1 := H2.out.c7.cell 1
  have y2 := H2.out.c7.cell 2
  simp only [List.getElem?_toArray, List.getElem?_cons_succ, List.getElem?_cons_zero] at y0 y1 y2
  go_wp2_with fail
  refine (call_Puts H2.out T2.out).mono ?_; rintro e' w3 ⟨rfl, hb⟩
  have H3 := Lib.hid (H2.out.below hb)
  have T3 := Lib.hid (T2.out.below hb)
  have B3 := Lib.hid (below_2 B2.out hb)
  clear hb y0 y1 y2
  have y0 := H3.out.c7.cell 0
  have y1 := H3.out.c7.cell 1
  have y2 := H3.out.c7.cell 2
  simp only [List.getElem?_toArray, List.getElem?_cons_succ, List.getElem?_cons_zero] at y0 y1 y2
  go_wp2_with fail
  refine (call_Emits H3.out T3.out).mono ?_; rintro e' w4 ⟨rfl, hb⟩
  have H4 := Lib.hid (H3.out.below hb)
  have T4 := Lib.hid (T3.out.below hb)
  have B4 := Lib.hid (below_2 B3.out hb)
  clear hb y0 y1 y2
  have y0 := H4.out.c7.cell 0
  have y1 := H4.out.c7.cell 1
  have y2 := H4.out.c7.cell 2
  simp only [List.getElem?_toArray, List.getElem?_cons_succ, List.getElem?_cons_zero] at y0 y1 y2
  go_wp2_with fail
  refine (call_Check H4.out T4.out).mono ?_; rintro e' w5 ⟨rfl, hb⟩
  have B5 := Lib.hid (below_2 B4.out hb)
  clear hb y0 y1 y2
  go_wp2_with fail
  go_ret
  exact ⟨rfl, B5.out⟩
end Go.Proofs.YtkjefigebdbkaaaDoor.Q
namespace Go.Proofs.YtkjefigebdbkaaaDoor.Q
open Go.RowKit
open A (Ex St Pr Bx okE okEs okB okS cE cB cS Bodies OkP PrIn prV prO ExAt StAt StsAt small)
open L (below_2 below_box ret_bool ret_int)
open P (On on_set off_of wp_region_inv2 IS FT deps Closed)

theorem four_keep {w : World} {b c : Nat} {cs : Array Value} {t : TypeId} (h : Bx w b cs t) (hne : b ≠ c) (u0 u1 u2 u3 : Value) : Bx ((((w.setCell ⟨c, 0, none⟩ u0).setCell ⟨c, 1, none⟩ u1).setCell ⟨c, 2, none⟩ u2).setCell ⟨c, 3, none⟩ u3) b cs t :=
  (((h.keep (Below.heap_setCell _ ⟨c, 0, none⟩ u0 b hne)).keep (Below.heap_setCell _ ⟨c, 1, none⟩ u1 b hne)).keep (Below.heap_setCell _ ⟨c, 2, none⟩ u2 b hne)).keep (Below.heap_setCell _ ⟨c, 3, none⟩ u3 b hne)
/-- a loop around the body -/
def lpS (p : Pr) (nm : ByteArray) (k : Nat) : St := .mk 6 nm k (lf 1 0 ⟨#[]⟩) (lf 1 k ⟨#[]⟩) p.body []
def lpP (p : Pr) (nm : ByteArray) (k : Nat) : Pr := ⟨p.name, p.params, [lpS p nm k]⟩
theorem lp_ok {p : Pr} (hok : OkP p) {nm : ByteArray} (hn : nm.size ≤ 100) {k : Nat} (hk : k ≤ 16) : OkP (lpP p nm k) := by
  refine ⟨hok.name, hok.params, hok.each, (by decide : (1 : Nat) ≤ 1000000000000000), ?_⟩
  show okB [lpS p nm k]
  unfold lpS
  rw [okB, okB, okS]
  exact ⟨⟨by decide, by omega, ⟨by omega, by omega⟩, okE_lf _ _ _ (by decide) (by decide) (by decide), okE_lf _ _ _ (by decide) ⟨by omega, by omega⟩ (by decide), hok.bodyLen, hok.body, by decide, okB_no⟩, trivial⟩
theorem lp_in {p : Pr} {nm : ByteArray} {k : Nat} {w : World} {b : Nat} {a1 a2 : Option Addr} {c2 : Nat} (hx : Bx w b #[.int .i64 6, .string nm, .int .i64 (k : Int), .int .i64 1, .int .i64 0, .string ⟨#[]⟩, .slice none 0 0, .int .i64 1, .int .i64 (k : Int), .string ⟨#[]⟩, .slice none 0 0, .slice a2 p.body.length c2, .slice none 0 0] 48) (hK : PrIn w p a1 a2) : PrIn w (lpP p nm k) a1 (some ⟨b, 0, none⟩) := by
  refine ⟨hK.params, Or.inr ⟨b, 0, rfl, ?_⟩⟩
  show StsAt w [lpS p nm k] b 0
  unfold lpS
  rw [StsAt, StsAt, StAt]
  exact ⟨⟨hx.cell 0, hx.cell 1, hx.cell 2, at_lf (hx.cell 3) (hx.cell 4) (hx.cell 5) (hx.cell 6), at_lf (hx.cell 7) (hx.cell 8) (hx.cell 9) (hx.cell 10), ⟨_, _, hx.cell 11, hK.body⟩, ⟨_, _, hx.cell 12, Or.inl rfl⟩⟩, trivial⟩
theorem lp_ex (p : Pr) (nm : ByteArray) (k : Nat) : exB (lpP p nm k).body = ⟨1 + ((exB p.body).s + 1) * k, (exB p.body).g * k, (exB p.body).u * k, (exB p.body).m * k⟩ := by
  show exB [lpS p nm k] = _
  unfold lpS
  rw [exB, exB, exS]
  refine Ct.eq ?_ ?_ ?_ ?_ <;> (simp [Ct.add, Ct.mul, Ct.z, Ct.one, ownC, lf, gE, gEs, N.isR])
theorem loop_s {x k : Nat} (hk : 1 ≤ k) : min (1 + (x + 1) * k) 16385 = min 16385 (1 + k * (1 + min x 16385)) := by
  by_cases h : x ≤ 16385
  · rw [Nat.min_eq_left h, Nat.mul_comm k, Nat.add_comm 1 x, Nat.min_comm]
  · rw [Nat.min_eq_right (by omega : 16385 ≤ x)]
    have h1 : 16386 * k ≤ (x + 1) * k := Nat.mul_le_mul_right _ (by omega)
    omega
theorem loop_g {x k : Nat} (hk : 1 ≤ k) : min (x * k) 16385 = min 16385 (k * min x 16385) := by
  by_cases h : x ≤ 16385
  · rw [Nat.min_eq_left h, Nat.mul_comm k, Nat.min_comm]
  · rw [Nat.min_eq_right (by omega : 16385 ≤ x)]
    have h1 : 16385 * k ≤ x * k := Nat.mul_le_mul_right _ (by omega)
    omega
set_option maxHeartbeats 8000000 in
set_option maxRecDepth 100000 in
theorem lawLoops_any (p : Pr) (a1 a2 : Option Addr) (c1 c2 : Nat) (hok : OkP p) (hc1 : p.params.length ≤ c1) (nm : ByteArray) (n : Int) (w : World) (ht : Y.Tb w) (hK : PrIn w p a1 a2) :
    Calls Tryd.prog 6 #[prV p a1 c1 a2 c2, .string nm, .int .i64 n] w fun e' w' => e' = .returned (.bool true) ∧ Below w.heap.size w w' := by
  obtain ⟨W1, e1⟩ : ∃ z, z = w.alloc (.cells #[.string p.name, .slice a1 p.params.length c1, .slice a2 p.body.length c2] 25) := ⟨_, rfl⟩
  have bb1 : Below w.heap.size w W1 := by rw [e1]; exact below_box _ _
  have xx1 := Bx.new w #[.string p.name, .slice a1 p.params.length c1, .slice a2 p.body.length c2] 25
  rw [← e1] at xx1
  have s1 : W1.heap.size = w.heap.size + 1 := by rw [e1]; simp
  have HB := Lib.hid bb1
  have HX := Lib.hid xx1
  have HW : Hid (w.alloc (.cells #[.string p.name, .slice a1 p.params.length c1, .slice a2 p.body.length c2] 25) = W1) := by show _ = _; rw [← e1]
  have HS := Lib.hid (A.rsmall_any p a1 c1 a2 c2 150 (by omega) hok W1 (hK.below HB.out))
  have HLv : Hid (∀ wk, Below W1.heap.size W1 wk → Calls Tryd.prog 13 #[] wk fun e' w' => e' = .returned (.bool true) ∧ Below w.heap.size w w') := fun wk hk => (lives_any wk (ht.below (below_2 HB.out hk))).mono fun e' w' h => ⟨h.1, below_2 (below_2 HB.out hk) h.2⟩
  have HCk : Hid (∀ wk, Below W1.heap.size W1 wk → Calls Tryd.prog 17 #[prV p a1 c1 a2 c2] wk fun e' w' => e' = .returned (.int .i64 (N.checkN p)) ∧ Below wk.heap.size wk w') := fun wk hk => N.oCheck_any p a1 a2 c1 c2 hok hc1 wk (ht.below (below_2 HB.out hk)) (hK.below (below_2 HB.out hk))
  have HOf : Hid (∀ wk, Below W1.heap.size W1 wk → Calls Tryd.prog 15 #[prV p a1 c1 a2 c2] wk fun e' w' => e' = .returned (ciV (cst p)) ∧ Below wk.heap.size wk w') := fun wk hk => lof_any p a1 a2 c1 c2 hok hc1 wk (ht.below (below_2 HB.out hk)) (hK.below (below_2 HB.out hk))
  have HT := Lib.hid (ht.below HB.out)
  have HK := Lib.hid (hK.below HB.out)
  have HOk := Lib.hid hok
  have HC1 := Lib.hid hc1
  unfold prV at HS HCk HOf ⊢
  clear e1 bb1 xx1 s1 hok hc1 ht hK
  generalize small p 150 = sm at *
  cases sm
  · go_enter Tryd.func6, Tryd.ntmps6
    go_wp2_with fail
    rw [HW.out]
    have x0 := HX.out.cell 0
    have x1 := HX.out.cell 1
    have x2 := HX.out.cell 2
    simp only [List.getElem?_toArray, List.getElem?_cons_zero, List.getElem?_cons_succ] at x0 x1 x2
    go_wp2_with fail
    refine HS.out.mono ?_; rintro e' w2 ⟨rfl, hb2⟩
    have HB2 := Lib.hid hb2
    clear hb2 x0 x1 x2
    go_wp2_with fail
    refine (HLv.out _ HB2.out).mono ?_; rintro e' w9 ⟨rfl, hb9⟩
    have HB9 := Lib.hid hb9
    clear hb9
    go_wp2_with fail
    go_ret
    exact ⟨rfl, HB9.out⟩
  by_cases hnm : 100 < nm.size
  · have b1 : decide ((100 : Int) < (nm.size : Int)) = true := decide_eq_true (by omega)
    go_enter Tryd.func6, Tryd.ntmps6
    go_wp2_with fail
    rw [HW.out]
    have x0 := HX.out.cell 0
    have x1 := HX.out.cell 1
    have x2 := HX.out.cell 2
    simp only [List.getElem?_toArray, List.getElem?_cons_zero, List.getElem?_cons_succ] at x0 x1 x2
    go_wp2_with fail
    refine HS.out.mono ?_; rintro e' w2 ⟨rfl, hb2⟩
    have HB2 := Lib.hid hb2
    clear hb2 x0 x1 x2
    go_wp2_with fail
    refine (HLv.out _ HB2.out).mono ?_; rintro e' w9 ⟨rfl, hb9⟩
    have HB9 := Lib.hid hb9
    clear hb9
    go_wp2_with fail
    go_ret
    exact ⟨rfl, HB9.out⟩
  have b1 : decide ((100 : Int) < (nm.size : Int)) = false := decide_eq_false (by omega)
  by_cases hn1 : n < 1
  · have b2 : decide (n < 1) = true := decide_eq_true (by omega)
    go_enter Tryd.func6, Tryd.ntmps6
    go_wp2_with fail
    rw [HW.out]
    have x0 := HX.out.cell 0
    have x1 := HX.out.cell 1
    have x2 := HX.out.cell 2
    simp only [List.getElem?_toArray, List.getElem?_cons_zero, List.getElem?_cons_succ] at x0 x1 x2
    go_wp2_with fail
    refine HS.out.mono ?_; rintro e' w2 ⟨rfl, hb2⟩
    have HB2 := Lib.hid hb2
    clear hb2 x0 x1 x2
    go_wp2_with fail
    refine (HLv.out _ HB2.out).mono ?_; rintro e' w9 ⟨rfl, hb9⟩
    have HB9 := Lib.hid hb9
    clear hb9
    go_wp2_with fail
    go_ret
    exact ⟨rfl, HB9.out⟩
  have b2 : decide (n < 1) = false := decide_eq_false (by omega)
  by_cases hn2 : 16 < n
  · have b3 : decide (16 < n) = true := decide_eq_true (by omega)
    go_enter Tryd.func6, Tryd.ntmps6
    go_wp2_with fail
    rw [HW.out]
    have x0 := HX.out.cell 0
    have x1 := HX.out.cell 1
    have x2 := HX.out.cell 2
    simp only [List.getElem?_toArray, List.getElem?_cons_zero, List.getElem?_cons_succ] at x0 x1 x2
    go_wp2_with fail
    refine HS.out.mono ?_; rintro e' w2 ⟨rfl, hb2⟩
    have HB2 := Lib.hid hb2
    clear hb2 x0 x1 x2
    go_wp2_with fail
    refine (HLv.out _ HB2.out).mono ?_; rintro e' w9 ⟨rfl, hb9⟩
    have HB9 := Lib.hid hb9
    clear hb9
    go_wp2_with fail
    go_ret
    exact ⟨rfl, HB9.out⟩
  have b3 : decide (16 < n) = false := decide_eq_false (by omega)
  by_cases hE : N.checkN p = 0
  case neg =>
    have b4 : (N.checkN p != 0) = true := bne_iff_ne.2 hE
    generalize N.checkN p = E at *
    clear hE hnm hn1 hn2
    go_enter Tryd.func6, Tryd.ntmps6
    go_wp2_with fail
    rw [HW.out]
    have x0 := HX.out.cell 0
    have x1 := HX.out.cell 1
    have x2 := HX.out.cell 2
    simp only [List.getElem?_toArray, List.getElem?_cons_zero, List.getElem?_cons_succ] at x0 x1 x2
    go_wp2_with fail
    refine HS.out.mono ?_; rintro e' w2 ⟨rfl, hb2⟩
    have HB2 := Lib.hid hb2
    clear hb2 x0 x1 x2
    have y0 := (HX.out.below HB2.out).cell 0
    have y1 := (HX.out.below HB2.out).cell 1
    have y2 := (HX.out.below HB2.out).cell 2
    simp only [List.getElem?_toArray, List.getElem?_cons_zero, List.getElem?_cons_succ] at y0 y1 y2
    go_wp2_with fail
    refine (HCk.out _ HB2.out).mono ?_; rintro e' w3 ⟨rfl, hb3⟩
    have HB3 := Lib.hid (below_2 HB2.out hb3)
    clear hb3 y0 y1 y2
    go_wp2_with fail
    refine (HLv.out _ HB3.out).mono ?_; rintro e' w9 ⟨rfl, hb9⟩
    have HB9 := Lib.hid hb9
    clear hb9
    go_wp2_with fail
    go_ret
    exact ⟨rfl, HB9.out⟩
  obtain ⟨k, hk⟩ : ∃ k, n.toNat = k := ⟨_, rfl⟩
  obtain rfl : n = (k : Int) := by omega
  have hk1 : 1 ≤ k := by omega
  have hk2 : k ≤ 16 := by omega
  have HCp : Hid (cst p = Ci.of (exB p.body).cut) := by show _ = _; unfold cst; rw [if_neg (fun z => z hE)]
  have HQok := Lib.hid (lp_ok HOk.out (nm := nm) (by omega) hk2)
  have HQex := Lib.hid (lp_ex p nm k)
  rw [hE] at HCk
  clear hk hn1 hn2 hE hnm
  go_enter Tryd.func6, Tryd.ntmps6
  go_wp2_with fail
  rw [HW.out]
  have x0 := HX.out.cell 0
  have x1 := HX.out.cell 1
  have x2 := HX.out.cell 2
  simp only [List.getElem?_toArray, List.getElem?_cons_zero, List.getElem?_cons_succ] at x0 x1 x2
  go_wp2_with fail
  refine HS.out.mono ?_; rintro e' w2 ⟨rfl, hb2⟩
  have HB2 := Lib.hid hb2
  clear hb2 x0 x1 x2
  have y0 := (HX.out.below HB2.out).cell 0
  have y1 := (HX.out.below HB2.out).cell 1
  have y2 := (HX.out.below HB2.out).cell 2
  simp only [List.getElem?_toArray, List.getElem?_cons_zero, List.getElem?_cons_succ] at y0 y1 y2
  go_wp2_with fail
  refine (HCk.out _ HB2.out).mono ?_; rintro e' w3 ⟨rfl, hb3⟩
  have HB3 := Lib.hid (below_2 HB2.out hb3)
  clear hb3 y0 y1 y2
  have y0 := (HX.out.below HB3.out).cell 0
  have y1 := (HX.out.below HB3.out).cell 1
  have y2 := (HX.out.below HB3.out).cell 2
  simp only [List.getElem?_toArray, List.getElem?_cons_zero, List.getElem?_cons_succ] at y0 y1 y2
  have hba := below_box w3 (.cells #[.int .i64 6, .string nm, .int .i64 (k : Int), .int .i64 1, .int .i64 0, .string ⟨#[]⟩, .slice none 0 0, .int .i64 1, .int .i64 (k : Int), .string ⟨#[]⟩, .slice none 0 0, .slice a2 p.body.length c2, .slice none 0 0] 48)
  have hxa := Bx.new w3 #[.int .i64 6, .string nm, .int .i64 (k : Int), .int .i64 1, .int .i64 0, .string ⟨#[]⟩, .slice none 0 0, .int .i64 1, .int .i64 (k : Int), .string ⟨#[]⟩, .slice none 0 0, .slice a2 p.body.length c2, .slice none 0 0] 48
  have hbb := below_box (w3.alloc (.cells #[.int .i64 6, .string nm, .int .i64 (k : Int), .int .i64 1, .int .i64 0, .string ⟨#[]⟩, .slice none 0 0, .int .i64 1, .int .i64 (k : Int), .string ⟨#[]⟩, .slice none 0 0, .slice a2 p.body.length c2, .slice none 0 0] 48)) (.cells #[.string p.name, .slice a1 p.params.length c1, .slice (some ⟨w3.heap.size, 0, none⟩) 1 1] 25)
  have hxb := Bx.new (w3.alloc (.cells #[.int .i64 6, .string nm, .int .i64 (k : Int), .int .i64 1, .int .i64 0, .string ⟨#[]⟩, .slice none 0 0, .int .i64 1, .int .i64 (k : Int), .string ⟨#[]⟩, .slice none 0 0, .slice a2 p.body.length c2, .slice none 0 0] 48)) #[.string p.name, .slice a1 p.params.length c1, .slice (some ⟨w3.heap.size, 0, none⟩) 1 1] 25
  have hsa : (w3.alloc (.cells #[.int .i64 6, .string nm, .int .i64 (k : Int), .int .i64 1, .int .i64 0, .string ⟨#[]⟩, .slice none 0 0, .int .i64 1, .int .i64 (k : Int), .string ⟨#[]⟩, .slice none 0 0, .slice a2 p.body.length c2, .slice none 0 0] 48)).heap.size = w3.heap.size + 1 := by simp
  rw [hsa] at hxb
  obtain ⟨W5, hW5⟩ : ∃ z, ((w3.alloc (.cells #[.int .i64 6, .string nm, .int .i64 (k : Int), .int .i64 1, .int .i64 0, .string ⟨#[]⟩, .slice none 0 0, .int .i64 1, .int .i64 (k : Int), .string ⟨#[]⟩, .slice none 0 0, .slice a2 p.body.length c2, .slice none 0 0] 48)).alloc (.cells #[.string p.name, .slice a1 p.params.length c1, .slice (some ⟨w3.heap.size, 0, none⟩) 1 1] 25)) = z := ⟨_, rfl⟩
  rw [hW5] at hxb hbb
  have HW5 := Lib.hid hW5
  have HXa := Lib.hid (hxa.below hbb)
  have HXb := Lib.hid hxb
  have HB5 := Lib.hid (below_2 HB3.out (below_2 hba hbb))
  have HQK := Lib.hid (lp_in HXa.out (HK.out.below HB5.out))
  clear hba hxa hbb hxb hsa hW5
  have HCq : Hid (∀ wk, Below W5.heap.size W5 wk → Calls Tryd.prog 17 #[.agg #[.string p.name, .slice a1 p.params.length c1, .slice (some ⟨w3.heap.size, 0, none⟩) 1 1]] wk fun e' w' => e' = .returned (.int .i64 (N.checkN (lpP p nm k))) ∧ Below wk.heap.size wk w') := fun wk hk => N.oCheck_any (lpP p nm k) a1 (some ⟨w3.heap.size, 0, none⟩) c1 1 HQok.out HC1.out wk (HT.out.below (below_2 HB5.out hk)) (HQK.out.below hk)
  have HOq : Hid (∀ wk, Below W5.heap.size W5 wk → Calls Tryd.prog 15 #[.agg #[.string p.name, .slice a1 p.params.length c1, .slice (some ⟨w3.heap.size, 0, none⟩) 1 1]] wk fun e' w' => e' = .returned (ciV (cst (lpP p nm k))) ∧ Below wk.heap.size wk w') := fun wk hk => lof_any (lpP p nm k) a1 (some ⟨w3.heap.size, 0, none⟩) c1 1 HQok.out HC1.out wk (HT.out.below (below_2 HB5.out hk)) (HQK.out.below hk)
  have HCQ : Hid ((if N.checkN (lpP p nm k) ≠ 0 then Ci.no else Ci.of (exB (lpP p nm k).body).cut) = cst (lpP p nm k)) := rfl
  rw [HQex.out] at HCQ
  generalize N.checkN (lpP p nm k) = E at *
  generalize cst (lpP p nm k) = CQ at *
  go_wp2_with fail
  rw [HW5.out]
  refine (HCq.out _ (Below.refl _ _)).mono ?_; rintro e' w6 ⟨rfl, hb6⟩
  have HB6 := Lib.hid hb6
  clear hb6 y0 y1 y2
  by_cases hE : E = 0
  case neg =>
    have b5 : (E != 0) = true := bne_iff_ne.2 hE
    have hcq := HCQ.out
    rw [if_pos hE] at hcq
    subst hcq
    unfold ciV at HOq
    clear hE HCQ
    have y0 := (HXb.out.below HB6.out).cell 0
    have y1 := (HXb.out.below HB6.out).cell 1
    have y2 := (HXb.out.below HB6.out).cell 2
    simp only [List.getElem?_toArray, List.getElem?_cons_zero, List.getElem?_cons_succ] at y0 y1 y2
    go_wp2_with fail
    refine (HOq.out _ HB6.out).mono ?_; rintro e' w7 ⟨rfl, hb7⟩
    have HB7 := Lib.hid (below_2 HB5.out (below_2 HB6.out hb7))
    clear hb7 y0 y1 y2
    unfold Ci.no
    go_wp2_with fail
    refine (HLv.out _ HB7.out).mono ?_; rintro e' w9 ⟨rfl, hb9⟩
    have HB9 := Lib.hid hb9
    clear hb9
    go_wp2_with fail
    go_ret
    exact ⟨rfl, HB9.out⟩
  subst hE
  have hcq := HCQ.out
  rw [if_neg (fun z => z rfl)] at hcq
  have hcp := HCp.out
  have e0 := loop_s (x := (exB p.body).s) hk1
  have e1 := loop_g (x := (exB p.body).g) hk1
  have e2 := loop_g (x := (exB p.body).u) hk1
  have e3 := loop_g (x := (exB p.body).m) hk1
  have hu0 : min (exB p.body).s 16385 ≤ 16385 := Nat.min_le_right _ _
  have hu1 : min (exB p.body).g 16385 ≤ 16385 := Nat.min_le_right _ _
  have hu2 : min (exB p.body).u 16385 ≤ 16385 := Nat.min_le_right _ _
  have hu3 : min (exB p.body).m 16385 ≤ 16385 := Nat.min_le_right _ _
  unfold Ct.cut Ci.of at hcp hcq
  dsimp only at hcp hcq
  rw [e0, e1, e2, e3] at hcq
  clear e0 e1 e2 e3
  generalize min (exB p.body).s 16385 = u0 at *
  generalize min (exB p.body).g 16385 = u1 at *
  generalize min (exB p.body).u 16385 = u2 at *
  generalize min (exB p.body).m 16385 = u3 at *
  have hl0 : k * (1 + u0) ≤ 16 * 16386 := Nat.mul_le_mul hk2 (by omega)
  have hl1 : k * u1 ≤ 16 * 16386 := Nat.mul_le_mul hk2 (by omega)
  have hl2 : k * u2 ≤ 16 * 16386 := Nat.mul_le_mul hk2 (by omega)
  have hl3 : k * u3 ≤ 16 * 16386 := Nat.mul_le_mul hk2 (by omega)
  obtain ⟨m0, hm0⟩ : ∃ m, k * (1 + u0) = m := ⟨_, rfl⟩
  obtain ⟨m1, hm1⟩ : ∃ m, k * u1 = m := ⟨_, rfl⟩
  obtain ⟨m2, hm2⟩ : ∃ m, k * u2 = m := ⟨_, rfl⟩
  obtain ⟨m3, hm3⟩ : ∃ m, k * u3 = m := ⟨_, rfl⟩
  have g0 : (k : Int) * (1 + (u0 : Int)) = (m0 : Int) := by rw [← hm0, Int.natCast_mul, Int.natCast_add]; rfl
  have g1 : (k : Int) * (u1 : Int) = (m1 : Int) := by rw [← hm1, Int.natCast_mul]
  have g2 : (k : Int) * (u2 : Int) = (m2 : Int) := by rw [← hm2, Int.natCast_mul]
  have g3 : (k : Int) * (u3 : Int) = (m3 : Int) := by rw [← hm3, Int.natCast_mul]
  rw [hm0, hm1, hm2, hm3] at hcq
  rw [hm0] at hl0
  rw [hm1] at hl1
  rw [hm2] at hl2
  rw [hm3] at hl3
  have hl0' : (m0 : Int) ≤ 300000 := by omega
  have hl1' : (m1 : Int) ≤ 300000 := by omega
  have hl2' : (m2 : Int) ≤ 300000 := by omega
  have hl3' : (m3 : Int) ≤ 300000 := by omega
  have f0 : (((min 16385 (1 + m0) : Nat) : Int) == min 16385 (1 + (m0 : Int))) = true := by rw [beq_iff_eq]; omega
  have f1 : (((min 16385 m1 : Nat) : Int) == min 16385 (m1 : Int)) = true := by rw [beq_iff_eq]; omega
  have f2 : (((min 16385 m2 : Nat) : Int) == min 16385 (m2 : Int)) = true := by rw [beq_iff_eq]; omega
  have f3 : (((min 16385 m3 : Nat) : Int) == min 16385 (m3 : Int)) = true := by rw [beq_iff_eq]; omega
  generalize min 16385 (1 + m0) = y0 at *
  generalize min 16385 m1 = y1 at *
  generalize min 16385 m2 = y2 at *
  generalize min 16385 m3 = y3 at *
  clear HCp HCQ hm0 hm1 hm2 hm3 hl0 hl1 hl2 hl3
  rw [hcp] at HOf
  subst hcq
  unfold ciV at HOf HOq
  clear hcp
  have G0 := Lib.hid g0
  have G1 := Lib.hid g1
  have G2 := Lib.hid g2
  have G3 := Lib.hid g3
  clear g0 g1 g2 g3
  go_upto_region 7 with fail
  refine wp_region_inv2 rfl (fun l a w' => ∃ v0 v1 v2 v3 v4 v5 : Value, a = { tmps := #[Value.agg #[Value.string p.name, Value.slice a1 p.params.length c1, Value.slice a2 p.body.length c2], Value.string nm, Value.int IntKind.i64 ↑k, Value.pointer (some { block := w.heap.size, off := 0 }), undef, undef, Value.bool false, Value.pointer (some { block := w3.heap.size + 1, off := 0 }), Value.int IntKind.i64 16385, v4, v5, Value.agg #[Value.string p.name, Value.slice a1 p.params.length c1, Value.slice a2 p.body.length c2], Value.bool true, Value.bool false, Value.bool false, Value.string nm, Value.int IntKind.i64 ↑nm.size, Value.bool false, Value.bool false, Value.bool false, Value.int IntKind.i64 ↑k, Value.bool false, Value.bool false, Value.bool false, Value.int IntKind.i64 ↑k, Value.bool false, Value.bool false, Value.bool false, Value.agg #[Value.string p.name, Value.slice a1 p.params.length c1, Value.slice a2 p.body.length c2], Value.int IntKind.i64 0, Value.bool false, Value.bool false, undef, Value.pointer (some { block := w.heap.size, off := 0 }), Value.string p.name, Value.pointer (some { block := w.heap.size, off := 1 }), Value.slice a1 p.params.length c1, Value.string nm, Value.agg #[Value.int IntKind.i64 1, Value.int IntKind.i64 0, Value.string { data := #[] }, Value.slice none 0 0], Value.int IntKind.i64 ↑k, Value.agg #[Value.int IntKind.i64 1, Value.int IntKind.i64 ↑k, Value.string { data := #[] }, Value.slice none 0 0], Value.int IntKind.i64 ↑k, Value.pointer (some { block := w.heap.size, off := 2 }), Value.slice a2 p.body.length c2, Value.agg #[Value.int IntKind.i64 6, Value.string nm, Value.int IntKind.i64 ↑k, Value.int IntKind.i64 1, Value.int IntKind.i64 0, Value.string { data := #[] }, Value.slice none 0 0, Value.int IntKind.i64 1, Value.int IntKind.i64 ↑k, Value.string { data := #[] }, Value.slice none 0 0, Value.slice a2 p.body.length c2, Value.slice none 0 0], Value.slice (some { block := w3.heap.size, off := 0 }) 1 1, Value.agg #[Value.string p.name, Value.slice a1 p.params.length c1, Value.slice (some { block := w3.heap.size, off := 0 }) 1 1], Value.agg #[Value.string p.name, Value.slice a1 p.params.length c1, Value.slice (some { block := w3.heap.size, off := 0 }) 1 1], Value.int IntKind.i64 0, Value.bool false, undef, undef, undef, undef, undef, undef, undef, v0, v1, v2, v3, undef, undef, undef, undef, undef, undef, undef, undef, undef, undef, undef, undef, undef, undef, undef, undef, undef, undef, undef, undef, undef, undef, undef, undef, undef, undef, undef, undef, undef, undef, undef, undef, undef, undef, undef, undef, undef, undef, undef, undef, undef, undef, undef, undef, undef, undef, undef], defers := [] } ∧ ((¬ On l 6 ∧ IS (FT [some (.agg #[.string p.name, .slice a1 p.params.length c1, .slice a2 p.body.length c2]), some (.agg #[.int .i64 (u0 : Int), .int .i64 (u1 : Int), .int .i64 (u2 : Int), .int .i64 (u3 : Int)]), some (.agg #[.string p.name, .slice a1 p.params.length c1, .slice (some ⟨w3.heap.size, 0, none⟩) 1 1]), some (.agg #[.int .i64 (y0 : Int), .int .i64 (y1 : Int), .int .i64 (y2 : Int), .int .i64 (y3 : Int)]), none, none] 35 #[.int .i64 0, .int .i64 0, .int .i64 0, .int .i64 0] (w6.heap.size)) w6 l w' [v0, v1, v2, v3, v4, v5] ∧ (On l 4 → On l 5 → v4 ≠ v5)) ∨ (On l 6 ∧ ((¬ On l 7 ∧ ∃ d9 d10, v4 = .pointer (some ⟨d9, 0, none⟩) ∧ v5 = .pointer (some ⟨d10, 0, none⟩) ∧ v3 = .agg #[.int .i64 (y0 : Int), .int .i64 (y1 : Int), .int .i64 (y2 : Int), .int .i64 (y3 : Int)] ∧ d9 ≠ d10 ∧ w6.heap.size ≤ d9 ∧ w6.heap.size ≤ d10 ∧ Bx w' d9 #[.int .i64 (u0 : Int), .int .i64 (u1 : Int), .int .i64 (u2 : Int), .int .i64 (u3 : Int)] 35 ∧ Bx w' d10 #[.int .i64 0, .int .i64 0, .int .i64 0, .int .i64 0] 35 ∧ Below w6.heap.size w6 w') ∨ (On l 7 ∧ ∃ d9 d10, v4 = .pointer (some ⟨d9, 0, none⟩) ∧ v5 = .pointer (some ⟨d10, 0, none⟩) ∧ Bx w' d9 #[.int .i64 (u0 : Int), .int .i64 (u1 : Int), .int .i64 (u2 : Int), .int .i64 (u3 : Int)] 35 ∧ Bx w' d10 #[.int .i64 (y0 : Int), .int .i64 (y1 : Int), .int .i64 (y2 : Int), .int .i64 (y3 : Int)] 35 ∧ Below w6.heap.size w6 w'))))) (by kernel_rfl) ?_ ?_ ?_
  · intro l hl
    exact ⟨_, _, _, _, _, _, rfl, Or.inl ⟨hl 6, IS.start _ _ hl _, fun z => absurd z (hl 4)⟩⟩
  · rintro l a w' ⟨v0, v1, v2, v3, v4, v5, rfl, hF⟩ hcl i hi h0 hall
    match i, hi, h0, hall with
    | 0, _, h0, hall =>
      have hno : ¬ On l 6 := fun z => off_of h0 (hcl 6 (z) 0 (by decide +kernel))
      obtain ⟨hnm, F, HD⟩ := hF.resolve_right (fun z => hno z.1)
      have HNm : Hid (¬ On (l.setIfInBounds 0 true) 6) := fun z => hnm (((on_set h0 6).1 z).resolve_left (by decide))
      clear hF hnm hno
      have hxx := HX.out.below (below_2 HB5.out (below_2 HB6.out F.bel))
      have q0 := hxx.cell 0
      have q1 := hxx.cell 1
      have q2 := hxx.cell 2
      simp only [List.getElem?_toArray, List.getElem?_cons_zero, List.getElem?_cons_succ] at q0 q1 q2
      clear hxx
      have HF := Lib.hid (F.step FT.mono h0 (show 0 < 6 by decide) (Below.refl _ _) (x := .agg #[.string p.name, .slice a1 p.params.length c1, .slice a2 p.body.length c2]) rfl)
      have HDn : Hid (On (l.setIfInBounds 0 true) 4 → On (l.setIfInBounds 0 true) 5 → v4 ≠ v5) := fun z1 z2 => HD (((on_set h0 4).1 z1).resolve_left (by decide)) (((on_set h0 5).1 z2).resolve_left (by decide))
      clear F hall h0 hcl HD
      refine wpOp_step (by rfl) (fun K' hK => ?_)
      have HKk := Lib.hid hK
      clear hK
      go_simp
      exact HKk.out _ _ ⟨_, _, _, _, _, _, rfl, Or.inl ⟨HNm.out, HF.out, HDn.out⟩⟩
    | 1, _, h0, hall =>
      have hno : ¬ On l 6 := fun z => off_of h0 (hcl 6 (z) 1 (by decide +kernel))
      obtain ⟨hnm, F, HD⟩ := hF.resolve_right (fun z => hno z.1)
      have HNm : Hid (¬ On (l.setIfInBounds 1 true) 6) := fun z => hnm (((on_set h0 6).1 z).resolve_left (by decide))
      clear hF hnm hno
      obtain rfl : v0 = .agg #[.string p.name, .slice a1 p.params.length c1, .slice a2 p.body.length c2] := F.f 0 (hall 0 (by decide +kernel))
      have HC := Lib.hid (HOf.out w' (below_2 HB5.out (below_2 HB6.out F.bel)))
      have HF := Lib.hid (fun w'' hb x hx => F.step FT.mono h0 (show 1 < 6 by decide) (w' := w'') hb (x := x) hx)
      have HDn : Hid (On (l.setIfInBounds 1 true) 4 → On (l.setIfInBounds 1 true) 5 → v4 ≠ v5) := fun z1 z2 => HD (((on_set h0 4).1 z1).resolve_left (by decide)) (((on_set h0 5).1 z2).resolve_left (by decide))
      clear F hall h0 hcl HD
      refine wpOp_step (by rfl) (fun K' hK => ?_)
      have HKk := Lib.hid hK
      clear hK
      go_simp
      go_at_call 15
      refine HC.out.mono ?_; rintro e' w5 ⟨rfl, hb5⟩
      have HF5 := Lib.hid (HF.out w5 hb5 (.agg #[.int .i64 (u0 : Int), .int .i64 (u1 : Int), .int .i64 (u2 : Int), .int .i64 (u3 : Int)]) rfl)
      exact HKk.out _ _ ⟨_, _, _, _, _, _, rfl, Or.inl ⟨HNm.out, HF5.out, HDn.out⟩⟩
    | 2, _, h0, hall =>
      have hno : ¬ On l 6 := fun z => off_of h0 (hcl 3 (hcl 6 (z) 3 (by decide +kernel)) 2 (by decide +kernel))
      obtain ⟨hnm, F, HD⟩ := hF.resolve_right (fun z => hno z.1)
      have HNm : Hid (¬ On (l.setIfInBounds 2 true) 6) := fun z => hnm (((on_set h0 6).1 z).resolve_left (by decide))
      clear hF hnm hno
      have hxx := HXb.out.below (below_2 HB6.out F.bel)
      have q0 := hxx.cell 0
      have q1 := hxx.cell 1
      have q2 := hxx.cell 2
      simp only [List.getElem?_toArray, List.getElem?_cons_zero, List.getElem?_cons_succ] at q0 q1 q2
      clear hxx
      have HF := Lib.hid (F.step FT.mono h0 (show 2 < 6 by decide) (Below.refl _ _) (x := .agg #[.string p.name, .slice a1 p.params.length c1, .slice (some ⟨w3.heap.size, 0, none⟩) 1 1]) rfl)
      have HDn : Hid (On (l.setIfInBounds 2 true) 4 → On (l.setIfInBounds 2 true) 5 → v4 ≠ v5) := fun z1 z2 => HD (((on_set h0 4).1 z1).resolve_left (by decide)) (((on_set h0 5).1 z2).resolve_left (by decide))
      clear F hall h0 hcl HD
      refine wpOp_step (by rfl) (fun K' hK => ?_)
      have HKk := Lib.hid hK
      clear hK
      go_simp
      exact HKk.out _ _ ⟨_, _, _, _, _, _, rfl, Or.inl ⟨HNm.out, HF.out, HDn.out⟩⟩
    | 3, _, h0, hall =>
      have hno : ¬ On l 6 := fun z => off_of h0 (hcl 6 (z) 3 (by decide +kernel))
      obtain ⟨hnm, F, HD⟩ := hF.resolve_right (fun z => hno z.1)
      have HNm : Hid (¬ On (l.setIfInBounds 3 true) 6) := fun z => hnm (((on_set h0 6).1 z).resolve_left (by decide))
      clear hF hnm hno
      obtain rfl : v2 = .agg #[.string p.name, .slice a1 p.params.length c1, .slice (some ⟨w3.heap.size, 0, none⟩) 1 1] := F.f 2 (hall 2 (by decide +kernel))
      have HC := Lib.hid (HOq.out w' (below_2 HB6.out F.bel))
      have HF := Lib.hid (fun w'' hb x hx => F.step FT.mono h0 (show 3 < 6 by decide) (w' := w'') hb (x := x) hx)
      have HDn : Hid (On (l.setIfInBounds 3 true) 4 → On (l.setIfInBounds 3 true) 5 → v4 ≠ v5) := fun z1 z2 => HD (((on_set h0 4).1 z1).resolve_left (by decide)) (((on_set h0 5).1 z2).resolve_left (by decide))
      clear F hall h0 hcl HD
      refine wpOp_step (by rfl) (fun K' hK => ?_)
      have HKk := Lib.hid hK
      clear hK
      go_simp
      go_at_call 15
      refine HC.out.mono ?_; rintro e' w5 ⟨rfl, hb5⟩
      have HF5 := Lib.hid (HF.out w5 hb5 (.agg #[.int .i64 (y0 : Int), .int .i64 (y1 : Int), .int .i64 (y2 : Int), .int .i64 (y3 : Int)]) rfl)
      exact HKk.out _ _ ⟨_, _, _, _, _, _, rfl, Or.inl ⟨HNm.out, HF5.out, HDn.out⟩⟩
    | 4, _, h0, hall =>
      have hno : ¬ On l 6 := fun z => off_of h0 (hcl 6 (z) 4 (by decide +kernel))
      obtain ⟨hnm, F, HD⟩ := hF.resolve_right (fun z => hno z.1)
      have HNm : Hid (¬ On (l.setIfInBounds 4 true) 6) := fun z => hnm (((on_set h0 6).1 z).resolve_left (by decide))
      clear hF hnm hno
      have HF := Lib.hid (F.step FT.mono h0 (show 4 < 6 by decide) (w' := w'.alloc (.cells #[.int .i64 0, .int .i64 0, .int .i64 0, .int .i64 0] 35)) (below_box _ _) (x := .pointer (some ⟨w'.heap.size, 0, none⟩)) (show ∃ b, _ ∧ w6.heap.size ≤ b ∧ Bx _ b _ _ from ⟨_, rfl, F.bel.size, Bx.new _ _ _⟩))
      have HDn : Hid (On (l.setIfInBounds 4 true) 4 → On (l.setIfInBounds 4 true) 5 → (Value.pointer (some ⟨w'.heap.size, 0, none⟩)) ≠ v5) := fun z1 z2 => by
        obtain ⟨b, hv, _, hx⟩ : ∃ b, v5 = .pointer (some ⟨b, 0, none⟩) ∧ w6.heap.size ≤ b ∧ Bx w' b #[.int .i64 0, .int .i64 0, .int .i64 0, .int .i64 0] 35 := F.f 5 (((on_set h0 5).1 z2).resolve_left (by decide))
        rw [hv]
        have := hx.lt
        intro e
        injection e with e
        injection e with e
        injection e with e
        omega
      clear F hall h0 hcl HD
      refine wpOp_step (by rfl) (fun K' hK => ?_)
      have HKk := Lib.hid hK
      clear hK
      go_simp
      exact HKk.out _ _ ⟨_, _, _, _, _, _, rfl, Or.inl ⟨HNm.out, HF.out, HDn.out⟩⟩
    | 5, _, h0, hall =>
      have hno : ¬ On l 6 := fun z => off_of h0 (hcl 6 (z) 5 (by decide +kernel))
      obtain ⟨hnm, F, HD⟩ := hF.resolve_right (fun z => hno z.1)
      have HNm : Hid (¬ On (l.setIfInBounds 5 true) 6) := fun z => hnm (((on_set h0 6).1 z).resolve_left (by decide))
      clear hF hnm hno
      have HF := Lib.hid (F.step FT.mono h0 (show 5 < 6 by decide) (w' := w'.alloc (.cells #[.int .i64 0, .int .i64 0, .int .i64 0, .int .i64 0] 35)) (below_box _ _) (x := .pointer (some ⟨w'.heap.size, 0, none⟩)) (show ∃ b, _ ∧ w6.heap.size ≤ b ∧ Bx _ b _ _ from ⟨_, rfl, F.bel.size, Bx.new _ _ _⟩))
      have HDn : Hid (On (l.setIfInBounds 5 true) 4 → On (l.setIfInBounds 5 true) 5 → v4 ≠ (Value.pointer (some ⟨w'.heap.size, 0, none⟩))) := fun z1 z2 => by
        obtain ⟨b, hv, _, hx⟩ : ∃ b, v4 = .pointer (some ⟨b, 0, none⟩) ∧ w6.heap.size ≤ b ∧ Bx w' b #[.int .i64 0, .int .i64 0, .int .i64 0, .int .i64 0] 35 := F.f 4 (((on_set h0 4).1 z1).resolve_left (by decide))
        rw [hv]
        have := hx.lt
        intro e
        injection e with e
        injection e with e
        injection e with e
        omega
      clear F hall h0 hcl HD
      refine wpOp_step (by rfl) (fun K' hK => ?_)
      have HKk := Lib.hid hK
      clear hK
      go_simp
      exact HKk.out _ _ ⟨_, _, _, _, _, _, rfl, Or.inl ⟨HNm.out, HF.out, HDn.out⟩⟩
    | 6, _, h0, hall =>
      obtain ⟨hnm, F, HD⟩ := hF.resolve_right (fun z => off_of h0 z.1)
      obtain rfl : v1 = .agg #[.int .i64 (u0 : Int), .int .i64 (u1 : Int), .int .i64 (u2 : Int), .int .i64 (u3 : Int)] := F.f 1 (hall 1 (by decide +kernel))
      obtain rfl : v3 = .agg #[.int .i64 (y0 : Int), .int .i64 (y1 : Int), .int .i64 (y2 : Int), .int .i64 (y3 : Int)] := F.f 3 (hall 3 (by decide +kernel))
      obtain ⟨bA, rfl, hbA, hxA⟩ : ∃ b, v4 = .pointer (some ⟨b, 0, none⟩) ∧ w6.heap.size ≤ b ∧ Bx w' b #[.int .i64 0, .int .i64 0, .int .i64 0, .int .i64 0] 35 := F.f 4 (hall 4 (by decide +kernel))
      obtain ⟨bB, rfl, hbB, hxB⟩ : ∃ b, v5 = .pointer (some ⟨b, 0, none⟩) ∧ w6.heap.size ≤ b ∧ Bx w' b #[.int .i64 0, .int .i64 0, .int .i64 0, .int .i64 0] 35 := F.f 5 (hall 5 (by decide +kernel))
      have hne := HD (hall 4 (by decide +kernel)) (hall 5 (by decide +kernel))
      have hne2 : bA ≠ bB := fun e => hne (by rw [e])
      obtain ⟨q0, q1, q2, q3, q4, q5, q6, q7⟩ := four_open (hxA)
      have HFin : Hid (On (l.setIfInBounds 6 true) 6 ∧ ((¬ On (l.setIfInBounds 6 true) 7 ∧ ∃ d9 d10, (Value.pointer (some ⟨bA, 0, none⟩)) = .pointer (some ⟨d9, 0, none⟩) ∧ (Value.pointer (some ⟨bB, 0, none⟩)) = .pointer (some ⟨d10, 0, none⟩) ∧ (Value.agg #[.int .i64 (y0 : Int), .int .i64 (y1 : Int), .int .i64 (y2 : Int), .int .i64 (y3 : Int)]) = .agg #[.int .i64 (y0 : Int), .int .i64 (y1 : Int), .int .i64 (y2 : Int), .int .i64 (y3 : Int)] ∧ d9 ≠ d10 ∧ w6.heap.size ≤ d9 ∧ w6.heap.size ≤ d10 ∧ Bx ((((w'.setCell ⟨bA, 0, none⟩ (.int .i64 (u0 : Int))).setCell ⟨bA, 1, none⟩ (.int .i64 (u1 : Int))).setCell ⟨bA, 2, none⟩ (.int .i64 (u2 : Int))).setCell ⟨bA, 3, none⟩ (.int .i64 (u3 : Int))) d9 #[.int .i64 (u0 : Int), .int .i64 (u1 : Int), .int .i64 (u2 : Int), .int .i64 (u3 : Int)] 35 ∧ Bx ((((w'.setCell ⟨bA, 0, none⟩ (.int .i64 (u0 : Int))).setCell ⟨bA, 1, none⟩ (.int .i64 (u1 : Int))).setCell ⟨bA, 2, none⟩ (.int .i64 (u2 : Int))).setCell ⟨bA, 3, none⟩ (.int .i64 (u3 : Int))) d10 #[.int .i64 0, .int .i64 0, .int .i64 0, .int .i64 0] 35 ∧ Below w6.heap.size w6 ((((w'.setCell ⟨bA, 0, none⟩ (.int .i64 (u0 : Int))).setCell ⟨bA, 1, none⟩ (.int .i64 (u1 : Int))).setCell ⟨bA, 2, none⟩ (.int .i64 (u2 : Int))).setCell ⟨bA, 3, none⟩ (.int .i64 (u3 : Int)))) ∨ (On (l.setIfInBounds 6 true) 7 ∧ ∃ d9 d10, (Value.pointer (some ⟨bA, 0, none⟩)) = .pointer (some ⟨d9, 0, none⟩) ∧ (Value.pointer (some ⟨bB, 0, none⟩)) = .pointer (some ⟨d10, 0, none⟩) ∧ Bx ((((w'.setCell ⟨bA, 0, none⟩ (.int .i64 (u0 : Int))).setCell ⟨bA, 1, none⟩ (.int .i64 (u1 : Int))).setCell ⟨bA, 2, none⟩ (.int .i64 (u2 : Int))).setCell ⟨bA, 3, none⟩ (.int .i64 (u3 : Int))) d9 #[.int .i64 (u0 : Int), .int .i64 (u1 : Int), .int .i64 (u2 : Int), .int .i64 (u3 : Int)] 35 ∧ Bx ((((w'.setCell ⟨bA, 0, none⟩ (.int .i64 (u0 : Int))).setCell ⟨bA, 1, none⟩ (.int .i64 (u1 : Int))).setCell ⟨bA, 2, none⟩ (.int .i64 (u2 : Int))).setCell ⟨bA, 3, none⟩ (.int .i64 (u3 : Int))) d10 #[.int .i64 (y0 : Int), .int .i64 (y1 : Int), .int .i64 (y2 : Int), .int .i64 (y3 : Int)] 35 ∧ Below w6.heap.size w6 ((((w'.setCell ⟨bA, 0, none⟩ (.int .i64 (u0 : Int))).setCell ⟨bA, 1, none⟩ (.int .i64 (u1 : Int))).setCell ⟨bA, 2, none⟩ (.int .i64 (u2 : Int))).setCell ⟨bA, 3, none⟩ (.int .i64 (u3 : Int)))))) := ⟨(on_set h0 6).2 (Or.inl rfl), Or.inl ⟨fun z => hnm (hcl 7 (((on_set h0 7).1 z).resolve_left (by decide)) 6 (by decide +kernel)), bA, bB, rfl, rfl, rfl, hne2, hbA, hbB, four_set hxA _ _ _ _, four_keep hxB (fun e => hne2 e.symm) _ _ _ _, four_below F.bel hbA _ _ _ _⟩⟩
      clear hall h0 hcl F hF hnm HD
      clear hxA hxB hbA hbB hne hne2
      refine wpOp_step (by rfl) (fun K' hK => ?_)
      have HKk := Lib.hid hK
      clear hK
      go_simp
      exact HKk.out _ _ ⟨_, _, _, _, _, _, rfl, Or.inr HFin.out⟩
    | 7, _, h0, hall =>
      have hF1 := (hF.resolve_left (fun z => z.1 (hall 6 (by decide +kernel)))).2.resolve_right (fun z => off_of h0 z.1)
      clear hF
      obtain ⟨_, b9, b10, rfl, rfl, rfl, hne, hb9, hb10, hx9, hx10, hbel⟩ := hF1
      obtain ⟨q0, q1, q2, q3, q4, q5, q6, q7⟩ := four_open (hx10)
      have HFin : Hid (On (l.setIfInBounds 7 true) 6 ∧ ((¬ On (l.setIfInBounds 7 true) 7 ∧ ∃ d9 d10, (Value.pointer (some ⟨b9, 0, none⟩)) = .pointer (some ⟨d9, 0, none⟩) ∧ (Value.pointer (some ⟨b10, 0, none⟩)) = .pointer (some ⟨d10, 0, none⟩) ∧ (Value.agg #[.int .i64 (y0 : Int), .int .i64 (y1 : Int), .int .i64 (y2 : Int), .int .i64 (y3 : Int)]) = .agg #[.int .i64 (y0 : Int), .int .i64 (y1 : Int), .int .i64 (y2 : Int), .int .i64 (y3 : Int)] ∧ d9 ≠ d10 ∧ w6.heap.size ≤ d9 ∧ w6.heap.size ≤ d10 ∧ Bx ((((w'.setCell ⟨b10, 0, none⟩ (.int .i64 (y0 : Int))).setCell ⟨b10, 1, none⟩ (.int .i64 (y1 : Int))).setCell ⟨b10, 2, none⟩ (.int .i64 (y2 : Int))).setCell ⟨b10, 3, none⟩ (.int .i64 (y3 : Int))) d9 #[.int .i64 (u0 : Int), .int .i64 (u1 : Int), .int .i64 (u2 : Int), .int .i64 (u3 : Int)] 35 ∧ Bx ((((w'.setCell ⟨b10, 0, none⟩ (.int .i64 (y0 : Int))).setCell ⟨b10, 1, none⟩ (.int .i64 (y1 : Int))).setCell ⟨b10, 2, none⟩ (.int .i64 (y2 : Int))).setCell ⟨b10, 3, none⟩ (.int .i64 (y3 : Int))) d10 #[.int .i64 0, .int .i64 0, .int .i64 0, .int .i64 0] 35 ∧ Below w6.heap.size w6 ((((w'.setCell ⟨b10, 0, none⟩ (.int .i64 (y0 : Int))).setCell ⟨b10, 1, none⟩ (.int .i64 (y1 : Int))).setCell ⟨b10, 2, none⟩ (.int .i64 (y2 : Int))).setCell ⟨b10, 3, none⟩ (.int .i64 (y3 : Int)))) ∨ (On (l.setIfInBounds 7 true) 7 ∧ ∃ d9 d10, (Value.pointer (some ⟨b9, 0, none⟩)) = .pointer (some ⟨d9, 0, none⟩) ∧ (Value.pointer (some ⟨b10, 0, none⟩)) = .pointer (some ⟨d10, 0, none⟩) ∧ Bx ((((w'.setCell ⟨b10, 0, none⟩ (.int .i64 (y0 : Int))).setCell ⟨b10, 1, none⟩ (.int .i64 (y1 : Int))).setCell ⟨b10, 2, none⟩ (.int .i64 (y2 : Int))).setCell ⟨b10, 3, none⟩ (.int .i64 (y3 : Int))) d9 #[.int .i64 (u0 : Int), .int .i64 (u1 : Int), .int .i64 (u2 : Int), .int .i64 (u3 : Int)] 35 ∧ Bx ((((w'.setCell ⟨b10, 0, none⟩ (.int .i64 (y0 : Int))).setCell ⟨b10, 1, none⟩ (.int .i64 (y1 : Int))).setCell ⟨b10, 2, none⟩ (.int .i64 (y2 : Int))).setCell ⟨b10, 3, none⟩ (.int .i64 (y3 : Int))) d10 #[.int .i64 (y0 : Int), .int .i64 (y1 : Int), .int .i64 (y2 : Int), .int .i64 (y3 : Int)] 35 ∧ Below w6.heap.size w6 ((((w'.setCell ⟨b10, 0, none⟩ (.int .i64 (y0 : Int))).setCell ⟨b10, 1, none⟩ (.int .i64 (y1 : Int))).setCell ⟨b10, 2, none⟩ (.int .i64 (y2 : Int))).setCell ⟨b10, 3, none⟩ (.int .i64 (y3 : Int)))))) := ⟨(on_set h0 6).2 (Or.inr (hall 6 (by decide +kernel))), Or.inr ⟨(on_set h0 7).2 (Or.inl rfl), b9, b10, rfl, rfl, four_keep hx9 hne _ _ _ _, four_set hx10 _ _ _ _, four_below hbel hb10 _ _ _ _⟩⟩
      clear hall h0 hcl
      clear hx9 hx10 hb9 hb10 hne hbel
      refine wpOp_step (by rfl) (fun K' hK => ?_)
      have HKk := Lib.hid hK
      clear hK
      go_simp
      exact HKk.out _ _ ⟨_, _, _, _, _, _, rfl, Or.inr HFin.out⟩
    | i + 8, hi, _, _ => exact absurd hi (by show ¬ (i + 8 < 8); omega)
  rintro l9 a wz ⟨r0, r1, r2, r3, r4, r5, rfl, hF⟩ hall
  obtain ⟨_, b9, b10, rfl, rfl, hx9, hx10, hbel⟩ := (hF.resolve_left (fun z => z.1 (hall 6 (by decide)))).2.resolve_left (fun z => z.1 (hall 7 (by decide)))
  clear hF hall
  have HB7 := Lib.hid (below_2 HB5.out (below_2 HB6.out hbel))
  obtain ⟨q0, q1, q2, q3, q4, q5, q6, q7⟩ := four_open (hx9)
  obtain ⟨s0, s1, s2, s3, s4, s5, s6, s7⟩ := four_open (hx10)
  clear hx9 hx10 hbel
  have g0 := G0.out
  have g1 := G1.out
  have g2 := G2.out
  have g3 := G3.out
  go_wp2_with fail
  refine (HLv.out _ HB7.out).mono ?_; rintro e' w9 ⟨rfl, hb9⟩
  have HB9 := Lib.hid hb9
  clear hb9
  go_wp2_with fail
  go_ret
  exact ⟨rfl, HB9.out⟩
end Go.Proofs.YtkjefigebdbkaaaDoor.Q
namespace Go.Proofs.YtkjefigebdbkaaaDoor.Q
open Go.RowKit
open A (Ex St Pr Bx okE okEs okB okS cE cB cS Bodies OkP PrIn prV prO small rename ren)
open L (below_2 below_box ret_bool ret_int)

theorem checkN_ren {p q : Pr} {f t : ByteArray} (h : rename p f t = (q, 0)) : N.checkN q = N.checkN p := by
  obtain ⟨h1, -⟩ := Y.chk_ren h
  obtain ⟨-, -, -, -, hq⟩ := A.rename_parts h
  unfold N.checkN
  rw [h1]
  by_cases h0 : (Y.chk p).2 = 0
  · have hp := N.first_clean ((Y.chk_main p).2 h0).val
    have hqq := N.first_clean ((Y.chk_main q).2 (h1.trans h0)).val
    have hc : N.clB q.body = N.clB p.body := by rw [hq]; exact clB_ren f t p.body
    rw [hp, hqq, hc]
  · rw [if_pos h0, if_pos h0]
theorem cst_ren {p q : Pr} {f t : ByteArray} (h : rename p f t = (q, 0)) : cst q = cst p := by
  obtain ⟨-, -, -, -, hq⟩ := A.rename_parts h
  have hc : exB q.body = exB p.body := by rw [hq]; exact exB_ren f t p.body
  unfold cst
  rw [checkN_ren h, hc]
set_option maxHeartbeats 8000000 in
set_option maxRecDepth 100000 in
theorem lawRenames_any (p : Pr) (a1 a2 : Option Addr) (c1 c2 : Nat) (hok : OkP p) (hc1 : p.params.length ≤ c1) (f t : ByteArray) (w : World) (ht : Y.Tb w) (hK : PrIn w p a1 a2) :
    Calls Tryd.prog 5 #[prV p a1 c1 a2 c2, .string f, .string t] w fun e' w' => e' = .returned (.bool true) ∧ Below w.heap.size w w' := by
  obtain ⟨W1, e1⟩ : ∃ z, z = w.alloc (.cells #[.string p.name, .slice a1 p.params.length c1, .slice a2 p.body.length c2] 25) := ⟨_, rfl⟩
  have bb1 : Below w.heap.size w W1 := by rw [e1]; exact below_box _ _
  have xx1 := Bx.new w #[.string p.name, .slice a1 p.params.length c1, .slice a2 p.body.length c2] 25
  rw [← e1] at xx1
  have s1 : W1.heap.size = w.heap.size + 1 := by rw [e1]; simp
  have HB := Lib.hid bb1
  have HX := Lib.hid xx1
  have HW : Hid (w.alloc (.cells #[.string p.name, .slice a1 p.params.length c1, .slice a2 p.body.length c2] 25) = W1) := by show _ = _; rw [← e1]
  have HS := Lib.hid (A.rsmall_any p a1 c1 a2 c2 150 (by omega) hok W1 (hK.below HB.out))
  have HLv : Hid (∀ wk, Below W1.heap.size W1 wk → Calls Tryd.prog 13 #[] wk fun e' w' => e' = .returned (.bool true) ∧ Below w.heap.size w w') := fun wk hk => (lives_any wk (ht.below (below_2 HB.out hk))).mono fun e' w' h => ⟨h.1, below_2 (below_2 HB.out hk) h.2⟩
  have HLv2 : Hid (∀ wk, Below W1.heap.size W1 wk → Calls Tryd.prog 13 #[] wk fun e' w' => e' = .returned (.bool true) ∧ Below wk.heap.size wk w') := fun wk hk => lives_any wk (ht.below (below_2 HB.out hk))
  have HCk : Hid (∀ wk, Below W1.heap.size W1 wk → Calls Tryd.prog 12 #[prV p a1 c1 a2 c2] wk fun e' w' => e' = .returned (.int .i64 (costE (cst p) (N.checkN p))) ∧ Below wk.heap.size wk w') := fun wk hk => oCost_any p a1 a2 c1 c2 hok hc1 wk (ht.below (below_2 HB.out hk)) (hK.below (below_2 HB.out hk))
  have HOf : Hid (∀ wk, Below W1.heap.size W1 wk → Calls Tryd.prog 15 #[prV p a1 c1 a2 c2] wk fun e' w' => e' = .returned (ciV (cst p)) ∧ Below wk.heap.size wk w') := fun wk hk => lof_any p a1 a2 c1 c2 hok hc1 wk (ht.below (below_2 HB.out hk)) (hK.below (below_2 HB.out hk))
  have HSm : Hid (small p 150 = true → A.SmP p 600) := fun h => by
    obtain ⟨g1, g2, g3, g4⟩ := A.small_smp h
    exact ⟨g1, g2, g3, by omega⟩
  have HRn : Hid (A.SmP p 600 → t.size ≤ 100 → ∀ wk, Below W1.heap.size W1 wk → Calls Tryd.prog 16 #[prV p a1 c1 a2 c2, .string f, .string t] wk fun e' w' => A.GivesRn wk (rename p f t) e' w') := fun h h2 wk hk => by
    have H := A.pp_small hok h
    exact A.orename_any p a1 a2 c1 c2 f t H.ok H.sz H.pl hc1 H.nm (by omega) H.ps wk (hK.below (below_2 HB.out hk))
  have HPq : Hid (A.SmP p 600 → t.size ≤ 100 → OkP (rename p f t).1) := fun h h2 => (A.pp_rename hok h (by omega)).ok
  have HEq : Hid ((rename p f t).2 = 0 → N.checkN (rename p f t).1 = N.checkN p ∧ cst (rename p f t).1 = cst p) := fun h => by
    have h' : rename p f t = ((rename p f t).1, 0) := by rw [← h]
    exact ⟨checkN_ren h', cst_ren h'⟩
  have HT := Lib.hid (ht.below HB.out)
  have HK := Lib.hid (hK.below HB.out)
  unfold prV at HS HCk HOf HRn ⊢
  generalize rename p f t = r at *
  obtain ⟨q, z⟩ := r
  clear e1 bb1 xx1 s1 hok hc1 ht hK
  generalize small p 150 = sm at *
  cases sm
  · go_enter Tryd.func5, Tryd.ntmps5
    go_wp2_with fail
    rw [HW.out]
    have x0 := HX.out.cell 0
    have x1 := HX.out.cell 1
    have x2 := HX.out.cell 2
    simp only [List.getElem?_toArray, List.getElem?_cons_zero, List.getElem?_cons_succ] at x0 x1 x2
    go_wp2_with fail
    refine HS.out.mono ?_; rintro e' w2 ⟨rfl, hb2⟩
    have HB2 := Lib.hid hb2
    clear hb2 x0 x1 x2
    go_wp2_with fail
    refine (HLv.out _ HB2.out).mono ?_; rintro e' w9 ⟨rfl, hb9⟩
    have HB9 := Lib.hid hb9
    clear hb9
    go_wp2_with fail
    go_ret
    exact ⟨rfl, HB9.out⟩
  by_cases hf : 100 < f.size
  · have b1 : decide ((100 : Int) < (f.size : Int)) = true := decide_eq_true (by omega)
    go_enter Tryd.func5, Tryd.ntmps5
    go_wp2_with fail
    rw [HW.out]
    have x0 := HX.out.cell 0
    have x1 := HX.out.cell 1
    have x2 := HX.out.cell 2
    simp only [List.getElem?_toArray, List.getElem?_cons_zero, List.getElem?_cons_succ] at x0 x1 x2
    go_wp2_with fail
    refine HS.out.mono ?_; rintro e' w2 ⟨rfl, hb2⟩
    have HB2 := Lib.hid hb2
    clear hb2 x0 x1 x2
    go_wp2_with fail
    refine (HLv.out _ HB2.out).mono ?_; rintro e' w9 ⟨rfl, hb9⟩
    have HB9 := Lib.hid hb9
    clear hb9
    go_wp2_with fail
    go_ret
    exact ⟨rfl, HB9.out⟩
  have b1 : decide ((100 : Int) < (f.size : Int)) = false := decide_eq_false (by omega)
  by_cases hn : 100 < t.size
  · have b2 : decide ((100 : Int) < (t.size : Int)) = true := decide_eq_true (by omega)
    go_enter Tryd.func5, Tryd.ntmps5
    go_wp2_with fail
    rw [HW.out]
    have x0 := HX.out.cell 0
    have x1 := HX.out.cell 1
    have x2 := HX.out.cell 2
    simp only [List.getElem?_toArray, List.getElem?_cons_zero, List.getElem?_cons_succ] at x0 x1 x2
    go_wp2_with fail
    refine HS.out.mono ?_; rintro e' w2 ⟨rfl, hb2⟩
    have HB2 := Lib.hid hb2
    clear hb2 x0 x1 x2
    go_wp2_with fail
    refine (HLv.out _ HB2.out).mono ?_; rintro e' w9 ⟨rfl, hb9⟩
    have HB9 := Lib.hid hb9
    clear hb9
    go_wp2_with fail
    go_ret
    exact ⟨rfl, HB9.out⟩
  have b2 : decide ((100 : Int) < (t.size : Int)) = false := decide_eq_false (by omega)
  have HSp := Lib.hid (HSm.out rfl)
  have HR2 := Lib.hid (HRn.out HSp.out (by omega))
  have HOq := Lib.hid (HPq.out HSp.out (by omega))
  clear HRn HPq hf hn
  unfold A.GivesRn at HR2
  unfold prV at HR2
  go_enter Tryd.func5, Tryd.ntmps5
  go_wp2_with fail
  rw [HW.out]
  have x0 := HX.out.cell 0
  have x1 := HX.out.cell 1
  have x2 := HX.out.cell 2
  simp only [List.getElem?_toArray, List.getElem?_cons_zero, List.getElem?_cons_succ] at x0 x1 x2
  go_wp2_with fail
  refine HS.out.mono ?_; rintro e' w2 ⟨rfl, hb2⟩
  have HB2 := Lib.hid hb2
  clear hb2 x0 x1 x2
  have y0 := (HX.out.below HB2.out).cell 0
  have y1 := (HX.out.below HB2.out).cell 1
  have y2 := (HX.out.below HB2.out).cell 2
  simp only [List.getElem?_toArray, List.getElem?_cons_zero, List.getElem?_cons_succ] at y0 y1 y2
  go_wp2_with fail
  refine (HR2.out _ HB2.out).mono ?_; rintro e' w3 ⟨p1, q1, p2, q2, rfl, hq, hle, hb3⟩
  dsimp only at hq hle ⊢
  have HB3 := Lib.hid (below_2 HB2.out hb3)
  have HLe := Lib.hid hle
  have hbb := below_box w3 (.cells #[.string q.name, .slice p1 q.params.length q1, .slice p2 q.body.length q2] 25)
  have hxb := Bx.new w3 #[.string q.name, .slice p1 q.params.length q1, .slice p2 q.body.length q2] 25
  obtain ⟨W5, hW5⟩ : ∃ z, w3.alloc (.cells #[.string q.name, .slice p1 q.params.length q1, .slice p2 q.body.length q2] 25) = z := ⟨_, rfl⟩
  rw [hW5] at hxb hbb
  have HW5 := Lib.hid hW5
  have HXb := Lib.hid hxb
  have HB5 := Lib.hid (below_2 HB3.out hbb)
  have HQK := Lib.hid (hq.below hbb)
  clear hb3 hq hle hbb hxb hW5 y0 y1 y2
  by_cases hz : z = 0
  case neg =>
    have b3 : (z != 0) = true := bne_iff_ne.2 hz
    clear hz
    go_wp2_with fail
    rw [HW5.out]
    refine (HLv.out _ HB5.out).mono ?_; rintro e' w9 ⟨rfl, hb9⟩
    have HB9 := Lib.hid hb9
    clear hb9
    go_wp2_with fail
    go_ret
    exact ⟨rfl, HB9.out⟩
  subst hz
  have he := HEq.out rfl
  obtain ⟨he1, he2⟩ := he
  have hCq := fun wk (hk : Below W5.heap.size W5 wk) => oCost_any q p1 p2 q1 q2 HOq.out HLe.out wk (HT.out.below (below_2 HB5.out hk)) (HQK.out.below hk)
  have hOq := fun wk (hk : Below W5.heap.size W5 wk) => lof_any q p1 p2 q1 q2 HOq.out HLe.out wk (HT.out.below (below_2 HB5.out hk)) (HQK.out.below hk)
  rw [he1, he2] at hCq
  rw [he2] at hOq
  unfold prV at hCq hOq
  have HCq := Lib.hid hCq
  have HOqq := Lib.hid hOq
  clear he1 he2 hCq hOq HEq
  generalize costE (cst p) (N.checkN p) = E at *
  generalize cst p = C at *
  obtain ⟨C0, C1, C2, C3⟩ := C
  unfold ciV at HOf HOqq
  have D1 := Lib.hid (fun d os => Calls.regrown_of (w := W5) (d := d) (os := os) (HOqq.out _ (below_regrown W5 d os)))
  have D2 := Lib.hid (fun d os => Calls.regrown_of (w := W5) (d := d) (os := os) (HOf.out _ (below_2 HB5.out (below_regrown W5 d os))))
  have D3 := Lib.hid (fun d os => Calls.regrown_of (w := W5) (d := d) (os := os) (HCq.out _ (below_regrown W5 d os)))
  have D4 := Lib.hid (fun d os => Calls.regrown_of (w := W5) (d := d) (os := os) (HCk.out _ (below_2 HB5.out (below_regrown W5 d os))))
  have D5 := Lib.hid (fun d os => Calls.regrown_of (w := W5) (d := d) (os := os) (HLv2.out _ (below_2 HB5.out (below_regrown W5 d os))))
  have y0 := (HX.out.below HB5.out).cell 0
  have y1 := (HX.out.below HB5.out).cell 1
  have y2 := (HX.out.below HB5.out).cell 2
  have v0 := HXb.out.cell 0
  have v1 := HXb.out.cell 1
  have v2 := HXb.out.cell 2
  simp only [List.getElem?_toArray, List.getElem?_cons_zero, List.getElem?_cons_succ] at y0 y1 y2 v0 v1 v2
  have r0 := fun d os => cell_regrown y0 d os
  have r1 := fun d os => cell_regrown y1 d os
  have r2 := fun d os => cell_regrown y2 d os
  have r3 := fun d os => cell_regrown v0 d os
  have r4 := fun d os => cell_regrown v1 d os
  have r5 := fun d os => cell_regrown v2 d os
  go_upto_region 6 with fail
  rw [HW5.out]
  clear y0 y1 y2 v0 v1 v2
  refine wp_region_quiet_below (by kernel_rfl) (by kernel_rfl) ?_
  repeat (go_big_quiet_step (first | with_reducible exact D1.out _ _ | with_reducible exact D2.out _ _ | with_reducible exact D3.out _ _ | with_reducible exact D4.out _ _ | with_reducible exact D5.out _ _))
  refine wpQuiet_nil ?_
  intro w6 hw'
  have hbq : Below W5.heap.size W5 w6 := by obtain ⟨pq, rfl⟩ := hw'; exact below_regrown _ _ _
  have HBq := Lib.hid (below_2 HB.out (below_2 HB5.out hbq))
  clear r0 r1 r2 r3 r4 r5 D1 D2 D3 D4 D5 hw' hbq
  go_wp2_with fail
  go_ret
  exact ⟨rfl, HBq.out⟩
end Go.Proofs.YtkjefigebdbkaaaDoor.Q
