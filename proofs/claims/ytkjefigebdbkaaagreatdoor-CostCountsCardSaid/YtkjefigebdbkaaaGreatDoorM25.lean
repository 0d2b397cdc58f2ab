/-
  What the program's functions of layer 13 return: saturated, plus, times, greater: contracts.
  What the program's function getsOf of layer 13 returns: a contract.
  What the reference of layer 13 returns: cut, gets: contracts.
  A region in whatever order: its numbers' values as a list; some of them may be blocks of the region's own.
  What the program's function ofStmt of layer 13 returns: a contract, over that of ofList for the statement's blocks.
-/
import Derived.Test.YtkjefigebdbkaaaGreatDoorM07
import Derived.Test.YtkjefigebdbkaaaGreatDoorSQPlain
import Derived.Lib.MinMax
import Derived.Test.YtkjefigebdbkaaaGreatDoorM04
import Derived.Test.YtkjefigebdbkaaaGreatDoorM19
import Derived.Test.YtkjefigebdbkaaaGreatDoorM10
import Derived.IntWalk
namespace Go.Proofs.YtkjefigebdbkaaaGreatDoor.Q
open Go.RowKit
open A (Bx)
open L (below_2 below_box ret_bool ret_int)

theorem osat_any (n : Int) (w : World) : Calls Tryz.prog 111 #[.int .i64 n] w fun e w' => e = .returned (.int .i64 (min n 16385)) ∧ w = w' := by
  go_enter Tryz.func111, Tryz.ntmps111
  go_wp2_with fail
  go_ret
  exact ⟨rfl, rfl⟩
set_option maxHeartbeats 4000000 in
set_option maxRecDepth 100000 in
theorem oplus_core (a0 a1 a2 a3 b0 b1 b2 b3 : Int) (ha0 : 0 ≤ a0 ∧ a0 ≤ 1000000) (ha1 : 0 ≤ a1 ∧ a1 ≤ 1000000) (ha2 : 0 ≤ a2 ∧ a2 ≤ 1000000) (ha3 : 0 ≤ a3 ∧ a3 ≤ 1000000) (hb0 : 0 ≤ b0 ∧ b0 ≤ 1000000) (hb1 : 0 ≤ b1 ∧ b1 ≤ 1000000) (hb2 : 0 ≤ b2 ∧ b2 ≤ 1000000) (hb3 : 0 ≤ b3 ∧ b3 ≤ 1000000) (w : World) : Calls Tryz.prog 93 #[.agg #[.int .i64 a0, .int .i64 a1, .int .i64 a2, .int .i64 a3], .agg #[.int .i64 b0, .int .i64 b1, .int .i64 b2, .int .i64 b3]] w fun e w' => e = .returned (.agg #[.int .i64 (min (a0 + b0) 16385), .int .i64 (min (a1 + b1) 16385), .int .i64 (min (a2 + b2) 16385), .int .i64 (min (a3 + b3) 16385)]) ∧ Below w.heap.size w w' := by
  obtain ⟨z1, e1⟩ : ∃ z, z = w.alloc (.cells #[.int .i64 a0, .int .i64 a1, .int .i64 a2, .int .i64 a3] 57) := ⟨_, rfl⟩
  have bb1 : Below w.heap.size w z1 := by rw [e1]; exact below_box _ _
  have xx1 := Bx.new w #[.int .i64 a0, .int .i64 a1, .int .i64 a2, .int .i64 a3] 57
  rw [← e1] at xx1
  have s1 : z1.heap.size = w.heap.size + 1 := by rw [e1]; simp
  obtain ⟨z2, e2⟩ : ∃ z, z = z1.alloc (.cells #[.int .i64 b0, .int .i64 b1, .int .i64 b2, .int .i64 b3] 57) := ⟨_, rfl⟩
  have bb2 : Below z1.heap.size z1 z2 := by rw [e2]; exact below_box _ _
  have xx2 := Bx.new z1 #[.int .i64 b0, .int .i64 b1, .int .i64 b2, .int .i64 b3] 57
  rw [← e2] at xx2
  rw [s1] at xx2
  have s2 : z2.heap.size = w.heap.size + 1 + 1 := by rw [e2]; simp [s1]
  obtain ⟨z3, e3⟩ : ∃ z, z = z2.alloc (.cells #[.int .i64 0, .int .i64 0, .int .i64 0, .int .i64 0] 57) := ⟨_, rfl⟩
  have bb3 : Below z2.heap.size z2 z3 := by rw [e3]; exact below_box _ _
  have xx3 := Bx.new z2 #[.int .i64 0, .int .i64 0, .int .i64 0, .int .i64 0] 57
  rw [← e3] at xx3
  rw [s2] at xx3
  have s3 : z3.heap.size = w.heap.size + 1 + 1 + 1 := by rw [e3]; simp [s2]
  obtain ⟨z4, e4⟩ : ∃ z, z = z3.alloc (.cells #[.int .i64 a0, .int .i64 a1, .int .i64 a2, .int .i64 a3] 57) := ⟨_, rfl⟩
  have bb4 : Below z3.heap.size z3 z4 := by rw [e4]; exact below_box _ _
  have xx4 := Bx.new z3 #[.int .i64 a0, .int .i64 a1, .int .i64 a2, .int .i64 a3] 57
  rw [← e4] at xx4
  rw [s3] at xx4
  have s4 : z4.heap.size = w.heap.size + 1 + 1 + 1 + 1 := by rw [e4]; simp [s3]
  have HB := Lib.hid (below_2 (below_2 (below_2 bb1 bb2) bb3) bb4)
  have HX4 := Lib.hid (xx3.below bb4)
  have HX5 := Lib.hid xx4
  have HW : Hid (((((w.alloc (.cells #[.int .i64 a0, .int .i64 a1, .int .i64 a2, .int .i64 a3] 57)).alloc (.cells #[.int .i64 b0, .int .i64 b1, .int .i64 b2, .int .i64 b3] 57)).alloc (.cells #[.int .i64 0, .int .i64 0, .int .i64 0, .int .i64 0] 57)).alloc (.cells #[.int .i64 a0, .int .i64 a1, .int .i64 a2, .int .i64 a3] 57)) = z4) := by show _ = _; rw [← e1, ← e2, ← e3, ← e4]
  have HS : Hid (z4.heap.size = w.heap.size + 1 + 1 + 1 + 1) := s4
  clear e1 bb1 xx1 s1 e2 bb2 xx2 s2 e3 bb3 xx3 s3 e4 bb4 xx4 s4
  have i0 : ∀ w : World, (Instr.index 57 (.agg #[.int .i64 b0, .int .i64 b1, .int .i64 b2, .int .i64 b3]) (.int .i64 0)).run Tryz.prog w = .ok (.int .i64 b0) w := fun _ => by kernel_rfl
  have i1 : ∀ w : World, (Instr.index 57 (.agg #[.int .i64 b0, .int .i64 b1, .int .i64 b2, .int .i64 b3]) (.int .i64 1)).run Tryz.prog w = .ok (.int .i64 b1) w := fun _ => by kernel_rfl
  have i2 : ∀ w : World, (Instr.index 57 (.agg #[.int .i64 b0, .int .i64 b1, .int .i64 b2, .int .i64 b3]) (.int .i64 2)).run Tryz.prog w = .ok (.int .i64 b2) w := fun _ => by kernel_rfl
  have i3 : ∀ w : World, (Instr.index 57 (.agg #[.int .i64 b0, .int .i64 b1, .int .i64 b2, .int .i64 b3]) (.int .i64 3)).run Tryz.prog w = .ok (.int .i64 b3) w := fun _ => by kernel_rfl
  go_enter Tryz.func93, Tryz.ntmps93
  go_wp2_with fail
  rw [HW.out]
  go_loopw [10] (fun s10 wr => (s10 = .int .i64 0 ∧ Hid (Bx wr (w.heap.size + 1 + 1 + 1) #[.int .i64 a0, .int .i64 a1, .int .i64 a2, .int .i64 a3] 57) ∨ s10 = .int .i64 1 ∧ Hid (Bx wr (w.heap.size + 1 + 1 + 1) #[.int .i64 (min (a0 + b0) 16385), .int .i64 a1, .int .i64 a2, .int .i64 a3] 57) ∨ s10 = .int .i64 2 ∧ Hid (Bx wr (w.heap.size + 1 + 1 + 1) #[.int .i64 (min (a0 + b0) 16385), .int .i64 (min (a1 + b1) 16385), .int .i64 a2, .int .i64 a3] 57) ∨ s10 = .int .i64 3 ∧ Hid (Bx wr (w.heap.size + 1 + 1 + 1) #[.int .i64 (min (a0 + b0) 16385), .int .i64 (min (a1 + b1) 16385), .int .i64 (min (a2 + b2) 16385), .int .i64 a3] 57) ∨ s10 = .int .i64 4 ∧ Hid (Bx wr (w.heap.size + 1 + 1 + 1) #[.int .i64 (min (a0 + b0) 16385), .int .i64 (min (a1 + b1) 16385), .int .i64 (min (a2 + b2) 16385), .int .i64 (min (a3 + b3) 16385)] 57)) ∧ Hid (Below (w.heap.size + 1 + 1 + 1) z4 wr)) (fun s10 _ => 4 - (intOf s10).toNat)
  case atStart => exact ⟨Or.inl ⟨rfl, HX5.out⟩, Below.refl _ _⟩
  case round =>
    obtain ⟨hrel, HBr⟩ := hrel
    rcases hrel with ⟨rfl, HX⟩ | ⟨rfl, HX⟩ | ⟨rfl, HX⟩ | ⟨rfl, HX⟩ | ⟨rfl, HX⟩
    · have c0 := HX.out.cell 0
      have f0 := HX.out.free 0
      simp only [List.getElem?_toArray, List.getElem?_cons_zero] at c0
      have HN := Lib.hid (HX.out.set 0 (u := .int .i64 ((min (a0 + b0) 16385))))
      go_wp2_with (go_at_call 111; refine (osat_any _ _).mono ?_; rintro e w3 ⟨rfl, rfl⟩)
      clear c0 f0
      go_roundw
      case rel => exact ⟨Or.inr (Or.inl ⟨rfl, HN.out⟩), HBr.out.setCell (p := ⟨w.heap.size + 1 + 1 + 1, 0, none⟩) (Nat.le_refl _) _⟩
      case measure => simp [intOf]
    · have c1 := HX.out.cell 1
      have f1 := HX.out.free 1
      simp only [List.getElem?_toArray, List.getElem?_cons_zero, List.getElem?_cons_succ] at c1
      have HN := Lib.hid (HX.out.set 1 (u := .int .i64 ((min (a1 + b1) 16385))))
      go_wp2_with (go_at_call 111; refine (osat_any _ _).mono ?_; rintro e w3 ⟨rfl, rfl⟩)
      clear c1 f1
      go_roundw
      case rel => exact ⟨Or.inr (Or.inr (Or.inl ⟨rfl, HN.out⟩)), HBr.out.setCell (p := ⟨w.heap.size + 1 + 1 + 1, 1, none⟩) (Nat.le_refl _) _⟩
      case measure => simp [intOf]
    · have c2 := HX.out.cell 2
      have f2 := HX.out.free 2
      simp only [List.getElem?_toArray, List.getElem?_cons_zero, List.getElem?_cons_succ] at c2
      have HN := Lib.hid (HX.out.set 2 (u := .int .i64 ((min (a2 + b2) 16385))))
      go_wp2_with (go_at_call 111; refine (osat_any _ _).mono ?_; rintro e w3 ⟨rfl, rfl⟩)
      clear c2 f2
      go_roundw
      case rel => exact ⟨Or.inr (Or.inr (Or.inr (Or.inl ⟨rfl, HN.out⟩))), HBr.out.setCell (p := ⟨w.heap.size + 1 + 1 + 1, 2, none⟩) (Nat.le_refl _) _⟩
      case measure => simp [intOf]
    · have c3 := HX.out.cell 3
      have f3 := HX.out.free 3
      simp only [List.getElem?_toArray, List.getElem?_cons_zero, List.getElem?_cons_succ] at c3
      have HN := Lib.hid (HX.out.set 3 (u := .int .i64 ((min (a3 + b3) 16385))))
      go_wp2_with (go_at_call 111; refine (osat_any _ _).mono ?_; rintro e w3 ⟨rfl, rfl⟩)
      clear c3 f3
      go_roundw
      case rel => exact ⟨Or.inr (Or.inr (Or.inr (Or.inr (⟨rfl, HN.out⟩)))), HBr.out.setCell (p := ⟨w.heap.size + 1 + 1 + 1, 3, none⟩) (Nat.le_refl _) _⟩
      case measure => simp [intOf]
    · have c0 := HX.out.cell 0
      have c1 := HX.out.cell 1
      have c2 := HX.out.cell 2
      have c3 := HX.out.cell 3
      have hx4 := HX4.out.keep (HBr.out.block (w.heap.size + 1 + 1) (by omega))
      have d0 := hx4.cell 0
      have d1 := hx4.cell 1
      have d2 := hx4.cell 2
      have d3 := hx4.cell 3
      have f0 := hx4.free 0
      have f1 := hx4.free 1
      have f2 := hx4.free 2
      have f3 := hx4.free 3
      have hx8 := (((hx4.set 0 (u := .int .i64 ((min (a0 + b0) 16385)))).set 1 (u := .int .i64 ((min (a1 + b1) 16385)))).set 2 (u := .int .i64 ((min (a2 + b2) 16385)))).set 3 (u := .int .i64 ((min (a3 + b3) 16385)))
      have q0 := hx8.cell 0
      have q1 := hx8.cell 1
      have q2 := hx8.cell 2
      have q3 := hx8.cell 3
      simp only [List.getElem?_toArray, List.getElem?_cons_zero, List.getElem?_cons_succ, List.setIfInBounds_toArray, List.set_cons_zero, List.set_cons_succ] at c0 c1 c2 c3 d0 d1 d2 d3 q0 q1 q2 q3
      have HBW := Lib.hid (HB.out.trans (HBr.out.mono (by omega)))
      clear hx4 hx8
      go_wp2_with fail
      refine bodyPost_ret (v := .agg #[.int .i64 (min (a0 + b0) 16385), .int .i64 (min (a1 + b1) 16385), .int .i64 (min (a2 + b2) 16385), .int .i64 (min (a3 + b3) 16385)]) (by simp [results, Tryz.results93, go_sem, q0, q1, q2, q3]) rfl ?_
      exact ⟨rfl, (((HBW.out.setCell (p := ⟨w.heap.size + 1 + 1, 0, none⟩) (Nat.le_add_right _ 2) _).setCell (p := ⟨w.heap.size + 1 + 1, 1, none⟩) (Nat.le_add_right _ 2) _).setCell (p := ⟨w.heap.size + 1 + 1, 2, none⟩) (Nat.le_add_right _ 2) _).setCell (p := ⟨w.heap.size + 1 + 1, 3, none⟩) (Nat.le_add_right _ 2) _⟩
set_option maxHeartbeats 4000000 in
set_option maxRecDepth 100000 in
theorem otimes_core (a0 a1 a2 a3 n : Int) (hm0 : 0 ≤ a0 * n ∧ a0 * n ≤ 1000000000000) (hm1 : 0 ≤ a1 * n ∧ a1 * n ≤ 1000000000000) (hm2 : 0 ≤ a2 * n ∧ a2 * n ≤ 1000000000000) (hm3 : 0 ≤ a3 * n ∧ a3 * n ≤ 1000000000000) (w : World) : Calls Tryz.prog 114 #[.agg #[.int .i64 a0, .int .i64 a1, .int .i64 a2, .int .i64 a3], .int .i64 n] w fun e w' => e = .returned (.agg #[.int .i64 (min (a0 * n) 16385), .int .i64 (min (a1 * n) 16385), .int .i64 (min (a2 * n) 16385), .int .i64 (min (a3 * n) 16385)]) ∧ Below w.heap.size w w' := by
  obtain ⟨z1, e1⟩ : ∃ z, z = w.alloc (.cells #[.int .i64 a0, .int .i64 a1, .int .i64 a2, .int .i64 a3] 57) := ⟨_, rfl⟩
  have bb1 : Below w.heap.size w z1 := by rw [e1]; exact below_box _ _
  have xx1 := Bx.new w #[.int .i64 a0, .int .i64 a1, .int .i64 a2, .int .i64 a3] 57
  rw [← e1] at xx1
  have s1 : z1.heap.size = w.heap.size + 1 := by rw [e1]; simp
  obtain ⟨z2, e2⟩ : ∃ z, z = z1.alloc (.cells #[.int .i64 0, .int .i64 0, .int .i64 0, .int .i64 0] 57) := ⟨_, rfl⟩
  have bb2 : Below z1.heap.size z1 z2 := by rw [e2]; exact below_box _ _
  have xx2 := Bx.new z1 #[.int .i64 0, .int .i64 0, .int .i64 0, .int .i64 0] 57
  rw [← e2] at xx2
  rw [s1] at xx2
  have s2 : z2.heap.size = w.heap.size + 1 + 1 := by rw [e2]; simp [s1]
  obtain ⟨z3, e3⟩ : ∃ z, z = z2.alloc (.cells #[.int .i64 a0, .int .i64 a1, .int .i64 a2, .int .i64 a3] 57) := ⟨_, rfl⟩
  have bb3 : Below z2.heap.size z2 z3 := by rw [e3]; exact below_box _ _
  have xx3 := Bx.new z2 #[.int .i64 a0, .int .i64 a1, .int .i64 a2, .int .i64 a3] 57
  rw [← e3] at xx3
  rw [s2] at xx3
  have s3 : z3.heap.size = w.heap.size + 1 + 1 + 1 := by rw [e3]; simp [s2]
  have HB := Lib.hid (below_2 (below_2 bb1 bb2) bb3)
  have HX4 := Lib.hid (xx2.below bb3)
  have HX5 := Lib.hid xx3
  have HW : Hid ((((w.alloc (.cells #[.int .i64 a0, .int .i64 a1, .int .i64 a2, .int .i64 a3] 57)).alloc (.cells #[.int .i64 0, .int .i64 0, .int .i64 0, .int .i64 0] 57)).alloc (.cells #[.int .i64 a0, .int .i64 a1, .int .i64 a2, .int .i64 a3] 57)) = z3) := by show _ = _; rw [← e1, ← e2, ← e3]
  have HS : Hid (z3.heap.size = w.heap.size + 1 + 1 + 1) := s3
  clear e1 bb1 xx1 s1 e2 bb2 xx2 s2 e3 bb3 xx3 s3
  have i0 : ∀ w : World, (Instr.index 57 (.agg #[.int .i64 a0, .int .i64 a1, .int .i64 a2, .int .i64 a3]) (.int .i64 0)).run Tryz.prog w = .ok (.int .i64 a0) w := fun _ => by kernel_rfl
  have i1 : ∀ w : World, (Instr.index 57 (.agg #[.int .i64 a0, .int .i64 a1, .int .i64 a2, .int .i64 a3]) (.int .i64 1)).run Tryz.prog w = .ok (.int .i64 a1) w := fun _ => by kernel_rfl
  have i2 : ∀ w : World, (Instr.index 57 (.agg #[.int .i64 a0, .int .i64 a1, .int .i64 a2, .int .i64 a3]) (.int .i64 2)).run Tryz.prog w = .ok (.int .i64 a2) w := fun _ => by kernel_rfl
  have i3 : ∀ w : World, (Instr.index 57 (.agg #[.int .i64 a0, .int .i64 a1, .int .i64 a2, .int .i64 a3]) (.int .i64 3)).run Tryz.prog w = .ok (.int .i64 a3) w := fun _ => by kernel_rfl
  go_enter Tryz.func114, Tryz.ntmps114
  go_wp2_with fail
  rw [HW.out]
  go_loopw [10] (fun s10 wr => (s10 = .int .i64 0 ∧ Hid (Bx wr (w.heap.size + 1 + 1) #[.int .i64 a0, .int .i64 a1, .int .i64 a2, .int .i64 a3] 57) ∨ s10 = .int .i64 1 ∧ Hid (Bx wr (w.heap.size + 1 + 1) #[.int .i64 (min (a0 * n) 16385), .int .i64 a1, .int .i64 a2, .int .i64 a3] 57) ∨ s10 = .int .i64 2 ∧ Hid (Bx wr (w.heap.size + 1 + 1) #[.int .i64 (min (a0 * n) 16385), .int .i64 (min (a1 * n) 16385), .int .i64 a2, .int .i64 a3] 57) ∨ s10 = .int .i64 3 ∧ Hid (Bx wr (w.heap.size + 1 + 1) #[.int .i64 (min (a0 * n) 16385), .int .i64 (min (a1 * n) 16385), .int .i64 (min (a2 * n) 16385), .int .i64 a3] 57) ∨ s10 = .int .i64 4 ∧ Hid (Bx wr (w.heap.size + 1 + 1) #[.int .i64 (min (a0 * n) 16385), .int .i64 (min (a1 * n) 16385), .int .i64 (min (a2 * n) 16385), .int .i64 (min (a3 * n) 16385)] 57)) ∧ Hid (Below (w.heap.size + 1 + 1) z3 wr)) (fun s10 _ => 4 - (intOf s10).toNat)
  case atStart => exact ⟨Or.inl ⟨rfl, HX5.out⟩, Below.refl _ _⟩
  case round =>
    obtain ⟨hrel, HBr⟩ := hrel
    rcases hrel with ⟨rfl, HX⟩ | ⟨rfl, HX⟩ | ⟨rfl, HX⟩ | ⟨rfl, HX⟩ | ⟨rfl, HX⟩
    · have c0 := HX.out.cell 0
      have f0 := HX.out.free 0
      simp only [List.getElem?_toArray, List.getElem?_cons_zero] at c0
      have HN := Lib.hid (HX.out.set 0 (u := .int .i64 ((min (a0 * n) 16385))))
      go_wp2_with (go_at_call 111; refine (osat_any _ _).mono ?_; rintro e w3 ⟨rfl, rfl⟩)
      clear c0 f0
      go_roundw
      case rel => exact ⟨Or.inr (Or.inl ⟨rfl, HN.out⟩), HBr.out.setCell (p := ⟨w.heap.size + 1 + 1, 0, none⟩) (Nat.le_refl _) _⟩
      case measure => simp [intOf]
    · have c1 := HX.out.cell 1
      have f1 := HX.out.free 1
      simp only [List.getElem?_toArray, List.getElem?_cons_zero, List.getElem?_cons_succ] at c1
      have HN := Lib.hid (HX.out.set 1 (u := .int .i64 ((min (a1 * n) 16385))))
      go_wp2_with (go_at_call 111; refine (osat_any _ _).mono ?_; rintro e w3 ⟨rfl, rfl⟩)
      clear c1 f1
      go_roundw
      case rel => exact ⟨Or.inr (Or.inr (Or.inl ⟨rfl, HN.out⟩)), HBr.out.setCell (p := ⟨w.heap.size + 1 + 1, 1, none⟩) (Nat.le_refl _) _⟩
      case measure => simp [intOf]
    · have c2 := HX.out.cell 2
      have f2 := HX.out.free 2
      simp only [List.getElem?_toArray, List.getElem?_cons_zero, List.getElem?_cons_succ] at c2
      have HN := Lib.hid (HX.out.set 2 (u := .int .i64 ((min (a2 * n) 16385))))
      go_wp2_with (go_at_call 111; refine (osat_any _ _).mono ?_; rintro e w3 ⟨rfl, rfl⟩)
      clear c2 f2
      go_roundw
      case rel => exact ⟨Or.inr (Or.inr (Or.inr (Or.inl ⟨rfl, HN.out⟩))), HBr.out.setCell (p := ⟨w.heap.size + 1 + 1, 2, none⟩) (Nat.le_refl _) _⟩
      case measure => simp [intOf]
    · have c3 := HX.out.cell 3
      have f3 := HX.out.free 3
      simp only [List.getElem?_toArray, List.getElem?_cons_zero, List.getElem?_cons_succ] at c3
      have HN := Lib.hid (HX.out.set 3 (u := .int .i64 ((min (a3 * n) 16385))))
      go_wp2_with (go_at_call 111; refine (osat_any _ _).mono ?_; rintro e w3 ⟨rfl, rfl⟩)
      clear c3 f3
      go_roundw
      case rel => exact ⟨Or.inr (Or.inr (Or.inr (Or.inr (⟨rfl, HN.out⟩)))), HBr.out.setCell (p := ⟨w.heap.size + 1 + 1, 3, none⟩) (Nat.le_refl _) _⟩
      case measure => simp [intOf]
    · have c0 := HX.out.cell 0
      have c1 := HX.out.cell 1
      have c2 := HX.out.cell 2
      have c3 := HX.out.cell 3
      have hx4 := HX4.out.keep (HBr.out.block (w.heap.size + 1) (by omega))
      have d0 := hx4.cell 0
      have d1 := hx4.cell 1
      have d2 := hx4.cell 2
      have d3 := hx4.cell 3
      have f0 := hx4.free 0
      have f1 := hx4.free 1
      have f2 := hx4.free 2
      have f3 := hx4.free 3
      have hx8 := (((hx4.set 0 (u := .int .i64 ((min (a0 * n) 16385)))).set 1 (u := .int .i64 ((min (a1 * n) 16385)))).set 2 (u := .int .i64 ((min (a2 * n) 16385)))).set 3 (u := .int .i64 ((min (a3 * n) 16385)))
      have q0 := hx8.cell 0
      have q1 := hx8.cell 1
      have q2 := hx8.cell 2
      have q3 := hx8.cell 3
      simp only [List.getElem?_toArray, List.getElem?_cons_zero, List.getElem?_cons_succ, List.setIfInBounds_toArray, List.set_cons_zero, List.set_cons_succ] at c0 c1 c2 c3 d0 d1 d2 d3 q0 q1 q2 q3
      have HBW := Lib.hid (HB.out.trans (HBr.out.mono (by omega)))
      clear hx4 hx8
      go_wp2_with fail
      refine bodyPost_ret (v := .agg #[.int .i64 (min (a0 * n) 16385), .int .i64 (min (a1 * n) 16385), .int .i64 (min (a2 * n) 16385), .int .i64 (min (a3 * n) 16385)]) (by simp [results, Tryz.results114, go_sem, q0, q1, q2, q3]) rfl ?_
      exact ⟨rfl, (((HBW.out.setCell (p := ⟨w.heap.size + 1, 0, none⟩) (Nat.le_add_right _ 1) _).setCell (p := ⟨w.heap.size + 1, 1, none⟩) (Nat.le_add_right _ 1) _).setCell (p := ⟨w.heap.size + 1, 2, none⟩) (Nat.le_add_right _ 1) _).setCell (p := ⟨w.heap.size + 1, 3, none⟩) (Nat.le_add_right _ 1) _⟩
set_option maxHeartbeats 4000000 in
set_option maxRecDepth 100000 in
theorem ogreater_core (a0 a1 a2 a3 b0 b1 b2 b3 : Int) (w : World) : Calls Tryz.prog 113 #[.agg #[.int .i64 a0, .int .i64 a1, .int .i64 a2, .int .i64 a3], .agg #[.int .i64 b0, .int .i64 b1, .int .i64 b2, .int .i64 b3]] w fun e w' => e = .returned (.agg #[.int .i64 (max a0 b0), .int .i64 (max a1 b1), .int .i64 (max a2 b2), .int .i64 (max a3 b3)]) ∧ Below w.heap.size w w' := by
  obtain ⟨z1, e1⟩ : ∃ z, z = w.alloc (.cells #[.int .i64 a0, .int .i64 a1, .int .i64 a2, .int .i64 a3] 57) := ⟨_, rfl⟩
  have bb1 : Below w.heap.size w z1 := by rw [e1]; exact below_box _ _
  have xx1 := Bx.new w #[.int .i64 a0, .int .i64 a1, .int .i64 a2, .int .i64 a3] 57
  rw [← e1] at xx1
  have s1 : z1.heap.size = w.heap.size + 1 := by rw [e1]; simp
  obtain ⟨z2, e2⟩ : ∃ z, z = z1.alloc (.cells #[.int .i64 b0, .int .i64 b1, .int .i64 b2, .int .i64 b3] 57) := ⟨_, rfl⟩
  have bb2 : Below z1.heap.size z1 z2 := by rw [e2]; exact below_box _ _
  have xx2 := Bx.new z1 #[.int .i64 b0, .int .i64 b1, .int .i64 b2, .int .i64 b3] 57
  rw [← e2] at xx2
  rw [s1] at xx2
  have s2 : z2.heap.size = w.heap.size + 1 + 1 := by rw [e2]; simp [s1]
  obtain ⟨z3, e3⟩ : ∃ z, z = z2.alloc (.cells #[.int .i64 0, .int .i64 0, .int .i64 0, .int .i64 0] 57) := ⟨_, rfl⟩
  have bb3 : Below z2.heap.size z2 z3 := by rw [e3]; exact below_box _ _
  have xx3 := Bx.new z2 #[.int .i64 0, .int .i64 0, .int .i64 0, .int .i64 0] 57
  rw [← e3] at xx3
  rw [s2] at xx3
  have s3 : z3.heap.size = w.heap.size + 1 + 1 + 1 := by rw [e3]; simp [s2]
  obtain ⟨z4, e4⟩ : ∃ z, z = z3.alloc (.cells #[.int .i64 a0, .int .i64 a1, .int .i64 a2, .int .i64 a3] 57) := ⟨_, rfl⟩
  have bb4 : Below z3.heap.size z3 z4 := by rw [e4]; exact below_box _ _
  have xx4 := Bx.new z3 #[.int .i64 a0, .int .i64 a1, .int .i64 a2, .int .i64 a3] 57
  rw [← e4] at xx4
  rw [s3] at xx4
  have s4 : z4.heap.size = w.heap.size + 1 + 1 + 1 + 1 := by rw [e4]; simp [s3]
  have HB := Lib.hid (below_2 (below_2 (below_2 bb1 bb2) bb3) bb4)
  have HX4 := Lib.hid (xx3.below bb4)
  have HX5 := Lib.hid xx4
  have HW : Hid (((((w.alloc (.cells #[.int .i64 a0, .int .i64 a1, .int .i64 a2, .int .i64 a3] 57)).alloc (.cells #[.int .i64 b0, .int .i64 b1, .int .i64 b2, .int .i64 b3] 57)).alloc (.cells #[.int .i64 0, .int .i64 0, .int .i64 0, .int .i64 0] 57)).alloc (.cells #[.int .i64 a0, .int .i64 a1, .int .i64 a2, .int .i64 a3] 57)) = z4) := by show _ = _; rw [← e1, ← e2, ← e3, ← e4]
  have HS : Hid (z4.heap.size = w.heap.size + 1 + 1 + 1 + 1) := s4
  clear e1 bb1 xx1 s1 e2 bb2 xx2 s2 e3 bb3 xx3 s3 e4 bb4 xx4 s4
  have i0 : ∀ w : World, (Instr.index 57 (.agg #[.int .i64 b0, .int .i64 b1, .int .i64 b2, .int .i64 b3]) (.int .i64 0)).run Tryz.prog w = .ok (.int .i64 b0) w := fun _ => by kernel_rfl
  have i1 : ∀ w : World, (Instr.index 57 (.agg #[.int .i64 b0, .int .i64 b1, .int .i64 b2, .int .i64 b3]) (.int .i64 1)).run Tryz.prog w = .ok (.int .i64 b1) w := fun _ => by kernel_rfl
  have i2 : ∀ w : World, (Instr.index 57 (.agg #[.int .i64 b0, .int .i64 b1, .int .i64 b2, .int .i64 b3]) (.int .i64 2)).run Tryz.prog w = .ok (.int .i64 b2) w := fun _ => by kernel_rfl
  have i3 : ∀ w : World, (Instr.index 57 (.agg #[.int .i64 b0, .int .i64 b1, .int .i64 b2, .int .i64 b3]) (.int .i64 3)).run Tryz.prog w = .ok (.int .i64 b3) w := fun _ => by kernel_rfl
  go_enter Tryz.func113, Tryz.ntmps113
  go_wp2_with fail
  rw [HW.out]
  go_loopw [10] (fun s10 wr => (s10 = .int .i64 0 ∧ Hid (Bx wr (w.heap.size + 1 + 1 + 1) #[.int .i64 a0, .int .i64 a1, .int .i64 a2, .int .i64 a3] 57) ∨ s10 = .int .i64 1 ∧ Hid (Bx wr (w.heap.size + 1 + 1 + 1) #[.int .i64 (max a0 b0), .int .i64 a1, .int .i64 a2, .int .i64 a3] 57) ∨ s10 = .int .i64 2 ∧ Hid (Bx wr (w.heap.size + 1 + 1 + 1) #[.int .i64 (max a0 b0), .int .i64 (max a1 b1), .int .i64 a2, .int .i64 a3] 57) ∨ s10 = .int .i64 3 ∧ Hid (Bx wr (w.heap.size + 1 + 1 + 1) #[.int .i64 (max a0 b0), .int .i64 (max a1 b1), .int .i64 (max a2 b2), .int .i64 a3] 57) ∨ s10 = .int .i64 4 ∧ Hid (Bx wr (w.heap.size + 1 + 1 + 1) #[.int .i64 (max a0 b0), .int .i64 (max a1 b1), .int .i64 (max a2 b2), .int .i64 (max a3 b3)] 57)) ∧ Hid (Below (w.heap.size + 1 + 1 + 1) z4 wr)) (fun s10 _ => 4 - (intOf s10).toNat)
  case atStart => exact ⟨Or.inl ⟨rfl, HX5.out⟩, Below.refl _ _⟩
  case round =>
    obtain ⟨hrel, HBr⟩ := hrel
    rcases hrel with ⟨rfl, HX⟩ | ⟨rfl, HX⟩ | ⟨rfl, HX⟩ | ⟨rfl, HX⟩ | ⟨rfl, HX⟩
    · have c0 := HX.out.cell 0
      have f0 := HX.out.free 0
      simp only [List.getElem?_toArray, List.getElem?_cons_zero] at c0
      have HN := Lib.hid (HX.out.set 0 (u := .int .i64 ((max a0 b0))))
      go_wp2_with fail
      clear c0 f0
      go_roundw
      case rel => exact ⟨Or.inr (Or.inl ⟨rfl, HN.out⟩), HBr.out.setCell (p := ⟨w.heap.size + 1 + 1 + 1, 0, none⟩) (Nat.le_refl _) _⟩
      case measure => simp [intOf]
    · have c1 := HX.out.cell 1
      have f1 := HX.out.free 1
      simp only [List.getElem?_toArray, List.getElem?_cons_zero, List.getElem?_cons_succ] at c1
      have HN := Lib.hid (HX.out.set 1 (u := .int .i64 ((max a1 b1))))
      go_wp2_with fail
      clear c1 f1
      go_roundw
      case rel => exact ⟨Or.inr (Or.inr (Or.inl ⟨rfl, HN.out⟩)), HBr.out.setCell (p := ⟨w.heap.size + 1 + 1 + 1, 1, none⟩) (Nat.le_refl _) _⟩
      case measure => simp [intOf]
    · have c2 := HX.out.cell 2
      have f2 := HX.out.free 2
      simp only [List.getElem?_toArray, List.getElem?_cons_zero, List.getElem?_cons_succ] at c2
      have HN := Lib.hid (HX.out.set 2 (u := .int .i64 ((max a2 b2))))
      go_wp2_with fail
      clear c2 f2
      go_roundw
      case rel => exact ⟨Or.inr (Or.inr (Or.inr (Or.inl ⟨rfl, HN.out⟩))), HBr.out.setCell (p := ⟨w.heap.size + 1 + 1 + 1, 2, none⟩) (Nat.le_refl _) _⟩
      case measure => simp [intOf]
    · have c3 := HX.out.cell 3
      have f3 := HX.out.free 3
      simp only [List.getElem?_toArray, List.getElem?_cons_zero, List.getElem?_cons_succ] at c3
      have HN := Lib.hid (HX.out.set 3 (u := .int .i64 ((max a3 b3))))
      go_wp2_with fail
      clear c3 f3
      go_roundw
      case rel => exact ⟨Or.inr (Or.inr (Or.inr (Or.inr (⟨rfl, HN.out⟩)))), HBr.out.setCell (p := ⟨w.heap.size + 1 + 1 + 1, 3, none⟩) (Nat.le_refl _) _⟩
      case measure => simp [intOf]
    · have c0 := HX.out.cell 0
      have c1 := HX.out.cell 1
      have c2 := HX.out.cell 2
      have c3 := HX.out.cell 3
      have hx4 := HX4.out.keep (HBr.out.block (w.heap.size + 1 + 1) (by omega))
      have d0 := hx4.cell 0
      have d1 := hx4.cell 1
      have d2 := hx4.cell 2
      have d3 := hx4.cell 3
      have f0 := hx4.free 0
      have f1 := hx4.free 1
      have f2 := hx4.free 2
      have f3 := hx4.free 3
      have hx8 := (((hx4.set 0 (u := .int .i64 ((max a0 b0)))).set 1 (u := .int .i64 ((max a1 b1)))).set 2 (u := .int .i64 ((max a2 b2)))).set 3 (u := .int .i64 ((max a3 b3)))
      have q0 := hx8.cell 0
      have q1 := hx8.cell 1
      have q2 := hx8.cell 2
      have q3 := hx8.cell 3
      simp only [List.getElem?_toArray, List.getElem?_cons_zero, List.getElem?_cons_succ, List.setIfInBounds_toArray, List.set_cons_zero, List.set_cons_succ] at c0 c1 c2 c3 d0 d1 d2 d3 q0 q1 q2 q3
      have HBW := Lib.hid (HB.out.trans (HBr.out.mono (by omega)))
      clear hx4 hx8
      go_wp2_with fail
      refine bodyPost_ret (v := .agg #[.int .i64 (max a0 b0), .int .i64 (max a1 b1), .int .i64 (max a2 b2), .int .i64 (max a3 b3)]) (by simp [results, Tryz.results113, go_sem, q0, q1, q2, q3]) rfl ?_
      exact ⟨rfl, (((HBW.out.setCell (p := ⟨w.heap.size + 1 + 1, 0, none⟩) (Nat.le_add_right _ 2) _).setCell (p := ⟨w.heap.size + 1 + 1, 1, none⟩) (Nat.le_add_right _ 2) _).setCell (p := ⟨w.heap.size + 1 + 1, 2, none⟩) (Nat.le_add_right _ 2) _).setCell (p := ⟨w.heap.size + 1 + 1, 3, none⟩) (Nat.le_add_right _ 2) _⟩
def ctV (c : Ct) : Value := .agg #[.int .i64 (c.s : Int), .int .i64 (c.g : Int), .int .i64 (c.u : Int), .int .i64 (c.m : Int)]
def Bd (n : Nat) (c : Ct) : Prop := c.s ≤ n ∧ c.g ≤ n ∧ c.u ≤ n ∧ c.m ≤ n
theorem Bd.cut (c : Ct) : Bd 16385 c.cut := Ct.cut_bd c
theorem Bd.mono {n k : Nat} {c : Ct} (h : Bd n c) (hk : n ≤ k) : Bd k c := ⟨Nat.le_trans h.1 hk, Nat.le_trans h.2.1 hk, Nat.le_trans h.2.2.1 hk, Nat.le_trans h.2.2.2 hk⟩
theorem agg4 {a b c d a' b' c' d' : Int} (h1 : a = a') (h2 : b = b') (h3 : c = c') (h4 : d = d') : Ending.returned (.agg #[.int .i64 a, .int .i64 b, .int .i64 c, .int .i64 d]) = .returned (.agg #[.int .i64 a', .int .i64 b', .int .i64 c', .int .i64 d']) := by rw [h1, h2, h3, h4]
theorem oplus_any (a b : Ct) (ha : Bd 1000000 a) (hb : Bd 1000000 b) (w : World) : Calls Tryz.prog 93 #[ctV a, ctV b] w fun e w' => e = .returned (ctV (a.add b).cut) ∧ Below w.heap.size w w' := by
  obtain ⟨h1, h2, h3, h4⟩ := ha
  obtain ⟨k1, k2, k3, k4⟩ := hb
  refine (oplus_core a.s a.g a.u a.m b.s b.g b.u b.m (by omega) (by omega) (by omega) (by omega) (by omega) (by omega) (by omega) (by omega) w).mono fun e w' h => ⟨h.1.trans (agg4 ?_ ?_ ?_ ?_), h.2⟩ <;> (simp only [Ct.cut, Ct.add]; omega)
theorem mul_bd {x n : Nat} (h : x ≤ 1000000) (k : n ≤ 1000000) : 0 ≤ (x : Int) * (n : Int) ∧ (x : Int) * (n : Int) ≤ 1000000000000 := by
  have := Nat.mul_le_mul h k
  rw [← Int.natCast_mul]
  omega
theorem otimes_any (a : Ct) (n : Nat) (ha : Bd 1000000 a) (hn : n ≤ 1000000) (w : World) : Calls Tryz.prog 114 #[ctV a, .int .i64 (n : Int)] w fun e w' => e = .returned (ctV (Ct.mul n a).cut) ∧ Below w.heap.size w w' := by
  obtain ⟨h1, h2, h3, h4⟩ := ha
  refine (otimes_core a.s a.g a.u a.m n (mul_bd h1 hn) (mul_bd h2 hn) (mul_bd h3 hn) (mul_bd h4 hn) w).mono fun e w' h => ⟨h.1.trans (agg4 ?_ ?_ ?_ ?_), h.2⟩ <;> (simp only [Ct.cut, Ct.mul, ← Int.natCast_mul]; omega)
theorem ogreater_any (a b : Ct) (w : World) : Calls Tryz.prog 113 #[ctV a, ctV b] w fun e w' => e = .returned (ctV (a.mx b)) ∧ Below w.heap.size w w' := by
  refine (ogreater_core a.s a.g a.u a.m b.s b.g b.u b.m w).mono fun e w' h => ⟨h.1.trans (agg4 ?_ ?_ ?_ ?_), h.2⟩ <;> (simp only [Ct.mx]; omega)
end Go.Proofs.YtkjefigebdbkaaaGreatDoor.Q
namespace Go.Proofs.YtkjefigebdbkaaaGreatDoor.Q
open Go.RowKit
open A (Ex St Bx exV exO exV_mk exO_mk okE okEs)
open L (below_2 below_box ret_bool ret_int)
open N (isR)

theorem isR_no {o : Int} (h1 : o ≠ 22) (h2 : o ≠ 23) (h3 : o ≠ 24) : isR o = false := by
  unfold isR; rw [decide_eq_false h1, decide_eq_false h2, decide_eq_false h3]; rfl
theorem gEs_get {l : List Ex} {k : Nat} (h : k < l.length) : gEs (l.take k) + gE l[k] ≤ gEs l := by
  rw [← gEs_take h]
  clear h
  induction l generalizing k with
  | nil => simp
  | cons e l ih =>
    cases k with
    | zero => rw [List.take_succ_cons, List.take_zero, gEs, gEs, gEs]; omega
    | succ k => have := ih (k := k); rw [List.take_succ_cons, gEs, gEs]; omega
def QG (e : Ex) : Prop := ∀ (a : Option Addr) (c : Nat) (w : World), okE e → gE e ≤ 1000000 → A.Kids w a e.args → Calls Tryz.prog 112 #[exV e a c] w fun e' w' => e' = .returned (.int .i64 (gE e : Int)) ∧ Below w.heap.size w w'
set_option maxHeartbeats 8000000 in
set_option maxRecDepth 100000 in
theorem ogets_any : ∀ e, QG e := by
  refine A.Ex.ind (P := QG) ?_
  intro o n s l ih a c w hok hsz hK
  have hK' : A.Kids w a l := hK
  have hb := below_box w (exO (.mk o n s l) a c)
  have hbx := Bx.new w #[.int .i64 o, .int .i64 n, .string s, .slice a l.length c] 41
  have hokl : ∀ x ∈ l, okE x := by
    rw [okE] at hok
    exact fun x hx => by
      obtain ⟨j, hj, rfl⟩ := List.getElem_of_mem hx
      exact A.okEs.get hok.2.2.2.2 j hj
  have hll : l.length ≤ 1000000000000000 := by rw [okE] at hok; exact hok.2.2.2.1
  have hg1 : gE (.mk o n s l) = (if isR o = true then 1 else 0) + gEs l := by rw [gE]
  have hgl : gEs l ≤ 1000000 := by rw [hg1] at hsz; omega
  have HIH : Hid (∀ (k : Nat) (h : k < l.length) a2 c2 w', A.Kids w' a2 l[k].args → Calls Tryz.prog 112 #[exV l[k] a2 c2] w' fun e' w'' => e' = .returned (.int .i64 (gE l[k] : Int)) ∧ Below w'.heap.size w' w'') :=
    fun k h a2 c2 w' h2 => ih k h a2 c2 w' (hokl _ (List.getElem_mem h)) (by have := gEs_get h; omega) h2
  have HGL := Lib.hid hgl
  simp only [exV_mk]
  obtain ⟨R, hR⟩ : ∃ R, gE (.mk o n s l) = R := ⟨_, rfl⟩
  rw [hR] at hg1 ⊢
  have HB := Lib.hid hb
  have HX := Lib.hid hbx
  have HK := Lib.hid (hK'.below hb)
  simp only [exO_mk] at HX HB HK
  obtain ⟨g, hg⟩ : ∃ g, l.length = g := ⟨_, rfl⟩
  have HL := Lib.hid hg
  rw [hg] at hll HX HB HK ⊢
  have x0 := HX.out.cell 0
  have x3 := HX.out.cell 3
  simp only [List.getElem?_toArray, List.getElem?_cons_zero, List.getElem?_cons_succ] at x0 x3
  have HR := Lib.hid hg1
  clear hg hb hbx hokl hK hK' hok ih hsz hgl hg1 hR
  by_cases h22 : o = 22
  · subst h22
    have HR2 : Hid (R = 1 + gEs l) := HR.out
    clear HR
    go_enter Tryz.func112, Tryz.ntmps112
    go_wp2_with fail
    clear x0 x3
    go_loopw [3, 22] (fun s3 s22 wr => ∃ (k x : Nat), k ≤ g ∧ s22 = .int .i64 k ∧ s3 = .int .i64 x ∧ x ≤ 1000001 ∧ Hid (x = 1 + gEs (l.take k)) ∧ Hid (Below (w.alloc (.cells #[.int .i64 22, .int .i64 n, .string s, .slice a g c] 41)).heap.size (w.alloc (.cells #[.int .i64 22, .int .i64 n, .string s, .slice a g c] 41)) wr)) (fun _ s22 _ => g - (intOf s22).toNat)
    case atStart => exact ⟨0, 1, Nat.zero_le _, rfl, rfl, by omega, by show _ = _; rw [List.take_zero, gEs], Below.refl _ _⟩
    case round =>
      obtain ⟨k, x, hk, rfl, rfl, hxb, HX2, HBr⟩ := hrel
      by_cases hlt : k < g
      · have hlx : k < l.length := by rw [HL.out]; exact hlt
        obtain ⟨b2, i2, rfl, hat⟩ := (HK.out.below HBr.out).open hlx
        obtain ⟨d0, d1, d2, a2, cc, d3, hk2⟩ := hat.open
        have hbb := below_box wr (.cells #[.int .i64 l[k].op, .int .i64 l[k].n, .string l[k].s, .slice a2 l[k].args.length cc] 41)
        have HCC := Lib.hid (HIH.out k hlx a2 cc _ (hk2.below hbb))
        have HBB := Lib.hid (below_2 HBr.out hbb)
        have hbd := gEs_get hlx
        have HT : Hid (gEs (l.take (k + 1)) = gEs (l.take k) + gE l[k]) := gEs_take hlx
        have hxy : x + gE l[k] ≤ 1000001 := by have h1 := HX2.out; have h2 := HGL.out; omega
        clear hat hk2 hbb hbd
        unfold exV at HCC
        generalize gE l[k] = y at HCC HT hxy
        generalize l[k].args.length = m2 at d3 HCC HBB
        generalize l[k].op = o2 at d0 HCC HBB
        generalize l[k].n = n2 at d1 HCC HBB
        generalize l[k].s = s2 at d2 HCC HBB
        go_wp2_with fail
        refine HCC.out.mono ?_; rintro e w2 ⟨rfl, hb2⟩
        have HB3 := Lib.hid (below_2 HBB.out hb2)
        have HX3 : Hid (x + y = 1 + gEs (l.take (k + 1))) := by show _ = _; rw [HT.out, HX2.out]; omega
        clear hb2 d0 d1 d2 d3
        go_wp2_with fail
        go_roundw
        case rel => exact ⟨k + 1, x + y, by omega, by go_num, by go_num, hxy, HX3.out, HB3.out⟩
        case measure => simp [intOf]; omega
      · have HV : Hid (x = R) := by
          have h := HX2.out
          rw [List.take_of_length_le (by rw [HL.out]; omega)] at h
          show _ = _
          rw [h, HR2.out]
        have HBW := Lib.hid (below_2 HB.out HBr.out)
        go_wp2_with fail
        go_ret
        exact ⟨ret_int (by rw [HV.out]), HBW.out⟩
  have b22 : (o == 22) = false := beq_eq_false_iff_ne.2 h22
  by_cases h23 : o = 23
  · subst h23
    have HR2 : Hid (R = 1 + gEs l) := HR.out
    clear HR h22 b22
    go_enter Tryz.func112, Tryz.ntmps112
    go_wp2_with fail
    clear x0 x3
    go_loopw [3, 22] (fun s3 s22 wr => ∃ (k x : Nat), k ≤ g ∧ s22 = .int .i64 k ∧ s3 = .int .i64 x ∧ x ≤ 1000001 ∧ Hid (x = 1 + gEs (l.take k)) ∧ Hid (Below (w.alloc (.cells #[.int .i64 23, .int .i64 n, .string s, .slice a g c] 41)).heap.size (w.alloc (.cells #[.int .i64 23, .int .i64 n, .string s, .slice a g c] 41)) wr)) (fun _ s22 _ => g - (intOf s22).toNat)
    case atStart => exact ⟨0, 1, Nat.zero_le _, rfl, rfl, by omega, by show _ = _; rw [List.take_zero, gEs], Below.refl _ _⟩
    case round =>
      obtain ⟨k, x, hk, rfl, rfl, hxb, HX2, HBr⟩ := hrel
      by_cases hlt : k < g
      · have hlx : k < l.length := by rw [HL.out]; exact hlt
        obtain ⟨b2, i2, rfl, hat⟩ := (HK.out.below HBr.out).open hlx
        obtain ⟨d0, d1, d2, a2, cc, d3, hk2⟩ := hat.open
        have hbb := below_box wr (.cells #[.int .i64 l[k].op, .int .i64 l[k].n, .string l[k].s, .slice a2 l[k].args.length cc] 41)
        have HCC := Lib.hid (HIH.out k hlx a2 cc _ (hk2.below hbb))
        have HBB := Lib.hid (below_2 HBr.out hbb)
        have hbd := gEs_get hlx
        have HT : Hid (gEs (l.take (k + 1)) = gEs (l.take k) + gE l[k]) := gEs_take hlx
        have hxy : x + gE l[k] ≤ 1000001 := by have h1 := HX2.out; have h2 := HGL.out; omega
        clear hat hk2 hbb hbd
        unfold exV at HCC
        generalize gE l[k] = y at HCC HT hxy
        generalize l[k].args.length = m2 at d3 HCC HBB
        generalize l[k].op = o2 at d0 HCC HBB
        generalize l[k].n = n2 at d1 HCC HBB
        generalize l[k].s = s2 at d2 HCC HBB
        go_wp2_with fail
        refine HCC.out.mono ?_; rintro e w2 ⟨rfl, hb2⟩
        have HB3 := Lib.hid (below_2 HBB.out hb2)
        have HX3 : Hid (x + y = 1 + gEs (l.take (k + 1))) := by show _ = _; rw [HT.out, HX2.out]; omega
        clear hb2 d0 d1 d2 d3
        go_wp2_with fail
        go_roundw
        case rel => exact ⟨k + 1, x + y, by omega, by go_num, by go_num, hxy, HX3.out, HB3.out⟩
        case measure => simp [intOf]; omega
      · have HV : Hid (x = R) := by
          have h := HX2.out
          rw [List.take_of_length_le (by rw [HL.out]; omega)] at h
          show _ = _
          rw [h, HR2.out]
        have HBW := Lib.hid (below_2 HB.out HBr.out)
        go_wp2_with fail
        go_ret
        exact ⟨ret_int (by rw [HV.out]), HBW.out⟩
  have b23 : (o == 23) = false := beq_eq_false_iff_ne.2 h23
  by_cases h24 : o = 24
  · subst h24
    have HR2 : Hid (R = 1 + gEs l) := HR.out
    clear HR h22 b22 h23 b23
    go_enter Tryz.func112, Tryz.ntmps112
    go_wp2_with fail
    clear x0 x3
    go_loopw [3, 22] (fun s3 s22 wr => ∃ (k x : Nat), k ≤ g ∧ s22 = .int .i64 k ∧ s3 = .int .i64 x ∧ x ≤ 1000001 ∧ Hid (x = 1 + gEs (l.take k)) ∧ Hid (Below (w.alloc (.cells #[.int .i64 24, .int .i64 n, .string s, .slice a g c] 41)).heap.size (w.alloc (.cells #[.int .i64 24, .int .i64 n, .string s, .slice a g c] 41)) wr)) (fun _ s22 _ => g - (intOf s22).toNat)
    case atStart => exact ⟨0, 1, Nat.zero_le _, rfl, rfl, by omega, by show _ = _; rw [List.take_zero, gEs], Below.refl _ _⟩
    case round =>
      obtain ⟨k, x, hk, rfl, rfl, hxb, HX2, HBr⟩ := hrel
      by_cases hlt : k < g
      · have hlx : k < l.length := by rw [HL.out]; exact hlt
        obtain ⟨b2, i2, rfl, hat⟩ := (HK.out.below HBr.out).open hlx
        obtain ⟨d0, d1, d2, a2, cc, d3, hk2⟩ := hat.open
        have hbb := below_box wr (.cells #[.int .i64 l[k].op, .int .i64 l[k].n, .string l[k].s, .slice a2 l[k].args.length cc] 41)
        have HCC := Lib.hid (HIH.out k hlx a2 cc _ (hk2.below hbb))
        have HBB := Lib.hid (below_2 HBr.out hbb)
        have hbd := gEs_get hlx
        have HT : Hid (gEs (l.take (k + 1)) = gEs (l.take k) + gE l[k]) := gEs_take hlx
        have hxy : x + gE l[k] ≤ 1000001 := by have h1 := HX2.out; have h2 := HGL.out; omega
        clear hat hk2 hbb hbd
        unfold exV at HCC
        generalize gE l[k] = y at HCC HT hxy
        generalize l[k].args.length = m2 at d3 HCC HBB
        generalize l[k].op = o2 at d0 HCC HBB
        generalize l[k].n = n2 at d1 HCC HBB
        generalize l[k].s = s2 at d2 HCC HBB
        go_wp2_with fail
        refine HCC.out.mono ?_; rintro e w2 ⟨rfl, hb2⟩
        have HB3 := Lib.hid (below_2 HBB.out hb2)
        have HX3 : Hid (x + y = 1 + gEs (l.take (k + 1))) := by show _ = _; rw [HT.out, HX2.out]; omega
        clear hb2 d0 d1 d2 d3
        go_wp2_with fail
        go_roundw
        case rel => exact ⟨k + 1, x + y, by omega, by go_num, by go_num, hxy, HX3.out, HB3.out⟩
        case measure => simp [intOf]; omega
      · have HV : Hid (x = R) := by
          have h := HX2.out
          rw [List.take_of_length_le (by rw [HL.out]; omega)] at h
          show _ = _
          rw [h, HR2.out]
        have HBW := Lib.hid (below_2 HB.out HBr.out)
        go_wp2_with fail
        go_ret
        exact ⟨ret_int (by rw [HV.out]), HBW.out⟩
  have b24 : (o == 24) = false := beq_eq_false_iff_ne.2 h24
  have HR2 : Hid (R = 0 + gEs l) := by show _ = _; rw [HR.out, isR_no h22 h23 h24]; rfl
  clear HR h22 h23 h24
  go_enter Tryz.func112, Tryz.ntmps112
  go_wp2_with fail
  clear x0 x3
  go_loopw [3, 22] (fun s3 s22 wr => ∃ (k x : Nat), k ≤ g ∧ s22 = .int .i64 k ∧ s3 = .int .i64 x ∧ x ≤ 1000001 ∧ Hid (x = 0 + gEs (l.take k)) ∧ Hid (Below (w.alloc (.cells #[.int .i64 o, .int .i64 n, .string s, .slice a g c] 41)).heap.size (w.alloc (.cells #[.int .i64 o, .int .i64 n, .string s, .slice a g c] 41)) wr)) (fun _ s22 _ => g - (intOf s22).toNat)
  case atStart => exact ⟨0, 0, Nat.zero_le _, rfl, rfl, by omega, by show _ = _; rw [List.take_zero, gEs], Below.refl _ _⟩
  case round =>
    obtain ⟨k, x, hk, rfl, rfl, hxb, HX2, HBr⟩ := hrel
    by_cases hlt : k < g
    · have hlx : k < l.length := by rw [HL.out]; exact hlt
      obtain ⟨b2, i2, rfl, hat⟩ := (HK.out.below HBr.out).open hlx
      obtain ⟨d0, d1, d2, a2, cc, d3, hk2⟩ := hat.open
      have hbb := below_box wr (.cells #[.int .i64 l[k].op, .int .i64 l[k].n, .string l[k].s, .slice a2 l[k].args.length cc] 41)
      have HCC := Lib.hid (HIH.out k hlx a2 cc _ (hk2.below hbb))
      have HBB := Lib.hid (below_2 HBr.out hbb)
      have hbd := gEs_get hlx
      have HT : Hid (gEs (l.take (k + 1)) = gEs (l.take k) + gE l[k]) := gEs_take hlx
      have hxy : x + gE l[k] ≤ 1000001 := by have h1 := HX2.out; have h2 := HGL.out; omega
      clear hat hk2 hbb hbd
      unfold exV at HCC
      generalize gE l[k] = y at HCC HT hxy
      generalize l[k].args.length = m2 at d3 HCC HBB
      generalize l[k].op = o2 at d0 HCC HBB
      generalize l[k].n = n2 at d1 HCC HBB
      generalize l[k].s = s2 at d2 HCC HBB
      go_wp2_with fail
      refine HCC.out.mono ?_; rintro e w2 ⟨rfl, hb2⟩
      have HB3 := Lib.hid (below_2 HBB.out hb2)
      have HX3 : Hid (x + y = 0 + gEs (l.take (k + 1))) := by show _ = _; rw [HT.out, HX2.out]; omega
      clear hb2 d0 d1 d2 d3
      go_wp2_with fail
      go_roundw
      case rel => exact ⟨k + 1, x + y, by omega, by go_num, by go_num, hxy, HX3.out, HB3.out⟩
      case measure => simp [intOf]; omega
    · have HV : Hid (x = R) := by
        have h := HX2.out
        rw [List.take_of_length_le (by rw [HL.out]; omega)] at h
        show _ = _
        rw [h, HR2.out]
      have HBW := Lib.hid (below_2 HB.out HBr.out)
      go_wp2_with fail
      go_ret
      exact ⟨ret_int (by rw [HV.out]), HBW.out⟩
end Go.Proofs.YtkjefigebdbkaaaGreatDoor.Q
namespace Go.Proofs.YtkjefigebdbkaaaGreatDoor.Q
open Go.RowKit
open A (Ex St Bx exV exO exV_mk exO_mk okE okEs)
open L (below_2 below_box ret_bool ret_int)
open N (isR)

theorem rcut_any (n : Int) (w : World) : Calls Tryz.prog 91 #[.int .i64 n] w fun e w' => e = .returned (.int .i64 (min n 16385)) ∧ w = w' := by
  go_enter Tryz.func91, Tryz.ntmps91
  go_wp2_with fail
  go_ret
  exact ⟨rfl, rfl⟩
theorem rcut_in (n : Nat) (h : n ≤ 16385) (w : World) : Calls Tryz.prog 91 #[.int .i64 (n : Int)] w fun e w' => e = .returned (.int .i64 (n : Int)) ∧ w = w' := by
  have := rcut_any n w
  rwa [show min (n : Int) 16385 = (n : Int) by omega] at this
def QRG (e : Ex) : Prop := ∀ (a : Option Addr) (c : Nat) (w : World), okE e → gE e ≤ 16000 → A.Kids w a e.args → Calls Tryz.prog 92 #[exV e a c] w fun e' w' => e' = .returned (.int .i64 (gE e : Int)) ∧ Below w.heap.size w w'
set_option maxHeartbeats 8000000 in
set_option maxRecDepth 100000 in
theorem rgets_any : ∀ e, QRG e := by
  refine A.Ex.ind (P := QRG) ?_
  intro o n s l ih a c w hok hsz hK
  have hK' : A.Kids w a l := hK
  have hb := below_box w (exO (.mk o n s l) a c)
  have hbx := Bx.new w #[.int .i64 o, .int .i64 n, .string s, .slice a l.length c] 41
  have hokl : ∀ x ∈ l, okE x := by
    rw [okE] at hok
    exact fun x hx => by
      obtain ⟨j, hj, rfl⟩ := List.getElem_of_mem hx
      exact A.okEs.get hok.2.2.2.2 j hj
  have hll : l.length ≤ 1000000000000000 := by rw [okE] at hok; exact hok.2.2.2.1
  have hg1 : gE (.mk o n s l) = (if isR o = true then 1 else 0) + gEs l := by rw [gE]
  have hgl : gEs l ≤ 16000 := by rw [hg1] at hsz; omega
  have HIH : Hid (∀ (k : Nat) (h : k < l.length) a2 c2 w', A.Kids w' a2 l[k].args → Calls Tryz.prog 92 #[exV l[k] a2 c2] w' fun e' w'' => e' = .returned (.int .i64 (gE l[k] : Int)) ∧ Below w'.heap.size w' w'') :=
    fun k h a2 c2 w' h2 => ih k h a2 c2 w' (hokl _ (List.getElem_mem h)) (by have := gEs_get h; omega) h2
  have HGL := Lib.hid hgl
  simp only [exV_mk]
  obtain ⟨R, hR⟩ : ∃ R, gE (.mk o n s l) = R := ⟨_, rfl⟩
  rw [hR] at hg1 ⊢
  have HB := Lib.hid hb
  have HX := Lib.hid hbx
  have HK := Lib.hid (hK'.below hb)
  simp only [exO_mk] at HX HB HK
  obtain ⟨g, hg⟩ : ∃ g, l.length = g := ⟨_, rfl⟩
  have HL := Lib.hid hg
  rw [hg] at hll HX HB HK ⊢
  have x0 := HX.out.cell 0
  have x3 := HX.out.cell 3
  simp only [List.getElem?_toArray, List.getElem?_cons_zero, List.getElem?_cons_succ] at x0 x3
  have HR := Lib.hid hg1
  clear hg hb hbx hokl hK hK' hok ih hsz hgl hg1 hR
  by_cases h22 : o = 22
  · subst h22
    have HR2 : Hid (R = 1 + gEs l) := HR.out
    clear HR
    go_enter Tryz.func92, Tryz.ntmps92
    go_wp2_with fail
    clear x0 x3
    go_loopw [3, 4] (fun s3 s4 wr => ∃ (k x : Nat), k ≤ g ∧ s4 = .int .i64 k ∧ s3 = .int .i64 x ∧ x ≤ 16001 ∧ Hid (x = 1 + gEs (l.take k)) ∧ Hid (Below (w.alloc (.cells #[.int .i64 22, .int .i64 n, .string s, .slice a g c] 41)).heap.size (w.alloc (.cells #[.int .i64 22, .int .i64 n, .string s, .slice a g c] 41)) wr)) (fun _ s4 _ => g - (intOf s4).toNat)
    case atStart => exact ⟨0, 1, Nat.zero_le _, rfl, rfl, by omega, by show _ = _; rw [List.take_zero, gEs], Below.refl _ _⟩
    case round =>
      obtain ⟨k, x, hk, rfl, rfl, hxb, HX2, HBr⟩ := hrel
      have z3 := (HX.out.below HBr.out).cell 3
      simp only [List.getElem?_toArray, List.getElem?_cons_zero, List.getElem?_cons_succ] at z3
      by_cases hlt : k < g
      · have hlx : k < l.length := by rw [HL.out]; exact hlt
        obtain ⟨b2, i2, rfl, hat⟩ := (HK.out.below HBr.out).open hlx
        obtain ⟨d0, d1, d2, a2, cc, d3, hk2⟩ := hat.open
        have HCC := Lib.hid (HIH.out k hlx a2 cc _ hk2)
        have hbd := gEs_get hlx
        have HT : Hid (gEs (l.take (k + 1)) = gEs (l.take k) + gE l[k]) := gEs_take hlx
        have hxy : x + gE l[k] ≤ 16001 := by have h1 := HX2.out; have h2 := HGL.out; omega
        clear hat hk2 hbd
        unfold exV at HCC
        generalize gE l[k] = y at HCC HT hxy
        generalize l[k].args.length = m2 at d3 HCC
        generalize l[k].op = o2 at d0 HCC
        generalize l[k].n = n2 at d1 HCC
        generalize l[k].s = s2 at d2 HCC
        have HCu := Lib.hid (fun w' => rcut_in (x + y) (by omega) w')
        have HSum : Hid ((x : Int) + (y : Int) = ((x + y : Nat) : Int)) := Int.natCast_add x y |>.symm
        go_wp2_with fail
        refine HCC.out.mono ?_; rintro e w2 ⟨rfl, hb2⟩
        have HB3 := Lib.hid (below_2 HBr.out hb2)
        have HX3 : Hid (x + y = 1 + gEs (l.take (k + 1))) := by show _ = _; rw [HT.out, HX2.out]; omega
        clear hb2 d0 d1 d2 d3 z3
        go_wp2_with fail
        rw [HSum.out]
        refine (HCu.out _).mono ?_; rintro e w3 ⟨rfl, rfl⟩
        go_wp2_with fail
        go_roundw
        case rel => exact ⟨k + 1, x + y, by omega, by go_num, by go_num, hxy, HX3.out, HB3.out⟩
        case measure => simp [intOf]; omega
      · have HV : Hid (x = R) := by
          have h := HX2.out
          rw [List.take_of_length_le (by rw [HL.out]; omega)] at h
          show _ = _
          rw [h, HR2.out]
        have HBW := Lib.hid (below_2 HB.out HBr.out)
        go_wp2_with fail
        go_ret
        exact ⟨ret_int (by rw [HV.out]), HBW.out⟩
  have b22 : (o == 22) = false := beq_eq_false_iff_ne.2 h22
  by_cases h23 : o = 23
  · subst h23
    have HR2 : Hid (R = 1 + gEs l) := HR.out
    clear HR h22 b22
    go_enter Tryz.func92, Tryz.ntmps92
    go_wp2_with fail
    clear x0 x3
    go_loopw [3, 4] (fun s3 s4 wr => ∃ (k x : Nat), k ≤ g ∧ s4 = .int .i64 k ∧ s3 = .int .i64 x ∧ x ≤ 16001 ∧ Hid (x = 1 + gEs (l.take k)) ∧ Hid (Below (w.alloc (.cells #[.int .i64 23, .int .i64 n, .string s, .slice a g c] 41)).heap.size (w.alloc (.cells #[.int .i64 23, .int .i64 n, .string s, .slice a g c] 41)) wr)) (fun _ s4 _ => g - (intOf s4).toNat)
    case atStart => exact ⟨0, 1, Nat.zero_le _, rfl, rfl, by omega, by show _ = _; rw [List.take_zero, gEs], Below.refl _ _⟩
    case round =>
      obtain ⟨k, x, hk, rfl, rfl, hxb, HX2, HBr⟩ := hrel
      have z3 := (HX.out.below HBr.out).cell 3
      simp only [List.getElem?_toArray, List.getElem?_cons_zero, List.getElem?_cons_succ] at z3
      by_cases hlt : k < g
      · have hlx : k < l.length := by rw [HL.out]; exact hlt
        obtain ⟨b2, i2, rfl, hat⟩ := (HK.out.below HBr.out).open hlx
        obtain ⟨d0, d1, d2, a2, cc, d3, hk2⟩ := hat.open
        have HCC := Lib.hid (HIH.out k hlx a2 cc _ hk2)
        have hbd := gEs_get hlx
        have HT : Hid (gEs (l.take (k + 1)) = gEs (l.take k) + gE l[k]) := gEs_take hlx
        have hxy : x + gE l[k] ≤ 16001 := by have h1 := HX2.out; have h2 := HGL.out; omega
        clear hat hk2 hbd
        unfold exV at HCC
        generalize gE l[k] = y at HCC HT hxy
        generalize l[k].args.length = m2 at d3 HCC
        generalize l[k].op = o2 at d0 HCC
        generalize l[k].n = n2 at d1 HCC
        generalize l[k].s = s2 at d2 HCC
        have HCu := Lib.hid (fun w' => rcut_in (x + y) (by omega) w')
        have HSum : Hid ((x : Int) + (y : Int) = ((x + y : Nat) : Int)) := Int.natCast_add x y |>.symm
        go_wp2_with fail
        refine HCC.out.mono ?_; rintro e w2 ⟨rfl, hb2⟩
        have HB3 := Lib.hid (below_2 HBr.out hb2)
        have HX3 : Hid (x + y = 1 + gEs (l.take (k + 1))) := by show _ = _; rw [HT.out, HX2.out]; omega
        clear hb2 d0 d1 d2 d3 z3
        go_wp2_with fail
        rw [HSum.out]
        refine (HCu.out _).mono ?_; rintro e w3 ⟨rfl, rfl⟩
        go_wp2_with fail
        go_roundw
        case rel => exact ⟨k + 1, x + y, by omega, by go_num, by go_num, hxy, HX3.out, HB3.out⟩
        case measure => simp [intOf]; omega
      · have HV : Hid (x = R) := by
          have h := HX2.out
          rw [List.take_of_length_le (by rw [HL.out]; omega)] at h
          show _ = _
          rw [h, HR2.out]
        have HBW := Lib.hid (below_2 HB.out HBr.out)
        go_wp2_with fail
        go_ret
        exact ⟨ret_int (by rw [HV.out]), HBW.out⟩
  have b23 : (o == 23) = false := beq_eq_false_iff_ne.2 h23
  by_cases h24 : o = 24
  · subst h24
    have HR2 : Hid (R = 1 + gEs l) := HR.out
    clear HR h22 b22 h23 b23
    go_enter Tryz.func92, Tryz.ntmps92
    go_wp2_with fail
    clear x0 x3
    go_loopw [3, 4] (fun s3 s4 wr => ∃ (k x : Nat), k ≤ g ∧ s4 = .int .i64 k ∧ s3 = .int .i64 x ∧ x ≤ 16001 ∧ Hid (x = 1 + gEs (l.take k)) ∧ Hid (Below (w.alloc (.cells #[.int .i64 24, .int .i64 n, .string s, .slice a g c] 41)).heap.size (w.alloc (.cells #[.int .i64 24, .int .i64 n, .string s, .slice a g c] 41)) wr)) (fun _ s4 _ => g - (intOf s4).toNat)
    case atStart => exact ⟨0, 1, Nat.zero_le _, rfl, rfl, by omega, by show _ = _; rw [List.take_zero, gEs], Below.refl _ _⟩
    case round =>
      obtain ⟨k, x, hk, rfl, rfl, hxb, HX2, HBr⟩ := hrel
      have z3 := (HX.out.below HBr.out).cell 3
      simp only [List.getElem?_toArray, List.getElem?_cons_zero, List.getElem?_cons_succ] at z3
      by_cases hlt : k < g
      · have hlx : k < l.length := by rw [HL.out]; exact hlt
        obtain ⟨b2, i2, rfl, hat⟩ := (HK.out.below HBr.out).open hlx
        obtain ⟨d0, d1, d2, a2, cc, d3, hk2⟩ := hat.open
        have HCC := Lib.hid (HIH.out k hlx a2 cc _ hk2)
        have hbd := gEs_get hlx
        have HT : Hid (gEs (l.take (k + 1)) = gEs (l.take k) + gE l[k]) := gEs_take hlx
        have hxy : x + gE l[k] ≤ 16001 := by have h1 := HX2.out; have h2 := HGL.out; omega
        clear hat hk2 hbd
        unfold exV at HCC
        generalize gE l[k] = y at HCC HT hxy
        generalize l[k].args.length = m2 at d3 HCC
        generalize l[k].op = o2 at d0 HCC
        generalize l[k].n = n2 at d1 HCC
        generalize l[k].s = s2 at d2 HCC
        have HCu := Lib.hid (fun w' => rcut_in (x + y) (by omega) w')
        have HSum : Hid ((x : Int) + (y : Int) = ((x + y : Nat) : Int)) := Int.natCast_add x y |>.symm
        go_wp2_with fail
        refine HCC.out.mono ?_; rintro e w2 ⟨rfl, hb2⟩
        have HB3 := Lib.hid (below_2 HBr.out hb2)
        have HX3 : Hid (x + y = 1 + gEs (l.take (k + 1))) := by show _ = _; rw [HT.out, HX2.out]; omega
        clear hb2 d0 d1 d2 d3 z3
        go_wp2_with fail
        rw [HSum.out]
        refine (HCu.out _).mono ?_; rintro e w3 ⟨rfl, rfl⟩
        go_wp2_with fail
        go_roundw
        case rel => exact ⟨k + 1, x + y, by omega, by go_num, by go_num, hxy, HX3.out, HB3.out⟩
        case measure => simp [intOf]; omega
      · have HV : Hid (x = R) := by
          have h := HX2.out
          rw [List.take_of_length_le (by rw [HL.out]; omega)] at h
          show _ = _
          rw [h, HR2.out]
        have HBW := Lib.hid (below_2 HB.out HBr.out)
        go_wp2_with fail
        go_ret
        exact ⟨ret_int (by rw [HV.out]), HBW.out⟩
  have b24 : (o == 24) = false := beq_eq_false_iff_ne.2 h24
  have HR2 : Hid (R = 0 + gEs l) := by show _ = _; rw [HR.out, isR_no h22 h23 h24]; rfl
  clear HR h22 h23 h24
  go_enter Tryz.func92, Tryz.ntmps92
  go_wp2_with fail
  clear x0 x3
  go_loopw [3, 4] (fun s3 s4 wr => ∃ (k x : Nat), k ≤ g ∧ s4 = .int .i64 k ∧ s3 = .int .i64 x ∧ x ≤ 16001 ∧ Hid (x = 0 + gEs (l.take k)) ∧ Hid (Below (w.alloc (.cells #[.int .i64 o, .int .i64 n, .string s, .slice a g c] 41)).heap.size (w.alloc (.cells #[.int .i64 o, .int .i64 n, .string s, .slice a g c] 41)) wr)) (fun _ s4 _ => g - (intOf s4).toNat)
  case atStart => exact ⟨0, 0, Nat.zero_le _, rfl, rfl, by omega, by show _ = _; rw [List.take_zero, gEs], Below.refl _ _⟩
  case round =>
    obtain ⟨k, x, hk, rfl, rfl, hxb, HX2, HBr⟩ := hrel
    have z3 := (HX.out.below HBr.out).cell 3
    simp only [List.getElem?_toArray, List.getElem?_cons_zero, List.getElem?_cons_succ] at z3
    by_cases hlt : k < g
    · have hlx : k < l.length := by rw [HL.out]; exact hlt
      obtain ⟨b2, i2, rfl, hat⟩ := (HK.out.below HBr.out).open hlx
      obtain ⟨d0, d1, d2, a2, cc, d3, hk2⟩ := hat.open
      have HCC := Lib.hid (HIH.out k hlx a2 cc _ hk2)
      have hbd := gEs_get hlx
      have HT : Hid (gEs (l.take (k + 1)) = gEs (l.take k) + gE l[k]) := gEs_take hlx
      have hxy : x + gE l[k] ≤ 16001 := by have h1 := HX2.out; have h2 := HGL.out; omega
      clear hat hk2 hbd
      unfold exV at HCC
      generalize gE l[k] = y at HCC HT hxy
      generalize l[k].args.length = m2 at d3 HCC
      generalize l[k].op = o2 at d0 HCC
      generalize l[k].n = n2 at d1 HCC
      generalize l[k].s = s2 at d2 HCC
      have HCu := Lib.hid (fun w' => rcut_in (x + y) (by omega) w')
      have HSum : Hid ((x : Int) + (y : Int) = ((x + y : Nat) : Int)) := Int.natCast_add x y |>.symm
      go_wp2_with fail
      refine HCC.out.mono ?_; rintro e w2 ⟨rfl, hb2⟩
      have HB3 := Lib.hid (below_2 HBr.out hb2)
      have HX3 : Hid (x + y = 0 + gEs (l.take (k + 1))) := by show _ = _; rw [HT.out, HX2.out]; omega
      clear hb2 d0 d1 d2 d3 z3
      go_wp2_with fail
      rw [HSum.out]
      refine (HCu.out _).mono ?_; rintro e w3 ⟨rfl, rfl⟩
      go_wp2_with fail
      go_roundw
      case rel => exact ⟨k + 1, x + y, by omega, by go_num, by go_num, hxy, HX3.out, HB3.out⟩
      case measure => simp [intOf]; omega
    · have HV : Hid (x = R) := by
        have h := HX2.out
        rw [List.take_of_length_le (by rw [HL.out]; omega)] at h
        show _ = _
        rw [h, HR2.out]
      have HBW := Lib.hid (below_2 HB.out HBr.out)
      go_wp2_with fail
      go_ret
      exact ⟨ret_int (by rw [HV.out]), HBW.out⟩
end Go.Proofs.YtkjefigebdbkaaaGreatDoor.Q
namespace Go.Proofs.YtkjefigebdbkaaaGreatDoor.P
open Go.RowKit
open A (Bx)
def nthV : List (Option Value) → Nat → Option (Option Value)
  | [], _ => none
  | x :: _, 0 => some x
  | _ :: r, n + 1 => nthV r n
def FT (vals : List (Option Value)) (t : TypeId) (zs : Array Value) (B : Nat) (j : Nat) (v : Value) (w : World) : Prop := match nthV vals j with
  | some (some x) => v = x
  | some none => ∃ b, v = .pointer (some ⟨b, 0, none⟩) ∧ B ≤ b ∧ Bx w b zs t
  | none => True
theorem FT.mono {vals : List (Option Value)} {t : TypeId} {zs : Array Value} {B : Nat} : ∀ j v w w', FT vals t zs B j v w → Below w.heap.size w w' → FT vals t zs B j v w' := by
  intro j v w w' h hb
  unfold FT at h ⊢
  split at h
  · exact h
  · obtain ⟨b, h1, h2, h3⟩ := h
    exact ⟨b, h1, h2, h3.below hb⟩
  · trivial
def Closed (ops : Array Oper) (l : Array Bool) : Prop := ∀ j, On l j → ∀ d ∈ deps ops j, On l d
theorem Closed.step {ops : Array Oper} {l : Array Bool} (h : Closed ops l) {i : Nat} (h0 : l.getD i true = false) (hall : ∀ j ∈ deps ops i, On l j) : Closed ops (l.setIfInBounds i true) := by
  intro j hj d hd
  rcases (on_set h0 j).1 hj with rfl | hj
  · exact (on_set h0 d).2 (Or.inr (hall d hd))
  · exact (on_set h0 d).2 (Or.inr (h j hj d hd))
theorem wp_region_inv2 {P : Program} {id : Nat} {ops : Array Oper} {Q : Exit → Act → World → Prop} {a : Act} {w : World} (hm : P.follows .mixedOrders = true) (I : Array Bool → Act → World → Prop)
    (hback : backs ops = true)
    (h0 : ∀ l, (∀ j, ¬ On l j) → I l a { w with drawn := w.drawn + 1 })
    (hstep : ∀ l a w, I l a w → Closed ops l → ∀ i, i < ops.size → l.getD i true = false → (∀ j ∈ deps ops i, On l j) → wpOp P ops Q i (I (l.setIfInBounds i true)) a w)
    (hdone : ∀ l a w, I l a w → (∀ j, j < ops.size → On l j) → Q .normal a w) : (Code.region id ops true).wp P Q a w :=
  wp_region_inv hm (fun l a w => I l a w ∧ Closed ops l) hback (fun l hl => ⟨h0 l hl, fun j hj => absurd hj (hl j)⟩)
    (fun l a w h i hi hn hall => wpOp_mono (fun _ _ h' => ⟨h', h.2.step hn hall⟩) (hstep l a w h.1 h.2 i hi hn hall)) (fun l a w h => hdone l a w h.1)
end Go.Proofs.YtkjefigebdbkaaaGreatDoor.P
namespace Go.Proofs.YtkjefigebdbkaaaGreatDoor.Q
open Go.RowKit
open A (Ex St Bx exV okE okB okS cE cB cS stC Bodies)
open L (below_2 below_box ret_bool ret_int)
open P (On on_set off_of wp_region_inv IS FT)

def QL (l : List St) : Prop := ∀ (a : Option Addr) (c : Nat) (w : World), l.length ≤ 1000000000000000 → okB l → goB l → cB l ≤ 16000 → Bodies w a l →
  Calls Tryz.prog 61 #[.slice a l.length c] w fun e' w' => e' = .returned (ctV (exB l).cut) ∧ Below w.heap.size w w'
theorem four_set {w : World} {b : Nat} {z0 z1 z2 z3 : Value} {t : TypeId} (h : Bx w b #[z0, z1, z2, z3] t) (u0 u1 u2 u3 : Value) :
    Bx ((((w.setCell ⟨b, 0, none⟩ u0).setCell ⟨b, 1, none⟩ u1).setCell ⟨b, 2, none⟩ u2).setCell ⟨b, 3, none⟩ u3) b #[u0, u1, u2, u3] t :=
  (((h.set 0 (u := u0)).set 1 (u := u1)).set 2 (u := u2)).set 3 (u := u3)
theorem four_below {B : Nat} {w w' : World} (h : Below B w w') {b : Nat} (hb : B ≤ b) (u0 u1 u2 u3 : Value) : Below B w ((((w'.setCell ⟨b, 0, none⟩ u0).setCell ⟨b, 1, none⟩ u1).setCell ⟨b, 2, none⟩ u2).setCell ⟨b, 3, none⟩ u3) :=
  (((h.setCell (p := ⟨b, 0, none⟩) hb _).setCell (p := ⟨b, 1, none⟩) hb _).setCell (p := ⟨b, 2, none⟩) hb _).setCell (p := ⟨b, 3, none⟩) hb _
structure C4 (w : World) (b : Nat) (z0 z1 z2 z3 : Value) : Prop where
  c0 : w.cell? ⟨b, 0, none⟩ = some z0
  c1 : w.cell? ⟨b, 1, none⟩ = some z1
  c2 : w.cell? ⟨b, 2, none⟩ = some z2
  c3 : w.cell? ⟨b, 3, none⟩ = some z3
  f0 : w.frozen? ⟨b, 0, none⟩ = false
  f1 : w.frozen? ⟨b, 1, none⟩ = false
  f2 : w.frozen? ⟨b, 2, none⟩ = false
  f3 : w.frozen? ⟨b, 3, none⟩ = false
theorem four_open {w : World} {b : Nat} {z0 z1 z2 z3 : Value} {t : TypeId} (h : Bx w b #[z0, z1, z2, z3] t) : C4 w b z0 z1 z2 z3 :=
  ⟨h.cell 0, h.cell 1, h.cell 2, h.cell 3, h.free 0, h.free 1, h.free 2, h.free 3⟩
set_option maxHeartbeats 8000000 in
set_option maxRecDepth 100000 in
theorem ostmt_any (s : St) (hQ1 : QL s.body) (hQ2 : QL s.els) (a1 : Option Addr) (c1 : Nat) (a2 : Option Addr) (c2 : Nat) (a3 : Option Addr) (c3 : Nat) (a4 : Option Addr) (c4 : Nat) (hok : okS s) (hgo : goS s) (hsz : cS s ≤ 16000) (w : World) (hK : A.StKids w s a1 a2 a3 a4) :
    Calls Tryz.prog 94 #[stC s a1 c1 a2 c2 a3 c3 a4 c4] w fun e' w' => e' = .returned (ctV (exS s).cut) ∧ Below w.heap.size w w' := by
  have hso := A.okS_open hok
  have hgp := goS_parts hgo
  have hcp := A.cS_parts s
  have hga := gE_cE s.a
  have hgb := gE_cE s.b
  obtain ⟨W1, e1⟩ : ∃ z, z = w.alloc (.cells #[.int .i64 s.op, .string s.name, .int .i64 s.mx, .int .i64 s.a.op, .int .i64 s.a.n, .string s.a.s, .slice a1 s.a.args.length c1, .int .i64 s.b.op, .int .i64 s.b.n, .string s.b.s, .slice a2 s.b.args.length c2, .slice a3 s.body.length c3, .slice a4 s.els.length c4] 49) := ⟨_, rfl⟩
  have bb1 : Below w.heap.size w W1 := by rw [e1]; exact below_box _ _
  have xx1 := Bx.new w #[.int .i64 s.op, .string s.name, .int .i64 s.mx, .int .i64 s.a.op, .int .i64 s.a.n, .string s.a.s, .slice a1 s.a.args.length c1, .int .i64 s.b.op, .int .i64 s.b.n, .string s.b.s, .slice a2 s.b.args.length c2, .slice a3 s.body.length c3, .slice a4 s.els.length c4] 49
  rw [← e1] at xx1
  have s1 : W1.heap.size = w.heap.size + 1 := by rw [e1]; simp
  obtain ⟨W2, e2⟩ : ∃ z, z = W1.alloc (.cells #[.int .i64 0, .int .i64 0, .int .i64 0, .int .i64 0] 57) := ⟨_, rfl⟩
  have bb2 : Below W1.heap.size W1 W2 := by rw [e2]; exact below_box _ _
  have xx2 := Bx.new W1 #[.int .i64 0, .int .i64 0, .int .i64 0, .int .i64 0] 57
  rw [← e2] at xx2
  rw [s1] at xx2
  have HB := Lib.hid (below_2 bb1 bb2)
  have HX := Lib.hid (xx1.below bb2)
  have HZ := Lib.hid xx2
  have HK := Lib.hid (hK.below (below_2 bb1 bb2))
  have HW : Hid ((w.alloc (.cells #[.int .i64 s.op, .string s.name, .int .i64 s.mx, .int .i64 s.a.op, .int .i64 s.a.n, .string s.a.s, .slice a1 s.a.args.length c1, .int .i64 s.b.op, .int .i64 s.b.n, .string s.b.s, .slice a2 s.b.args.length c2, .slice a3 s.body.length c3, .slice a4 s.els.length c4] 49)).alloc (.cells #[.int .i64 0, .int .i64 0, .int .i64 0, .int .i64 0] 57) = W2) := by show _ = _; rw [← e1, ← e2]
  have HGA : Hid (∀ w', Below W2.heap.size W2 w' → Calls Tryz.prog 112 #[exV s.a a1 c1] w' fun e w'' => e = .returned (.int .i64 (gE s.a : Int)) ∧ Below w'.heap.size w' w'') := fun w' hb => ogets_any s.a a1 c1 w' hso.a (by omega) (HK.out.below hb).a
  have HGB : Hid (∀ w', Below W2.heap.size W2 w' → Calls Tryz.prog 112 #[exV s.b a2 c2] w' fun e w'' => e = .returned (.int .i64 (gE s.b : Int)) ∧ Below w'.heap.size w' w'') := fun w' hb => ogets_any s.b a2 c2 w' hso.b (by omega) (HK.out.below hb).b
  have HQ1 : Hid (∀ w', Below W2.heap.size W2 w' → Calls Tryz.prog 61 #[.slice a3 s.body.length c3] w' fun e w'' => e = .returned (ctV (exB s.body).cut) ∧ Below w'.heap.size w' w'') := fun w' hb => hQ1 a3 c3 w' hso.bodyLen hso.body hgp.2.1 (by omega) (HK.out.below hb).body
  have HQ2 : Hid (∀ w', Below W2.heap.size W2 w' → Calls Tryz.prog 61 #[.slice a4 s.els.length c4] w' fun e w'' => e = .returned (ctV (exB s.els).cut) ∧ Below w'.heap.size w' w'') := fun w' hb => hQ2 a4 c4 w' hso.elsLen hso.els hgp.2.2 (by omega) (HK.out.below hb).els
  have hgab : gE s.a + gE s.b ≤ 16000 := by omega
  obtain ⟨R, hR⟩ : ∃ R, (exS s).cut = R := ⟨_, rfl⟩
  have hR1 := hR
  rw [exS_parts] at hR1
  unfold ownC at hR1
  rw [hR]
  have HR := Lib.hid hR1
  have HGo := Lib.hid hgp.1
  have HHS : Hid (W2.heap.size = w.heap.size + 1 + 1) := by show _ = _; rw [e2]; simp [s1]
  clear e1 e2 bb1 bb2 xx1 xx2 s1 hK hQ1 hQ2 hok hgo hsz hso hgp hcp hga hgb hR hR1
  unfold exV at HGA HGB
  unfold stC
  generalize gE s.a = ga at *
  generalize gE s.b = gb at *
  obtain ⟨g, hg⟩ : ∃ g, ga + gb = g := ⟨_, rfl⟩
  rw [hg] at HR hgab
  have hsum : (ga : Int) + (gb : Int) = (g : Int) := by omega
  have hw0 : IntKind.i64.wrap (g : Int) = (g : Int) := IntWalk.i64_in _ (by omega)
  have HSum := Lib.hid hsum
  have HW0 := Lib.hid hw0
  clear hg hsum hw0
  go_enter Tryz.func94, Tryz.ntmps94
  go_wp2_with fail
  rw [HW.out]
  go_upto_region 1 with fail
  refine wp_region_inv rfl (fun l a w' => ∃ v0 v1 v2 v3 v4 v5 v6 v7 v8 : Value, a = { tmps := #[Value.agg #[.int .i64 s.op, .string s.name, .int .i64 s.mx, .int .i64 s.a.op, .int .i64 s.a.n, .string s.a.s, .slice a1 s.a.args.length c1, .int .i64 s.b.op, .int .i64 s.b.n, .string s.b.s, .slice a2 s.b.args.length c2, .slice a3 s.body.length c3, .slice a4 s.els.length c4], Value.pointer (some { block := w.heap.size, off := 0 }), Value.pointer (some { block := w.heap.size + 1, off := 0 }), v8, undef, v0, v1, v2, v3, v4, v5, v6, v7, undef, undef, undef, undef, undef, undef, undef, undef, undef, undef, undef, undef, undef, undef, undef, undef, undef, undef, undef, undef, undef, undef, undef, undef, undef, undef, undef, undef, undef, undef, undef, undef, undef, undef], defers := [] } ∧ ((¬ On l 9 ∧ IS (FT [some (.pointer (some ⟨w.heap.size, 3, none⟩)), some (.agg #[.int .i64 s.a.op, .int .i64 s.a.n, .string s.a.s, .slice a1 s.a.args.length c1]), some (.int .i64 (ga : Int)), some (.pointer (some ⟨w.heap.size, 7, none⟩)), some (.agg #[.int .i64 s.b.op, .int .i64 s.b.n, .string s.b.s, .slice a2 s.b.args.length c2]), some (.int .i64 (gb : Int)), some (.int .i64 (g : Int)), some (.agg #[.int .i64 1, .int .i64 (g : Int), .int .i64 0, .int .i64 0]), none] 57 #[.int .i64 0, .int .i64 0, .int .i64 0, .int .i64 0] (W2.heap.size)) W2 l w' [v0, v1, v2, v3, v4, v5, v6, v7, v8]) ∨ (On l 9 ∧ (∀ j, j < 9 → On l j) ∧ ∃ b, v8 = .pointer (some ⟨b, 0, none⟩) ∧ W2.heap.size ≤ b ∧ Bx w' b #[.int .i64 1, .int .i64 (g : Int), .int .i64 0, .int .i64 0] 57 ∧ Below W2.heap.size W2 w'))) (by kernel_rfl) ?_ ?_ ?_
  · intro l hl
    exact ⟨_, _, _, _, _, _, _, _, _, rfl, Or.inl ⟨hl 9, IS.start _ _ hl _⟩⟩
  · rintro l a w' ⟨v0, v1, v2, v3, v4, v5, v6, v7, v8, rfl, hF⟩ i hi h0 hall
    have hF2 : i < 9 → ¬ On l 9 ∧ IS (FT [some (.pointer (some ⟨w.heap.size, 3, none⟩)), some (.agg #[.int .i64 s.a.op, .int .i64 s.a.n, .string s.a.s, .slice a1 s.a.args.length c1]), some (.int .i64 (ga : Int)), some (.pointer (some ⟨w.heap.size, 7, none⟩)), some (.agg #[.int .i64 s.b.op, .int .i64 s.b.n, .string s.b.s, .slice a2 s.b.args.length c2]), some (.int .i64 (gb : Int)), some (.int .i64 (g : Int)), some (.agg #[.int .i64 1, .int .i64 (g : Int), .int .i64 0, .int .i64 0]), none] 57 #[.int .i64 0, .int .i64 0, .int .i64 0, .int .i64 0] (W2.heap.size)) W2 l w' [v0, v1, v2, v3, v4, v5, v6, v7, v8] := fun h => hF.resolve_right (fun z => off_of h0 (z.2.1 i h))
    match i, hi, h0, hall, hF2 with
    | 0, _, h0, hall, hF2 =>
      obtain ⟨hnm, F⟩ := hF2 (by decide)
      have HNm : Hid (¬ On (l.setIfInBounds 0 true) 9) := fun z => hnm (((on_set h0 9).1 z).resolve_left (by decide))
      clear hF hF2 hnm
      have HF := Lib.hid (F.step FT.mono h0 (show 0 < 9 by decide) (Below.refl _ _) (x := .pointer (some ⟨w.heap.size, 3, none⟩)) rfl)
      clear F hall h0
      refine wpOp_step (by rfl) (fun K' hK => ?_)
      have HKk := Lib.hid hK
      clear hK
      go_simp
      exact HKk.out _ _ ⟨_, _, _, _, _, _, _, _, _, rfl, Or.inl ⟨HNm.out, HF.out⟩⟩
    | 1, _, h0, hall, hF2 =>
      obtain ⟨hnm, F⟩ := hF2 (by decide)
      have HNm : Hid (¬ On (l.setIfInBounds 1 true) 9) := fun z => hnm (((on_set h0 9).1 z).resolve_left (by decide))
      clear hF hF2 hnm
      obtain rfl : v0 = .pointer (some ⟨w.heap.size, 3, none⟩) := F.f 0 (hall 0 (by decide +kernel))
      have hxx := HX.out.below F.bel
      have q3 := hxx.cell 3
      have q4 := hxx.cell 4
      have q5 := hxx.cell 5
      have q6 := hxx.cell 6
      simp only [List.getElem?_toArray, List.getElem?_cons_zero, List.getElem?_cons_succ] at q3 q4 q5 q6
      clear hxx
      have HF := Lib.hid (F.step FT.mono h0 (show 1 < 9 by decide) (Below.refl _ _) (x := .agg #[.int .i64 s.a.op, .int .i64 s.a.n, .string s.a.s, .slice a1 s.a.args.length c1]) rfl)
      clear F hall h0
      refine wpOp_step (by rfl) (fun K' hK => ?_)
      have HKk := Lib.hid hK
      clear hK
      go_simp
      exact HKk.out _ _ ⟨_, _, _, _, _, _, _, _, _, rfl, Or.inl ⟨HNm.out, HF.out⟩⟩
    | 2, _, h0, hall, hF2 =>
      obtain ⟨hnm, F⟩ := hF2 (by decide)
      have HNm : Hid (¬ On (l.setIfInBounds 2 true) 9) := fun z => hnm (((on_set h0 9).1 z).resolve_left (by decide))
      clear hF hF2 hnm
      obtain rfl : v1 = .agg #[.int .i64 s.a.op, .int .i64 s.a.n, .string s.a.s, .slice a1 s.a.args.length c1] := F.f 1 (hall 1 (by decide +kernel))
      have HC := Lib.hid (HGA.out w' F.bel)
      have HF := Lib.hid (fun w'' hb x hx => F.step FT.mono h0 (show 2 < 9 by decide) (w' := w'') hb (x := x) hx)
      clear F hall h0
      refine wpOp_step (by rfl) (fun K' hK => ?_)
      have HKk := Lib.hid hK
      clear hK
      go_simp
      go_at_call 112
      refine HC.out.mono ?_; rintro e' w5 ⟨rfl, hb5⟩
      have HF5 := Lib.hid (HF.out w5 hb5 (.int .i64 (ga : Int)) rfl)
      exact HKk.out _ _ ⟨_, _, _, _, _, _, _, _, _, rfl, Or.inl ⟨HNm.out, HF5.out⟩⟩
    | 3, _, h0, hall, hF2 =>
      obtain ⟨hnm, F⟩ := hF2 (by decide)
      have HNm : Hid (¬ On (l.setIfInBounds 3 true) 9) := fun z => hnm (((on_set h0 9).1 z).resolve_left (by decide))
      clear hF hF2 hnm
      have HF := Lib.hid (F.step FT.mono h0 (show 3 < 9 by decide) (Below.refl _ _) (x := .pointer (some ⟨w.heap.size, 7, none⟩)) rfl)
      clear F hall h0
      refine wpOp_step (by rfl) (fun K' hK => ?_)
      have HKk := Lib.hid hK
      clear hK
      go_simp
      exact HKk.out _ _ ⟨_, _, _, _, _, _, _, _, _, rfl, Or.inl ⟨HNm.out, HF.out⟩⟩
    | 4, _, h0, hall, hF2 =>
      obtain ⟨hnm, F⟩ := hF2 (by decide)
      have HNm : Hid (¬ On (l.setIfInBounds 4 true) 9) := fun z => hnm (((on_set h0 9).1 z).resolve_left (by decide))
      clear hF hF2 hnm
      obtain rfl : v3 = .pointer (some ⟨w.heap.size, 7, none⟩) := F.f 3 (hall 3 (by decide +kernel))
      have hxx := HX.out.below F.bel
      have q7 := hxx.cell 7
      have q8 := hxx.cell 8
      have q9 := hxx.cell 9
      have q10 := hxx.cell 10
      simp only [List.getElem?_toArray, List.getElem?_cons_zero, List.getElem?_cons_succ] at q7 q8 q9 q10
      clear hxx
      have HF := Lib.hid (F.step FT.mono h0 (show 4 < 9 by decide) (Below.refl _ _) (x := .agg #[.int .i64 s.b.op, .int .i64 s.b.n, .string s.b.s, .slice a2 s.b.args.length c2]) rfl)
      clear F hall h0
      refine wpOp_step (by rfl) (fun K' hK => ?_)
      have HKk := Lib.hid hK
      clear hK
      go_simp
      exact HKk.out _ _ ⟨_, _, _, _, _, _, _, _, _, rfl, Or.inl ⟨HNm.out, HF.out⟩⟩
    | 5, _, h0, hall, hF2 =>
      obtain ⟨hnm, F⟩ := hF2 (by decide)
      have HNm : Hid (¬ On (l.setIfInBounds 5 true) 9) := fun z => hnm (((on_set h0 9).1 z).resolve_left (by decide))
      clear hF hF2 hnm
      obtain rfl : v4 = .agg #[.int .i64 s.b.op, .int .i64 s.b.n, .string s.b.s, .slice a2 s.b.args.length c2] := F.f 4 (hall 4 (by decide +kernel))
      have HC := Lib.hid (HGB.out w' F.bel)
      have HF := Lib.hid (fun w'' hb x hx => F.step FT.mono h0 (show 5 < 9 by decide) (w' := w'') hb (x := x) hx)
      clear F hall h0
      refine wpOp_step (by rfl) (fun K' hK => ?_)
      have HKk := Lib.hid hK
      clear hK
      go_simp
      go_at_call 112
      refine HC.out.mono ?_; rintro e' w5 ⟨rfl, hb5⟩
      have HF5 := Lib.hid (HF.out w5 hb5 (.int .i64 (gb : Int)) rfl)
      exact HKk.out _ _ ⟨_, _, _, _, _, _, _, _, _, rfl, Or.inl ⟨HNm.out, HF5.out⟩⟩
    | 6, _, h0, hall, hF2 =>
      obtain ⟨hnm, F⟩ := hF2 (by decide)
      have HNm : Hid (¬ On (l.setIfInBounds 6 true) 9) := fun z => hnm (((on_set h0 9).1 z).resolve_left (by decide))
      clear hF hF2 hnm
      obtain rfl : v2 = .int .i64 (ga : Int) := F.f 2 (hall 2 (by decide +kernel))
      obtain rfl : v5 = .int .i64 (gb : Int) := F.f 5 (hall 5 (by decide +kernel))
      have hsum := HSum.out
      have hw0 := HW0.out
      have HF := Lib.hid (F.step FT.mono h0 (show 6 < 9 by decide) (Below.refl _ _) (x := .int .i64 (g : Int)) rfl)
      clear F hall h0
      refine wpOp_step (by rfl) (fun K' hK => ?_)
      have HKk := Lib.hid hK
      clear hK
      go_simp
      exact HKk.out _ _ ⟨_, _, _, _, _, _, _, _, _, rfl, Or.inl ⟨HNm.out, HF.out⟩⟩
    | 7, _, h0, hall, hF2 =>
      obtain ⟨hnm, F⟩ := hF2 (by decide)
      have HNm : Hid (¬ On (l.setIfInBounds 7 true) 9) := fun z => hnm (((on_set h0 9).1 z).resolve_left (by decide))
      clear hF hF2 hnm
      obtain rfl : v6 = .int .i64 (g : Int) := F.f 6 (hall 6 (by decide +kernel))
      have HF := Lib.hid (F.step FT.mono h0 (show 7 < 9 by decide) (Below.refl _ _) (x := .agg #[.int .i64 1, .int .i64 (g : Int), .int .i64 0, .int .i64 0]) rfl)
      clear F hall h0
      refine wpOp_step (by rfl) (fun K' hK => ?_)
      have HKk := Lib.hid hK
      clear hK
      go_simp
      exact HKk.out _ _ ⟨_, _, _, _, _, _, _, _, _, rfl, Or.inl ⟨HNm.out, HF.out⟩⟩
    | 8, _, h0, hall, hF2 =>
      obtain ⟨hnm, F⟩ := hF2 (by decide)
      have HNm : Hid (¬ On (l.setIfInBounds 8 true) 9) := fun z => hnm (((on_set h0 9).1 z).resolve_left (by decide))
      clear hF hF2 hnm
      have HF := Lib.hid (F.step FT.mono h0 (show 8 < 9 by decide) (w' := w'.alloc (.cells #[.int .i64 0, .int .i64 0, .int .i64 0, .int .i64 0] 57)) (below_box _ _) (x := .pointer (some ⟨w'.heap.size, 0, none⟩)) (show ∃ b, _ ∧ W2.heap.size ≤ b ∧ Bx _ b _ _ from ⟨_, rfl, F.bel.size, Bx.new _ _ _⟩))
      clear F hall h0
      refine wpOp_step (by rfl) (fun K' hK => ?_)
      have HKk := Lib.hid hK
      clear hK
      go_simp
      exact HKk.out _ _ ⟨_, _, _, _, _, _, _, _, _, rfl, Or.inl ⟨HNm.out, HF.out⟩⟩
    | 9, _, h0, hall, _ =>
      obtain ⟨_, F⟩ := hF.resolve_right (fun z => off_of h0 z.1)
      obtain rfl : v7 = .agg #[.int .i64 1, .int .i64 (g : Int), .int .i64 0, .int .i64 0] := F.f 7 (hall 7 (by decide +kernel))
      obtain ⟨bA, rfl, hbA, hxA⟩ : ∃ b, v8 = .pointer (some ⟨b, 0, none⟩) ∧ W2.heap.size ≤ b ∧ Bx w' b #[.int .i64 0, .int .i64 0, .int .i64 0, .int .i64 0] 57 := F.f 8 (hall 8 (by decide +kernel))
      obtain ⟨q0, q1, q2, q3, q4, q5, q6, q7⟩ := four_open (hxA)
      have HFin : Hid (On (l.setIfInBounds 9 true) 9 ∧ (∀ j, j < 9 → On (l.setIfInBounds 9 true) j) ∧ ∃ b, Value.pointer (some ⟨bA, 0, none⟩) = .pointer (some ⟨b, 0, none⟩) ∧ W2.heap.size ≤ b ∧ Bx ((((w'.setCell ⟨bA, 0, none⟩ (.int .i64 1)).setCell ⟨bA, 1, none⟩ (.int .i64 (g : Int))).setCell ⟨bA, 2, none⟩ (.int .i64 0)).setCell ⟨bA, 3, none⟩ (.int .i64 0)) b #[.int .i64 1, .int .i64 (g : Int), .int .i64 0, .int .i64 0] 57 ∧ Below W2.heap.size W2 ((((w'.setCell ⟨bA, 0, none⟩ (.int .i64 1)).setCell ⟨bA, 1, none⟩ (.int .i64 (g : Int))).setCell ⟨bA, 2, none⟩ (.int .i64 0)).setCell ⟨bA, 3, none⟩ (.int .i64 0))) :=
        ⟨(on_set h0 9).2 (Or.inl rfl), (fun j hj => by
          refine (on_set h0 j).2 (Or.inr (hall j ?_))
          revert hj
          revert j
          decide +kernel), bA, rfl, hbA, four_set hxA _ _ _ _, four_below F.bel hbA _ _ _ _⟩
      clear F hall h0 hF hF2
      clear hxA hbA
      refine wpOp_step (by rfl) (fun K' hK => ?_)
      have HKk := Lib.hid hK
      clear hK
      go_simp
      exact HKk.out _ _ ⟨_, _, _, _, _, _, _, _, _, rfl, Or.inr HFin.out⟩
    | i + 10, hi, _, _, _ => exact absurd hi (by show ¬ (i + 10 < 10); omega)
  rintro l9 a wf ⟨r0, r1, r2, r3, r4, r5, r6, r7, r8, rfl, hF⟩ hall
  obtain ⟨_, _, b, rfl, hbB, hbx, hbel⟩ := hF.resolve_left (fun z => z.1 (hall 9 (by decide)))
  clear hF hall
  have HO := Lib.hid hbx
  have HBf := Lib.hid hbel
  have HBB := Lib.hid hbB
  have HZf := Lib.hid (HZ.out.below hbel)
  have HXf := Lib.hid (HX.out.below hbel)
  have HBw := Lib.hid (below_2 HB.out hbel)
  have hq0 := HXf.out.cell 0
  simp only [List.getElem?_toArray, List.getElem?_cons_zero] at hq0
  clear hbx hbel hbB
  by_cases h3 : s.op = 3
  · have hE : (Ct.add ⟨1, g, 1, 0⟩ Ct.z).cut = R := by rw [← HR.out, h3]; rfl
    have hRv : R = ⟨1, g, 1, 0⟩ := by rw [← hE]; refine Ct.eq ?_ ?_ ?_ ?_ <;> (simp only [Ct.cut, Ct.add, Ct.z]; omega)
    clear hE
    subst hRv
    rw [h3] at hq0
    clear h3
    obtain ⟨k0, k1, k2, k3, k4, k5, k6, k7⟩ := four_open HO.out
    obtain ⟨d0, d1, d2, d3, d4, d5, d6, d7⟩ := four_open HZf.out
    have hz0 := (HZf.out.keep (Below.heap_setCell wf ⟨b, 2, none⟩ (.int .i64 1) (w.heap.size + 1) (by have h1 := HBB.out; have h2 := HHS.out; show w.heap.size + 1 ≠ b; omega)))
    obtain ⟨e0, e1, e2, e3, e4, e5, e6, e7⟩ := four_open hz0
    have hne : b ≠ w.heap.size + 1 := by have h1 := HBB.out; have h2 := HHS.out; omega
    have hne2 : w.heap.size + 1 ≠ b := fun h => hne h.symm
    have hz := four_set hz0 (.int .i64 1) (.int .i64 (g : Int)) (.int .i64 1) (.int .i64 0)
    have q0 := hz.cell 0
    have q1 := hz.cell 1
    have q2 := hz.cell 2
    have q3 := hz.cell 3
    simp only [List.getElem?_toArray, List.getElem?_cons_zero, List.getElem?_cons_succ] at q0 q1 q2 q3
    clear hz hz0
    go_wp2_with fail
    refine bodyPost_ret (v := .agg #[.int .i64 1, .int .i64 (g : Int), .int .i64 1, .int .i64 0]) (by simp [results, Tryz.results94, go_sem, q0, q1, q2, q3]) rfl ?_
    exact ⟨rfl, four_below (HBw.out.setCell (p := ⟨b, 2, none⟩) (by have h1 := HBB.out; have h2 := HHS.out; show w.heap.size ≤ b; omega) _) (Nat.le_succ _) _ _ _ _⟩
  by_cases h4 : s.op = 4
  · have hE : (Ct.add ⟨1, g, 1, 0⟩ Ct.z).cut = R := by rw [← HR.out, h4]; rfl
    have hRv : R = ⟨1, g, 1, 0⟩ := by rw [← hE]; refine Ct.eq ?_ ?_ ?_ ?_ <;> (simp only [Ct.cut, Ct.add, Ct.z]; omega)
    clear hE
    subst hRv
    rw [h4] at hq0
    clear h4 h3
    obtain ⟨k0, k1, k2, k3, k4, k5, k6, k7⟩ := four_open HO.out
    obtain ⟨d0, d1, d2, d3, d4, d5, d6, d7⟩ := four_open HZf.out
    have hz0 := (HZf.out.keep (Below.heap_setCell wf ⟨b, 2, none⟩ (.int .i64 1) (w.heap.size + 1) (by have h1 := HBB.out; have h2 := HHS.out; show w.heap.size + 1 ≠ b; omega)))
    obtain ⟨e0, e1, e2, e3, e4, e5, e6, e7⟩ := four_open hz0
    have hne : b ≠ w.heap.size + 1 := by have h1 := HBB.out; have h2 := HHS.out; omega
    have hne2 : w.heap.size + 1 ≠ b := fun h => hne h.symm
    have hz := four_set hz0 (.int .i64 1) (.int .i64 (g : Int)) (.int .i64 1) (.int .i64 0)
    have q0 := hz.cell 0
    have q1 := hz.cell 1
    have q2 := hz.cell 2
    have q3 := hz.cell 3
    simp only [List.getElem?_toArray, List.getElem?_cons_zero, List.getElem?_cons_succ] at q0 q1 q2 q3
    clear hz hz0
    go_wp2_with fail
    refine bodyPost_ret (v := .agg #[.int .i64 1, .int .i64 (g : Int), .int .i64 1, .int .i64 0]) (by simp [results, Tryz.results94, go_sem, q0, q1, q2, q3]) rfl ?_
    exact ⟨rfl, four_below (HBw.out.setCell (p := ⟨b, 2, none⟩) (by have h1 := HBB.out; have h2 := HHS.out; show w.heap.size ≤ b; omega) _) (Nat.le_succ _) _ _ _ _⟩
  by_cases h7 : s.op = 7
  · have hE : (Ct.add ⟨1, g, 0, 1⟩ Ct.z).cut = R := by rw [← HR.out, h7]; rfl
    have hRv : R = ⟨1, g, 0, 1⟩ := by rw [← hE]; refine Ct.eq ?_ ?_ ?_ ?_ <;> (simp only [Ct.cut, Ct.add, Ct.z]; omega)
    clear hE
    subst hRv
    rw [h7] at hq0
    clear h7 h3 h4
    obtain ⟨k0, k1, k2, k3, k4, k5, k6, k7⟩ := four_open HO.out
    obtain ⟨d0, d1, d2, d3, d4, d5, d6, d7⟩ := four_open HZf.out
    have hz0 := (HZf.out.keep (Below.heap_setCell wf ⟨b, 3, none⟩ (.int .i64 1) (w.heap.size + 1) (by have h1 := HBB.out; have h2 := HHS.out; show w.heap.size + 1 ≠ b; omega)))
    obtain ⟨e0, e1, e2, e3, e4, e5, e6, e7⟩ := four_open hz0
    have hne : b ≠ w.heap.size + 1 := by have h1 := HBB.out; have h2 := HHS.out; omega
    have hne2 : w.heap.size + 1 ≠ b := fun h => hne h.symm
    have hz := four_set hz0 (.int .i64 1) (.int .i64 (g : Int)) (.int .i64 0) (.int .i64 1)
    have q0 := hz.cell 0
    have q1 := hz.cell 1
    have q2 := hz.cell 2
    have q3 := hz.cell 3
    simp only [List.getElem?_toArray, List.getElem?_cons_zero, List.getElem?_cons_succ] at q0 q1 q2 q3
    clear hz hz0
    go_wp2_with fail
    refine bodyPost_ret (v := .agg #[.int .i64 1, .int .i64 (g : Int), .int .i64 0, .int .i64 1]) (by simp [results, Tryz.results94, go_sem, q0, q1, q2, q3]) rfl ?_
    exact ⟨rfl, four_below (HBw.out.setCell (p := ⟨b, 3, none⟩) (by have h1 := HBB.out; have h2 := HHS.out; show w.heap.size ≤ b; omega) _) (Nat.le_succ _) _ _ _ _⟩
  by_cases h5 : s.op = 5
  · have hE : (Ct.add ⟨1, g, 0, 0⟩ ((exB s.body).mx (exB s.els))).cut = R := by rw [← HR.out, h5]; rfl
    have hE2 : (Ct.add ⟨1, g, 0, 0⟩ ((exB s.body).cut.mx (exB s.els).cut)).cut = R := by rw [Ct.cut_mx, Ct.cut_addr]; exact hE
    have HG5 : Hid (∀ w', Calls Tryz.prog 113 #[ctV (exB s.body).cut, ctV (exB s.els).cut] w' fun e w'' => e = .returned (ctV ((exB s.body).cut.mx (exB s.els).cut)) ∧ Below w'.heap.size w' w'') := fun w' => ogreater_any _ _ w'
    have HP5 : Hid (∀ w', Calls Tryz.prog 93 #[.agg #[.int .i64 1, .int .i64 (g : Int), .int .i64 0, .int .i64 0], ctV ((exB s.body).cut.mx (exB s.els).cut)] w' fun e w'' => e = .returned (.agg #[.int .i64 (R.s : Int), .int .i64 (R.g : Int), .int .i64 (R.u : Int), .int .i64 (R.m : Int)]) ∧ Below w'.heap.size w' w'') := fun w' => by
      have h := oplus_any ⟨1, g, 0, 0⟩ ((exB s.body).cut.mx (exB s.els).cut) ⟨(by decide : 1 ≤ 1000000), (by show g ≤ 1000000; omega), Nat.zero_le _, Nat.zero_le _⟩ (by rw [Ct.cut_mx]; exact (Bd.mono (Bd.cut _) (by decide))) w'
      rw [hE2] at h
      exact h
    clear hE hE2
    generalize (exB s.body).cut.mx (exB s.els).cut = M at HG5 HP5
    generalize (exB s.body).cut = X1 at HG5 HQ1
    generalize (exB s.els).cut = X2 at HG5 HQ2
    rw [h5] at hq0
    clear h5 h3 h4 h7
    obtain ⟨k0, k1, k2, k3, k4, k5, k6, k7⟩ := four_open HO.out
    go_upto_region 9 with fail
    clear hq0 k0 k1 k2 k3 k4 k5 k6 k7
    refine wp_region_inv rfl (fun l a w' => ∃ v0 v1 v2 v3 v4 v5 v6 v7 v8 : Value, a = { tmps := #[Value.agg #[.int .i64 s.op, .string s.name, .int .i64 s.mx, .int .i64 s.a.op, .int .i64 s.a.n, .string s.a.s, .slice a1 s.a.args.length c1, .int .i64 s.b.op, .int .i64 s.b.n, .string s.b.s, .slice a2 s.b.args.length c2, .slice a3 s.body.length c3, .slice a4 s.els.length c4], Value.pointer (some { block := w.heap.size, off := 0 }), Value.pointer (some { block := w.heap.size + 1, off := 0 }), Value.pointer (some { block := b, off := 0 }), undef, r0, r1, r2, r3, r4, r5, r6, r7, Value.pointer (some { block := w.heap.size, off := 0 }), Value.int IntKind.i64 5, Value.bool false, Value.bool false, Value.bool false, undef, Value.bool false, Value.bool false, undef, Value.bool true, Value.bool true, v0, v1, v2, v3, v4, v5, v6, v7, v8, undef, undef, undef, undef, undef, undef, undef, undef, undef, undef, undef, undef, undef, undef], defers := [] } ∧ ((¬ On l 9 ∧ IS (FT [some (.agg #[.int .i64 1, .int .i64 (g : Int), .int .i64 0, .int .i64 0]), some (.pointer (some ⟨w.heap.size, 11, none⟩)), some (.slice a3 s.body.length c3), some (ctV X1), some (.pointer (some ⟨w.heap.size, 12, none⟩)), some (.slice a4 s.els.length c4), some (ctV X2), some (ctV M), some (.agg #[.int .i64 (R.s : Int), .int .i64 (R.g : Int), .int .i64 (R.u : Int), .int .i64 (R.m : Int)])] 57 #[.int .i64 0, .int .i64 0, .int .i64 0, .int .i64 0] (0)) wf l w' [v0, v1, v2, v3, v4, v5, v6, v7, v8]) ∨ (On l 9 ∧ (∀ j, j < 9 → On l j) ∧ Bx w' (w.heap.size + 1) #[.int .i64 (R.s : Int), .int .i64 (R.g : Int), .int .i64 (R.u : Int), .int .i64 (R.m : Int)] 57 ∧ Below w.heap.size w w'))) (by kernel_rfl) ?_ ?_ ?_
    · intro l hl
      exact ⟨_, _, _, _, _, _, _, _, _, rfl, Or.inl ⟨hl 9, IS.start _ _ hl _⟩⟩
    · rintro l a w' ⟨v0, v1, v2, v3, v4, v5, v6, v7, v8, rfl, hF⟩ i hi h0 hall
      have hF2 : i < 9 → ¬ On l 9 ∧ IS (FT [some (.agg #[.int .i64 1, .int .i64 (g : Int), .int .i64 0, .int .i64 0]), some (.pointer (some ⟨w.heap.size, 11, none⟩)), some (.slice a3 s.body.length c3), some (ctV X1), some (.pointer (some ⟨w.heap.size, 12, none⟩)), some (.slice a4 s.els.length c4), some (ctV X2), some (ctV M), some (.agg #[.int .i64 (R.s : Int), .int .i64 (R.g : Int), .int .i64 (R.u : Int), .int .i64 (R.m : Int)])] 57 #[.int .i64 0, .int .i64 0, .int .i64 0, .int .i64 0] (0)) wf l w' [v0, v1, v2, v3, v4, v5, v6, v7, v8] := fun h => hF.resolve_right (fun z => off_of h0 (z.2.1 i h))
      match i, hi, h0, hall, hF2 with
      | 0, _, h0, hall, hF2 =>
        obtain ⟨hnm, F⟩ := hF2 (by decide)
        have HNm : Hid (¬ On (l.setIfInBounds 0 true) 9) := fun z => hnm (((on_set h0 9).1 z).resolve_left (by decide))
        clear hF hF2 hnm
        obtain ⟨q0, q1, q2, q3, q4, q5, q6, q7⟩ := four_open (HO.out.below F.bel)
        have HF := Lib.hid (F.step FT.mono h0 (show 0 < 9 by decide) (Below.refl _ _) (x := .agg #[.int .i64 1, .int .i64 (g : Int), .int .i64 0, .int .i64 0]) rfl)
        clear F hall h0
        refine wpOp_step (by rfl) (fun K' hK => ?_)
        have HKk := Lib.hid hK
        clear hK
        go_simp
        exact HKk.out _ _ ⟨_, _, _, _, _, _, _, _, _, rfl, Or.inl ⟨HNm.out, HF.out⟩⟩
      | 1, _, h0, hall, hF2 =>
        obtain ⟨hnm, F⟩ := hF2 (by decide)
        have HNm : Hid (¬ On (l.setIfInBounds 1 true) 9) := fun z => hnm (((on_set h0 9).1 z).resolve_left (by decide))
        clear hF hF2 hnm
        have HF := Lib.hid (F.step FT.mono h0 (show 1 < 9 by decide) (Below.refl _ _) (x := .pointer (some ⟨w.heap.size, 11, none⟩)) rfl)
        clear F hall h0
        refine wpOp_step (by rfl) (fun K' hK => ?_)
        have HKk := Lib.hid hK
        clear hK
        go_simp
        exact HKk.out _ _ ⟨_, _, _, _, _, _, _, _, _, rfl, Or.inl ⟨HNm.out, HF.out⟩⟩
      | 2, _, h0, hall, hF2 =>
        obtain ⟨hnm, F⟩ := hF2 (by decide)
        have HNm : Hid (¬ On (l.setIfInBounds 2 true) 9) := fun z => hnm (((on_set h0 9).1 z).resolve_left (by decide))
        clear hF hF2 hnm
        obtain rfl : v1 = .pointer (some ⟨w.heap.size, 11, none⟩) := F.f 1 (hall 1 (by decide +kernel))
        have hxx := HXf.out.below F.bel
        have q11 := hxx.cell 11
        simp only [List.getElem?_toArray, List.getElem?_cons_zero, List.getElem?_cons_succ] at q11
        clear hxx
        have HF := Lib.hid (F.step FT.mono h0 (show 2 < 9 by decide) (Below.refl _ _) (x := .slice a3 s.body.length c3) rfl)
        clear F hall h0
        refine wpOp_step (by rfl) (fun K' hK => ?_)
        have HKk := Lib.hid hK
        clear hK
        go_simp
        exact HKk.out _ _ ⟨_, _, _, _, _, _, _, _, _, rfl, Or.inl ⟨HNm.out, HF.out⟩⟩
      | 3, _, h0, hall, hF2 =>
        obtain ⟨hnm, F⟩ := hF2 (by decide)
        have HNm : Hid (¬ On (l.setIfInBounds 3 true) 9) := fun z => hnm (((on_set h0 9).1 z).resolve_left (by decide))
        clear hF hF2 hnm
        obtain rfl : v2 = .slice a3 s.body.length c3 := F.f 2 (hall 2 (by decide +kernel))
        have HC := Lib.hid (HQ1.out w' (below_2 HBf.out F.bel))
        have HF := Lib.hid (fun w'' hb x hx => F.step FT.mono h0 (show 3 < 9 by decide) (w' := w'') hb (x := x) hx)
        clear F hall h0
        refine wpOp_step (by rfl) (fun K' hK => ?_)
        have HKk := Lib.hid hK
        clear hK
        go_simp
        go_at_call 61
        refine HC.out.mono ?_; rintro e' w5 ⟨rfl, hb5⟩
        have HF5 := Lib.hid (HF.out w5 hb5 (ctV X1) rfl)
        exact HKk.out _ _ ⟨_, _, _, _, _, _, _, _, _, rfl, Or.inl ⟨HNm.out, HF5.out⟩⟩
      | 4, _, h0, hall, hF2 =>
        obtain ⟨hnm, F⟩ := hF2 (by decide)
        have HNm : Hid (¬ On (l.setIfInBounds 4 true) 9) := fun z => hnm (((on_set h0 9).1 z).resolve_left (by decide))
        clear hF hF2 hnm
        have HF := Lib.hid (F.step FT.mono h0 (show 4 < 9 by decide) (Below.refl _ _) (x := .pointer (some ⟨w.heap.size, 12, none⟩)) rfl)
        clear F hall h0
        refine wpOp_step (by rfl) (fun K' hK => ?_)
        have HKk := Lib.hid hK
        clear hK
        go_simp
        exact HKk.out _ _ ⟨_, _, _, _, _, _, _, _, _, rfl, Or.inl ⟨HNm.out, HF.out⟩⟩
      | 5, _, h0, hall, hF2 =>
        obtain ⟨hnm, F⟩ := hF2 (by decide)
        have HNm : Hid (¬ On (l.setIfInBounds 5 true) 9) := fun z => hnm (((on_set h0 9).1 z).resolve_left (by decide))
        clear hF hF2 hnm
        obtain rfl : v4 = .pointer (some ⟨w.heap.size, 12, none⟩) := F.f 4 (hall 4 (by decide +kernel))
        have hxx := HXf.out.below F.bel
        have q12 := hxx.cell 12
        simp only [List.getElem?_toArray, List.getElem?_cons_zero, List.getElem?_cons_succ] at q12
        clear hxx
        have HF := Lib.hid (F.step FT.mono h0 (show 5 < 9 by decide) (Below.refl _ _) (x := .slice a4 s.els.length c4) rfl)
        clear F hall h0
        refine wpOp_step (by rfl) (fun K' hK => ?_)
        have HKk := Lib.hid hK
        clear hK
        go_simp
        exact HKk.out _ _ ⟨_, _, _, _, _, _, _, _, _, rfl, Or.inl ⟨HNm.out, HF.out⟩⟩
      | 6, _, h0, hall, hF2 =>
        obtain ⟨hnm, F⟩ := hF2 (by decide)
        have HNm : Hid (¬ On (l.setIfInBounds 6 true) 9) := fun z => hnm (((on_set h0 9).1 z).resolve_left (by decide))
        clear hF hF2 hnm
        obtain rfl : v5 = .slice a4 s.els.length c4 := F.f 5 (hall 5 (by decide +kernel))
        have HC := Lib.hid (HQ2.out w' (below_2 HBf.out F.bel))
        have HF := Lib.hid (fun w'' hb x hx => F.step FT.mono h0 (show 6 < 9 by decide) (w' := w'') hb (x := x) hx)
        clear F hall h0
        refine wpOp_step (by rfl) (fun K' hK => ?_)
        have HKk := Lib.hid hK
        clear hK
        go_simp
        go_at_call 61
        refine HC.out.mono ?_; rintro e' w5 ⟨rfl, hb5⟩
        have HF5 := Lib.hid (HF.out w5 hb5 (ctV X2) rfl)
        exact HKk.out _ _ ⟨_, _, _, _, _, _, _, _, _, rfl, Or.inl ⟨HNm.out, HF5.out⟩⟩
      | 7, _, h0, hall, hF2 =>
        obtain ⟨hnm, F⟩ := hF2 (by decide)
        have HNm : Hid (¬ On (l.setIfInBounds 7 true) 9) := fun z => hnm (((on_set h0 9).1 z).resolve_left (by decide))
        clear hF hF2 hnm
        obtain rfl : v3 = ctV X1 := F.f 3 (hall 3 (by decide +kernel))
        obtain rfl : v6 = ctV X2 := F.f 6 (hall 6 (by decide +kernel))
        have HC := Lib.hid (HG5.out w')
        have HF := Lib.hid (fun w'' hb x hx => F.step FT.mono h0 (show 7 < 9 by decide) (w' := w'') hb (x := x) hx)
        clear F hall h0
        refine wpOp_step (by rfl) (fun K' hK => ?_)
        have HKk := Lib.hid hK
        clear hK
        go_simp
        go_at_call 113
        refine HC.out.mono ?_; rintro e' w5 ⟨rfl, hb5⟩
        have HF5 := Lib.hid (HF.out w5 hb5 (ctV M) rfl)
        exact HKk.out _ _ ⟨_, _, _, _, _, _, _, _, _, rfl, Or.inl ⟨HNm.out, HF5.out⟩⟩
      | 8, _, h0, hall, hF2 =>
        obtain ⟨hnm, F⟩ := hF2 (by decide)
        have HNm : Hid (¬ On (l.setIfInBounds 8 true) 9) := fun z => hnm (((on_set h0 9).1 z).resolve_left (by decide))
        clear hF hF2 hnm
        obtain rfl : v0 = .agg #[.int .i64 1, .int .i64 (g : Int), .int .i64 0, .int .i64 0] := F.f 0 (hall 0 (by decide +kernel))
        obtain rfl : v7 = ctV M := F.f 7 (hall 7 (by decide +kernel))
        have HC := Lib.hid (HP5.out w')
        have HF := Lib.hid (fun w'' hb x hx => F.step FT.mono h0 (show 8 < 9 by decide) (w' := w'') hb (x := x) hx)
        clear F hall h0
        refine wpOp_step (by rfl) (fun K' hK => ?_)
        have HKk := Lib.hid hK
        clear hK
        go_simp
        go_at_call 93
        refine HC.out.mono ?_; rintro e' w5 ⟨rfl, hb5⟩
        have HF5 := Lib.hid (HF.out w5 hb5 (.agg #[.int .i64 (R.s : Int), .int .i64 (R.g : Int), .int .i64 (R.u : Int), .int .i64 (R.m : Int)]) rfl)
        exact HKk.out _ _ ⟨_, _, _, _, _, _, _, _, _, rfl, Or.inl ⟨HNm.out, HF5.out⟩⟩
      | 9, _, h0, hall, _ =>
        obtain ⟨_, F⟩ := hF.resolve_right (fun z => off_of h0 z.1)
        obtain rfl : v8 = .agg #[.int .i64 (R.s : Int), .int .i64 (R.g : Int), .int .i64 (R.u : Int), .int .i64 (R.m : Int)] := F.f 8 (hall 8 (by decide +kernel))
        have hZZ := HZf.out.below (F.bel)
        obtain ⟨q0, q1, q2, q3, q4, q5, q6, q7⟩ := four_open (hZZ)
        have HFin : Hid (On (l.setIfInBounds 9 true) 9 ∧ (∀ j, j < 9 → On (l.setIfInBounds 9 true) j) ∧ Bx ((((w'.setCell ⟨w.heap.size + 1, 0, none⟩ (.int .i64 (R.s : Int))).setCell ⟨w.heap.size + 1, 1, none⟩ (.int .i64 (R.g : Int))).setCell ⟨w.heap.size + 1, 2, none⟩ (.int .i64 (R.u : Int))).setCell ⟨w.heap.size + 1, 3, none⟩ (.int .i64 (R.m : Int))) (w.heap.size + 1) #[.int .i64 (R.s : Int), .int .i64 (R.g : Int), .int .i64 (R.u : Int), .int .i64 (R.m : Int)] 57 ∧ Below w.heap.size w ((((w'.setCell ⟨w.heap.size + 1, 0, none⟩ (.int .i64 (R.s : Int))).setCell ⟨w.heap.size + 1, 1, none⟩ (.int .i64 (R.g : Int))).setCell ⟨w.heap.size + 1, 2, none⟩ (.int .i64 (R.u : Int))).setCell ⟨w.heap.size + 1, 3, none⟩ (.int .i64 (R.m : Int)))) :=
          ⟨(on_set h0 9).2 (Or.inl rfl), (fun j hj => by
            refine (on_set h0 j).2 (Or.inr (hall j ?_))
            revert hj
            revert j
            decide +kernel), four_set hZZ _ _ _ _, four_below (below_2 HBw.out (F.bel)) (Nat.le_succ _) _ _ _ _⟩
        clear F hall h0 hF hF2
        clear hZZ
        refine wpOp_step (by rfl) (fun K' hK => ?_)
        have HKk := Lib.hid hK
        clear hK
        go_simp
        exact HKk.out _ _ ⟨_, _, _, _, _, _, _, _, _, rfl, Or.inr HFin.out⟩
      | i + 10, hi, _, _, _ => exact absurd hi (by show ¬ (i + 10 < 10); omega)
    rintro l9 a wz ⟨t0, t1, t2, t3, t4, t5, t6, t7, t8, rfl, hF⟩ hall
    obtain ⟨_, _, hZ, hBl⟩ := hF.resolve_left (fun z => z.1 (hall 9 (by decide)))
    clear hF hall
    obtain ⟨hz, hbel⟩ : Bx wz (w.heap.size + 1) #[.int .i64 (R.s : Int), .int .i64 (R.g : Int), .int .i64 (R.u : Int), .int .i64 (R.m : Int)] 57 ∧ Below w.heap.size w wz := ⟨hZ, hBl⟩
    have q0 := hz.cell 0
    have q1 := hz.cell 1
    have q2 := hz.cell 2
    have q3 := hz.cell 3
    simp only [List.getElem?_toArray, List.getElem?_cons_zero, List.getElem?_cons_succ] at q0 q1 q2 q3
    clear hz hZ hBl
    go_wp2_with fail
    refine bodyPost_ret (v := .agg #[.int .i64 (R.s : Int), .int .i64 (R.g : Int), .int .i64 (R.u : Int), .int .i64 (R.m : Int)]) (by simp [results, Tryz.results94, go_sem, q0, q1, q2, q3]) rfl ?_
    exact ⟨rfl, hbel⟩
  by_cases h6 : s.op = 6
  · have hE : (Ct.add ⟨1, g, 0, 0⟩ (Ct.mul s.mx.toNat ((exB s.body).add Ct.one))).cut = R := by rw [← HR.out, h6]; rfl
    have hmm := HGo.out h6
    have hE2 : (Ct.add ⟨1, g, 0, 0⟩ (Ct.mul s.mx.toNat ((exB s.body).cut.add Ct.one).cut).cut).cut = R := by rw [Ct.cut_addr, ← Ct.cut_addr _ (Ct.mul _ _), Ct.cut_addl, Ct.cut_mul, Ct.cut_addr]; exact hE
    obtain ⟨k, hk⟩ : ∃ k, s.mx.toNat = k := ⟨_, rfl⟩
    have hmx : s.mx = (k : Int) := by omega
    rw [hk] at hE2
    have hk16 : k ≤ 16 := by omega
    have HPI : Hid (∀ w', Calls Tryz.prog 93 #[ctV (exB s.body).cut, .agg #[.int .i64 1, .int .i64 0, .int .i64 0, .int .i64 0]] w' fun e w'' => e = .returned (ctV ((exB s.body).cut.add Ct.one).cut) ∧ Below w'.heap.size w' w'') := fun w' => oplus_any _ Ct.one (Bd.mono (Bd.cut _) (by decide)) ⟨(by decide : 1 ≤ 1000000), Nat.zero_le _, Nat.zero_le _, Nat.zero_le _⟩ w'
    have HT6 : Hid (∀ w', Calls Tryz.prog 114 #[ctV ((exB s.body).cut.add Ct.one).cut, .int .i64 (k : Int)] w' fun e w'' => e = .returned (ctV (Ct.mul k ((exB s.body).cut.add Ct.one).cut).cut) ∧ Below w'.heap.size w' w'') := fun w' => otimes_any _ k (Bd.mono (Bd.cut _) (by decide)) (by omega) w'
    have HP6 : Hid (∀ w', Calls Tryz.prog 93 #[.agg #[.int .i64 1, .int .i64 (g : Int), .int .i64 0, .int .i64 0], ctV (Ct.mul k ((exB s.body).cut.add Ct.one).cut).cut] w' fun e w'' => e = .returned (.agg #[.int .i64 (R.s : Int), .int .i64 (R.g : Int), .int .i64 (R.u : Int), .int .i64 (R.m : Int)]) ∧ Below w'.heap.size w' w'') := fun w' => by
      have h := oplus_any ⟨1, g, 0, 0⟩ (Ct.mul k ((exB s.body).cut.add Ct.one).cut).cut ⟨(by decide : 1 ≤ 1000000), (by show g ≤ 1000000; omega), Nat.zero_le _, Nat.zero_le _⟩ (Bd.mono (Bd.cut _) (by decide)) w'
      rw [hE2] at h
      exact h
    clear hE hE2 hmm
    generalize (Ct.mul k ((exB s.body).cut.add Ct.one).cut).cut = M at HT6 HP6
    generalize ((exB s.body).cut.add Ct.one).cut = I at HT6 HPI
    generalize (exB s.body).cut = X1 at HPI HQ1
    unfold ctV at HPI
    have HT6' : Hid (∀ w', Calls Tryz.prog 114 #[.agg #[.int .i64 (I.s : Int), .int .i64 (I.g : Int), .int .i64 (I.u : Int), .int .i64 (I.m : Int)], .int .i64 (k : Int)] w' fun e w'' => e = .returned (ctV M) ∧ Below w'.heap.size w' w'') := HT6.out
    clear HT6
    have HT6 := HT6'
    clear HT6'
    rw [h6] at hq0
    have hq11 := HXf.out.cell 11
    simp only [List.getElem?_toArray, List.getElem?_cons_zero, List.getElem?_cons_succ] at hq11
    have HMX := Lib.hid hmx
    clear h5 h6 h3 h4 h7 hk hmx
    have HQ1' : Hid (∀ w', Below W2.heap.size W2 w' → Calls Tryz.prog 61 #[.slice a3 s.body.length c3] w' fun e w'' => e = .returned (.agg #[.int .i64 (X1.s : Int), .int .i64 (X1.g : Int), .int .i64 (X1.u : Int), .int .i64 (X1.m : Int)]) ∧ Below w'.heap.size w' w'') := HQ1.out
    obtain ⟨k0, k1, k2, k3, k4, k5, k6, k7⟩ := four_open HO.out
    go_wp2_with fail
    refine (HQ1'.out _ HBf.out).mono ?_; rintro e' w7 ⟨rfl, hb7⟩
    have HB7 := Lib.hid (below_2 HBf.out hb7)
    have HF7 := Lib.hid hb7
    clear hb7 hq0 hq11 k0 k1 k2 k3 k4 k5 k6 k7
    go_wp2_with fail
    refine (HPI.out _).mono ?_; rintro e' w8 ⟨rfl, hb8⟩
    have hb9 := below_box w8 (.cells #[.int .i64 (I.s : Int), .int .i64 (I.g : Int), .int .i64 (I.u : Int), .int .i64 (I.m : Int)] 57)
    have HI9 := Lib.hid (Bx.new w8 #[.int .i64 (I.s : Int), .int .i64 (I.g : Int), .int .i64 (I.u : Int), .int .i64 (I.m : Int)] 57)
    have HB8 := Lib.hid (below_2 (below_2 HB7.out hb8) hb9)
    have HF8 := Lib.hid (below_2 (below_2 HF7.out hb8) hb9)
    obtain ⟨W9, hW9⟩ : ∃ W9, w8.alloc (.cells #[.int .i64 (I.s : Int), .int .i64 (I.g : Int), .int .i64 (I.u : Int), .int .i64 (I.m : Int)] 57) = W9 := ⟨_, rfl⟩
    rw [hW9] at HI9 HB8 HF8
    have HW9 := Lib.hid hW9
    have HZ9 := Lib.hid (HZ.out.below HB8.out)
    have HO9 := Lib.hid (HO.out.below HF8.out)
    have HX9 := Lib.hid (HX.out.below HB8.out)
    have HB9 := Lib.hid (below_2 HB.out HB8.out)
    clear hb8 hb9 hW9
    go_upto_region 12 with fail
    rw [HW9.out]
    refine wp_region_inv rfl (fun l a w' => ∃ v0 v1 v2 v3 v4 v5 : Value, a = { tmps := #[Value.agg #[Value.int IntKind.i64 s.op, Value.string s.name, Value.int IntKind.i64 s.mx, Value.int IntKind.i64 s.a.op, Value.int IntKind.i64 s.a.n, Value.string s.a.s, Value.slice a1 s.a.args.length c1, Value.int IntKind.i64 s.b.op, Value.int IntKind.i64 s.b.n, Value.string s.b.s, Value.slice a2 s.b.args.length c2, Value.slice a3 s.body.length c3, Value.slice a4 s.els.length c4], Value.pointer (some { block := w.heap.size, off := 0 }), Value.pointer (some { block := w.heap.size + 1, off := 0 }), Value.pointer (some { block := b, off := 0 }), Value.pointer (some { block := w8.heap.size, off := 0 }), r0, r1, r2, r3, r4, r5, r6, r7, Value.pointer (some { block := w.heap.size, off := 0 }), Value.int IntKind.i64 6, Value.bool false, Value.bool false, Value.bool false, undef, Value.bool false, Value.bool false, undef, Value.bool false, Value.bool false, undef, undef, undef, undef, undef, undef, undef, undef, undef, Value.bool true, Value.bool true, Value.pointer (some { block := w.heap.size, off := 11 }), Value.slice a3 s.body.length c3, Value.agg #[Value.int IntKind.i64 ↑X1.s, Value.int IntKind.i64 ↑X1.g, Value.int IntKind.i64 ↑X1.u, Value.int IntKind.i64 ↑X1.m], Value.agg #[Value.int IntKind.i64 1, Value.int IntKind.i64 0, Value.int IntKind.i64 0, Value.int IntKind.i64 0], Value.agg #[Value.int IntKind.i64 ↑I.s, Value.int IntKind.i64 ↑I.g, Value.int IntKind.i64 ↑I.u, Value.int IntKind.i64 ↑I.m], v0, v1, v2, v3, v4, v5, undef], defers := [] } ∧ ((¬ On l 6 ∧ IS (FT [some (.agg #[.int .i64 1, .int .i64 (g : Int), .int .i64 0, .int .i64 0]), some (.agg #[.int .i64 (I.s : Int), .int .i64 (I.g : Int), .int .i64 (I.u : Int), .int .i64 (I.m : Int)]), some (.pointer (some ⟨w.heap.size, 2, none⟩)), some (.int .i64 (k : Int)), some (ctV M), some (.agg #[.int .i64 (R.s : Int), .int .i64 (R.g : Int), .int .i64 (R.u : Int), .int .i64 (R.m : Int)])] 57 #[.int .i64 0, .int .i64 0, .int .i64 0, .int .i64 0] (0)) W9 l w' [v0, v1, v2, v3, v4, v5]) ∨ (On l 6 ∧ (∀ j, j < 6 → On l j) ∧ Bx w' (w.heap.size + 1) #[.int .i64 (R.s : Int), .int .i64 (R.g : Int), .int .i64 (R.u : Int), .int .i64 (R.m : Int)] 57 ∧ Below w.heap.size w w'))) (by kernel_rfl) ?_ ?_ ?_
    · intro l hl
      exact ⟨_, _, _, _, _, _, rfl, Or.inl ⟨hl 6, IS.start _ _ hl _⟩⟩
    · rintro l a w' ⟨v0, v1, v2, v3, v4, v5, rfl, hF⟩ i hi h0 hall
      have hF2 : i < 6 → ¬ On l 6 ∧ IS (FT [some (.agg #[.int .i64 1, .int .i64 (g : Int), .int .i64 0, .int .i64 0]), some (.agg #[.int .i64 (I.s : Int), .int .i64 (I.g : Int), .int .i64 (I.u : Int), .int .i64 (I.m : Int)]), some (.pointer (some ⟨w.heap.size, 2, none⟩)), some (.int .i64 (k : Int)), some (ctV M), some (.agg #[.int .i64 (R.s : Int), .int .i64 (R.g : Int), .int .i64 (R.u : Int), .int .i64 (R.m : Int)])] 57 #[.int .i64 0, .int .i64 0, .int .i64 0, .int .i64 0] (0)) W9 l w' [v0, v1, v2, v3, v4, v5] := fun h => hF.resolve_right (fun z => off_of h0 (z.2.1 i h))
      match i, hi, h0, hall, hF2 with
      | 0, _, h0, hall, hF2 =>
        obtain ⟨hnm, F⟩ := hF2 (by decide)
        have HNm : Hid (¬ On (l.setIfInBounds 0 true) 6) := fun z => hnm (((on_set h0 6).1 z).resolve_left (by decide))
        clear hF hF2 hnm
        obtain ⟨q0, q1, q2, q3, q4, q5, q6, q7⟩ := four_open (HO9.out.below F.bel)
        have HF := Lib.hid (F.step FT.mono h0 (show 0 < 6 by decide) (Below.refl _ _) (x := .agg #[.int .i64 1, .int .i64 (g : Int), .int .i64 0, .int .i64 0]) rfl)
        clear F hall h0
        refine wpOp_step (by rfl) (fun K' hK => ?_)
        have HKk := Lib.hid hK
        clear hK
        go_simp
        exact HKk.out _ _ ⟨_, _, _, _, _, _, rfl, Or.inl ⟨HNm.out, HF.out⟩⟩
      | 1, _, h0, hall, hF2 =>
        obtain ⟨hnm, F⟩ := hF2 (by decide)
        have HNm : Hid (¬ On (l.setIfInBounds 1 true) 6) := fun z => hnm (((on_set h0 6).1 z).resolve_left (by decide))
        clear hF hF2 hnm
        obtain ⟨q0, q1, q2, q3, q4, q5, q6, q7⟩ := four_open (HI9.out.below F.bel)
        have HF := Lib.hid (F.step FT.mono h0 (show 1 < 6 by decide) (Below.refl _ _) (x := .agg #[.int .i64 (I.s : Int), .int .i64 (I.g : Int), .int .i64 (I.u : Int), .int .i64 (I.m : Int)]) rfl)
        clear F hall h0
        refine wpOp_step (by rfl) (fun K' hK => ?_)
        have HKk := Lib.hid hK
        clear hK
        go_simp
        exact HKk.out _ _ ⟨_, _, _, _, _, _, rfl, Or.inl ⟨HNm.out, HF.out⟩⟩
      | 2, _, h0, hall, hF2 =>
        obtain ⟨hnm, F⟩ := hF2 (by decide)
        have HNm : Hid (¬ On (l.setIfInBounds 2 true) 6) := fun z => hnm (((on_set h0 6).1 z).resolve_left (by decide))
        clear hF hF2 hnm
        have HF := Lib.hid (F.step FT.mono h0 (show 2 < 6 by decide) (Below.refl _ _) (x := .pointer (some ⟨w.heap.size, 2, none⟩)) rfl)
        clear F hall h0
        refine wpOp_step (by rfl) (fun K' hK => ?_)
        have HKk := Lib.hid hK
        clear hK
        go_simp
        exact HKk.out _ _ ⟨_, _, _, _, _, _, rfl, Or.inl ⟨HNm.out, HF.out⟩⟩
      | 3, _, h0, hall, hF2 =>
        obtain ⟨hnm, F⟩ := hF2 (by decide)
        have HNm : Hid (¬ On (l.setIfInBounds 3 true) 6) := fun z => hnm (((on_set h0 6).1 z).resolve_left (by decide))
        clear hF hF2 hnm
        obtain rfl : v2 = .pointer (some ⟨w.heap.size, 2, none⟩) := F.f 2 (hall 2 (by decide +kernel))
        have hxx := HX9.out.below F.bel
        have q2 := hxx.cell 2
        simp only [List.getElem?_toArray, List.getElem?_cons_zero, List.getElem?_cons_succ] at q2
        clear hxx
        rw [HMX.out] at q2
        have HF := Lib.hid (F.step FT.mono h0 (show 3 < 6 by decide) (Below.refl _ _) (x := .int .i64 (k : Int)) rfl)
        clear F hall h0
        refine wpOp_step (by rfl) (fun K' hK => ?_)
        have HKk := Lib.hid hK
        clear hK
        go_simp
        exact HKk.out _ _ ⟨_, _, _, _, _, _, rfl, Or.inl ⟨HNm.out, HF.out⟩⟩
      | 4, _, h0, hall, hF2 =>
        obtain ⟨hnm, F⟩ := hF2 (by decide)
        have HNm : Hid (¬ On (l.setIfInBounds 4 true) 6) := fun z => hnm (((on_set h0 6).1 z).resolve_left (by decide))
        clear hF hF2 hnm
        obtain rfl : v1 = .agg #[.int .i64 (I.s : Int), .int .i64 (I.g : Int), .int .i64 (I.u : Int), .int .i64 (I.m : Int)] := F.f 1 (hall 1 (by decide +kernel))
        obtain rfl : v3 = .int .i64 (k : Int) := F.f 3 (hall 3 (by decide +kernel))
        have HC := Lib.hid (HT6.out w')
        have HF := Lib.hid (fun w'' hb x hx => F.step FT.mono h0 (show 4 < 6 by decide) (w' := w'') hb (x := x) hx)
        clear F hall h0
        refine wpOp_step (by rfl) (fun K' hK => ?_)
        have HKk := Lib.hid hK
        clear hK
        go_simp
        go_at_call 114
        refine HC.out.mono ?_; rintro e' w5 ⟨rfl, hb5⟩
        have HF5 := Lib.hid (HF.out w5 hb5 (ctV M) rfl)
        exact HKk.out _ _ ⟨_, _, _, _, _, _, rfl, Or.inl ⟨HNm.out, HF5.out⟩⟩
      | 5, _, h0, hall, hF2 =>
        obtain ⟨hnm, F⟩ := hF2 (by decide)
        have HNm : Hid (¬ On (l.setIfInBounds 5 true) 6) := fun z => hnm (((on_set h0 6).1 z).resolve_left (by decide))
        clear hF hF2 hnm
        obtain rfl : v0 = .agg #[.int .i64 1, .int .i64 (g : Int), .int .i64 0, .int .i64 0] := F.f 0 (hall 0 (by decide +kernel))
        obtain rfl : v4 = ctV M := F.f 4 (hall 4 (by decide +kernel))
        have HC := Lib.hid (HP6.out w')
        have HF := Lib.hid (fun w'' hb x hx => F.step FT.mono h0 (show 5 < 6 by decide) (w' := w'') hb (x := x) hx)
        clear F hall h0
        refine wpOp_step (by rfl) (fun K' hK => ?_)
        have HKk := Lib.hid hK
        clear hK
        go_simp
        go_at_call 93
        refine HC.out.mono ?_; rintro e' w5 ⟨rfl, hb5⟩
        have HF5 := Lib.hid (HF.out w5 hb5 (.agg #[.int .i64 (R.s : Int), .int .i64 (R.g : Int), .int .i64 (R.u : Int), .int .i64 (R.m : Int)]) rfl)
        exact HKk.out _ _ ⟨_, _, _, _, _, _, rfl, Or.inl ⟨HNm.out, HF5.out⟩⟩
      | 6, _, h0, hall, _ =>
        obtain ⟨_, F⟩ := hF.resolve_right (fun z => off_of h0 z.1)
        obtain rfl : v5 = .agg #[.int .i64 (R.s : Int), .int .i64 (R.g : Int), .int .i64 (R.u : Int), .int .i64 (R.m : Int)] := F.f 5 (hall 5 (by decide +kernel))
        have hZZ := HZ9.out.below F.bel
        obtain ⟨q0, q1, q2, q3, q4, q5, q6, q7⟩ := four_open (hZZ)
        have HFin : Hid (On (l.setIfInBounds 6 true) 6 ∧ (∀ j, j < 6 → On (l.setIfInBounds 6 true) j) ∧ Bx ((((w'.setCell ⟨w.heap.size + 1, 0, none⟩ (.int .i64 (R.s : Int))).setCell ⟨w.heap.size + 1, 1, none⟩ (.int .i64 (R.g : Int))).setCell ⟨w.heap.size + 1, 2, none⟩ (.int .i64 (R.u : Int))).setCell ⟨w.heap.size + 1, 3, none⟩ (.int .i64 (R.m : Int))) (w.heap.size + 1) #[.int .i64 (R.s : Int), .int .i64 (R.g : Int), .int .i64 (R.u : Int), .int .i64 (R.m : Int)] 57 ∧ Below w.heap.size w ((((w'.setCell ⟨w.heap.size + 1, 0, none⟩ (.int .i64 (R.s : Int))).setCell ⟨w.heap.size + 1, 1, none⟩ (.int .i64 (R.g : Int))).setCell ⟨w.heap.size + 1, 2, none⟩ (.int .i64 (R.u : Int))).setCell ⟨w.heap.size + 1, 3, none⟩ (.int .i64 (R.m : Int)))) :=
          ⟨(on_set h0 6).2 (Or.inl rfl), (fun j hj => by
            refine (on_set h0 j).2 (Or.inr (hall j ?_))
            revert hj
            revert j
            decide +kernel), four_set hZZ _ _ _ _, four_below (below_2 HB9.out F.bel) (Nat.le_succ _) _ _ _ _⟩
        clear F hall h0 hF hF2
        clear hZZ
        refine wpOp_step (by rfl) (fun K' hK => ?_)
        have HKk := Lib.hid hK
        clear hK
        go_simp
        exact HKk.out _ _ ⟨_, _, _, _, _, _, rfl, Or.inr HFin.out⟩
      | i + 7, hi, _, _, _ => exact absurd hi (by show ¬ (i + 7 < 7); omega)
    rintro l9 a wz ⟨t0, t1, t2, t3, t4, t5, rfl, hF⟩ hall
    obtain ⟨_, _, hZ, hBl⟩ := hF.resolve_left (fun z => z.1 (hall 6 (by decide)))
    clear hF hall
    obtain ⟨hz, hbel⟩ : Bx wz (w.heap.size + 1) #[.int .i64 (R.s : Int), .int .i64 (R.g : Int), .int .i64 (R.u : Int), .int .i64 (R.m : Int)] 57 ∧ Below w.heap.size w wz := ⟨hZ, hBl⟩
    have q0 := hz.cell 0
    have q1 := hz.cell 1
    have q2 := hz.cell 2
    have q3 := hz.cell 3
    simp only [List.getElem?_toArray, List.getElem?_cons_zero, List.getElem?_cons_succ] at q0 q1 q2 q3
    clear hz hZ hBl
    go_wp2_with fail
    refine bodyPost_ret (v := .agg #[.int .i64 (R.s : Int), .int .i64 (R.g : Int), .int .i64 (R.u : Int), .int .i64 (R.m : Int)]) (by simp [results, Tryz.results94, go_sem, q0, q1, q2, q3]) rfl ?_
    exact ⟨rfl, hbel⟩
  have hE : (Ct.add ⟨1, g, 0, 0⟩ Ct.z).cut = R := by rw [← HR.out, if_neg (fun h => h.elim h3 h4), if_neg h7, if_neg h5, if_neg h6]
  have hRv : R = ⟨1, g, 0, 0⟩ := by rw [← hE]; refine Ct.eq ?_ ?_ ?_ ?_ <;> (simp only [Ct.cut, Ct.add, Ct.z]; omega)
  clear hE
  subst hRv
  obtain ⟨k0, k1, k2, k3, k4, k5, k6, k7⟩ := four_open HO.out
  obtain ⟨d0, d1, d2, d3, d4, d5, d6, d7⟩ := four_open HZf.out
  have b3 : (s.op == 3) = false := beq_eq_false_iff_ne.2 h3
  have b4 : (s.op == 4) = false := beq_eq_false_iff_ne.2 h4
  have b7 : (s.op == 7) = false := beq_eq_false_iff_ne.2 h7
  have b5 : (s.op == 5) = false := beq_eq_false_iff_ne.2 h5
  have b6 : (s.op == 6) = false := beq_eq_false_iff_ne.2 h6
  clear h3 h4 h7 h5 h6
  have hz0 := HZf.out
  have hz := four_set hz0 (.int .i64 1) (.int .i64 (g : Int)) (.int .i64 0) (.int .i64 0)
  have q0 := hz.cell 0
  have q1 := hz.cell 1
  have q2 := hz.cell 2
  have q3 := hz.cell 3
  simp only [List.getElem?_toArray, List.getElem?_cons_zero, List.getElem?_cons_succ] at q0 q1 q2 q3
  clear hz hz0
  go_wp2_with fail
  refine bodyPost_ret (v := .agg #[.int .i64 1, .int .i64 (g : Int), .int .i64 0, .int .i64 0]) (by simp [results, Tryz.results94, go_sem, q0, q1, q2, q3]) rfl ?_
  exact ⟨rfl, four_below HBw.out (Nat.le_succ _) _ _ _ _⟩
end Go.Proofs.YtkjefigebdbkaaaGreatDoor.Q
