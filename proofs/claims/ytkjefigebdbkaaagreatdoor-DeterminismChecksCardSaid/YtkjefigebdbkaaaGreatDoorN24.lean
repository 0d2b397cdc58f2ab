/-
  What the program's functions of layer 12 return: First: its contract.
  What the program's functions of layer 11 return for every procedure: check, Check: contracts.
  What the program's function Check of layer 12 returns: its contract.
  The law package of layer 12: the examples: contract.
  The reference of layer 12: Check: a contract. The laws of layer 12: Check and First return what the reference says.
-/
import Derived.Test.YtkjefigebdbkaaaGreatDoorN23
import Derived.Test.YtkjefigebdbkaaaGreatDoorN13
import Derived.Test.YtkjefigebdbkaaaGreatDoorN18
import Derived.Test.YtkjefigebdbkaaaGreatDoorN15
import Derived.Test.YtkjefigebdbkaaaGreatDoorN19
import Derived.Test.YtkjefigebdbkaaaGreatDoorN12
import Derived.Test.YtkjefigebdbkaaaGreatDoorN10
import Derived.Test.YtkjefigebdbkaaaGreatDoorN07
import Derived.Test.YtkjefigebdbkaaaGreatDoorN22
import Derived.Lib.QuietBelow
import Derived.BigQuiet
namespace Go.Proofs.YtkjefigebdbkaaaGreatDoor.N
open Go.RowKit Go.Shelf
open A (Ex Pr exprs exV exO okE prV prO OkP PrIn GivesXs)
open L (below_2 below_box ret_bool)
attribute [local go_sem] Oper.semAt_some

set_option maxHeartbeats 2000000 in
theorem leave_first {R : Int × Int × Bool} {w W : World} (l : List Nat) {t0 t1 t5 t6 t7 t8 t9 t10 t11 t12 t13 t14 t15 t16 t17 t18 t19 t20 t21 t22 t23 t24 t25 t26 t27 t28 t29 t30 : Value} (hM : Marks w.heap.size l W) (hT : Three w.heap.size (.int .i64 R.1) (.int .i64 R.2.1) (.bool R.2.2) 3 3 4 W) (hB : Below w.heap.size w W) :
    LeavesInM Fence.wide 9 Tryz.prog Tryz.f6 #[t0, t1, .pointer (some ⟨w.heap.size + 1, 0, none⟩), .pointer (some ⟨w.heap.size + 1 + 1, 0, none⟩), .pointer (some ⟨w.heap.size + 1 + 1 + 1, 0, none⟩), t5, t6, t7, t8, t9, t10, t11, t12, t13, t14, t15, t16, t17, t18, t19, t20, t21, t22, t23, t24, t25, t26, t27, t28, t29, t30]
      (fun e' w' => e' = .returned (.tuple #[.int .i64 R.1, .int .i64 R.2.1, .bool R.2.2]) ∧ Below w.heap.size w w') (l.map mark) .returning W := by
  refine leaves_marks l W hM fun W' hb hc => ?_
  have hT' := hT.kept hc
  have c1 := cell_blk hT'.c1 0
  have c2 := cell_blk hT'.c2 0
  have c3 := cell_blk hT'.c3 0
  simp at c1 c2 c3
  refine ⟨.tuple #[.int .i64 R.1, .int .i64 R.2.1, .bool R.2.2], ?_, rfl, hB.trans hb⟩
  simp [results, Tryz.f6, go_sem, c1, c2, c3]
structure FR (w w7 : World) (b : Nat) (xs : List Ex) (k : Nat) (ds : List Nat) (wr : World) : Prop where
  le : k ≤ xs.length
  non : noneN xs k
  ob : OB b w7 wr
  box : wr.heap[b]? = some (.cells #[.int .i64 ((lenN xs k : Nat) : Int)] 3)
  marks : Marks w.heap.size ds wr
theorem Marks.lt {n : Nat} {l : List Nat} {W : World} (h : Marks n l W) : ∀ x ∈ l, x < W.heap.size := fun x hx => (Array.getElem?_eq_some_iff.1 (h.each x hx).2).1
set_option maxHeartbeats 16000000 in
set_option maxRecDepth 100000 in
theorem oFirst_any (p : Pr) (a1 a2 : Option Addr) (c1 c2 : Nat)
    (hV : ∀ w, PrIn w p a1 a2 → Calls Tryz.prog 17 #[prV p a1 c1 a2 c2] w fun e' w' => e' = .returned (.int .i64 (A.valE p)) ∧ Below w.heap.size w w')
    (hX : A.valE p = 0 → ∀ w, PrIn w p a1 a2 → Calls Tryz.prog 18 #[prV p a1 c1 a2 c2] w fun e' w' => GivesXs w (exprs p) e' w')
    (hE : A.valE p = 0 → ∀ e ∈ exprs p, okE e) (w : World) (hK : PrIn w p a1 a2) :
    Calls Tryz.prog 6 #[prV p a1 c1 a2 c2] w fun e' w' => e' = .returned (.tuple #[.int .i64 (firstN p).1, .int .i64 (firstN p).2.1, .bool (firstN p).2.2]) ∧ Below w.heap.size w w' := by
  refine (callsIn_wide (n := 9)).1 ?_
  refine callsIn_of_wp_marks Tryz.func6 rfl trivial ?_ rfl
  simp only [Tryz.ntmps6, List.size_toArray, List.length_cons, List.length_nil, Nat.reduceAdd, Nat.reduceSub, Array.replicate_succ, Array.replicate_zero, List.push_toArray, List.append_toArray, List.nil_append, List.cons_append]
  have hb1 := below_box w (prO p a1 c1 a2 c2)
  have hb2 := below_box (w.alloc (prO p a1 c1 a2 c2)) (.cells #[.int .i64 0] 3)
  have hb3 := below_box ((w.alloc (prO p a1 c1 a2 c2)).alloc (.cells #[.int .i64 0] 3)) (.cells #[.int .i64 0] 3)
  have hb4 := below_box (((w.alloc (prO p a1 c1 a2 c2)).alloc (.cells #[.int .i64 0] 3)).alloc (.cells #[.int .i64 0] 3)) (.cells #[.bool false] 4)
  have hB4 := below_2 (below_2 (below_2 hb1 hb2) hb3) hb4
  obtain ⟨W4, hW4⟩ : ∃ W4, (((w.alloc (prO p a1 c1 a2 c2)).alloc (.cells #[.int .i64 0] 3)).alloc (.cells #[.int .i64 0] 3)).alloc (.cells #[.bool false] 4) = W4 := ⟨_, rfl⟩
  have s1 : (w.alloc (prO p a1 c1 a2 c2)).heap.size = w.heap.size + 1 := by simp
  have s2 : ((w.alloc (prO p a1 c1 a2 c2)).alloc (.cells #[.int .i64 0] 3)).heap.size = w.heap.size + 1 + 1 := by simp
  have s3 : (((w.alloc (prO p a1 c1 a2 c2)).alloc (.cells #[.int .i64 0] 3)).alloc (.cells #[.int .i64 0] 3)).heap.size = w.heap.size + 1 + 1 + 1 := by simp
  have s4 : W4.heap.size = w.heap.size + 4 := by rw [← hW4]; simp
  have k0 : W4.heap[w.heap.size]? = some (prO p a1 c1 a2 c2) := by
    rw [← hW4]
    exact (hb4.block _ (by omega)).trans ((hb3.block _ (by omega)).trans ((hb2.block _ (by omega)).trans (World.alloc_heap_new w _)))
  have k1 : W4.heap[w.heap.size + 1]? = some (.cells #[.int .i64 0] 3) := by
    have := World.alloc_heap_new (w.alloc (prO p a1 c1 a2 c2)) (.cells #[.int .i64 0] 3)
    rw [s1] at this
    rw [← hW4]
    exact (hb4.block _ (by omega)).trans ((hb3.block _ (by omega)).trans this)
  have k2 : W4.heap[w.heap.size + 1 + 1]? = some (.cells #[.int .i64 0] 3) := by
    have := World.alloc_heap_new ((w.alloc (prO p a1 c1 a2 c2)).alloc (.cells #[.int .i64 0] 3)) (.cells #[.int .i64 0] 3)
    rw [s2] at this
    rw [← hW4]
    exact (hb4.block _ (by omega)).trans this
  have k3 : W4.heap[w.heap.size + 1 + 1 + 1]? = some (.cells #[.bool false] 4) := by
    have := World.alloc_heap_new (((w.alloc (prO p a1 c1 a2 c2)).alloc (.cells #[.int .i64 0] 3)).alloc (.cells #[.int .i64 0] 3)) (.cells #[.bool false] 4)
    rw [s3] at this
    rw [← hW4]
    exact this
  rw [hW4] at hB4
  have HVa := Lib.hid (hV W4 (hK.below hB4))
  have HXp := Lib.hid hX
  have HE := Lib.hid hE
  have HK4 := Lib.hid (hK.below hB4)
  have HB4 := Lib.hid hB4
  have HK0 := Lib.hid k0
  have HTh : Hid (Three w.heap.size (.int .i64 0) (.int .i64 0) (.bool false) 3 3 4 W4) := ⟨k1, k2, k3⟩
  have HS4 := Lib.hid s4
  have HFN : Hid (firstN p = if A.valE p ≠ 0 then (0, 0, false) else fstF 0 ((exprs p).flatMap ops)) := rfl
  have x0 : W4.cell? ⟨w.heap.size, 0, none⟩ = some (.string p.name) := by simpa [prO] using cell_blk (show W4.heap[w.heap.size]? = some (.cells _ _) from k0) 0
  have x1 : W4.cell? ⟨w.heap.size, 1, none⟩ = some (.slice a1 p.params.length c1) := by simpa [prO] using cell_blk (show W4.heap[w.heap.size]? = some (.cells _ _) from k0) 1
  have x2 : W4.cell? ⟨w.heap.size, 2, none⟩ = some (.slice a2 p.body.length c2) := by simpa [prO] using cell_blk (show W4.heap[w.heap.size]? = some (.cells _ _) from k0) 2
  generalize hR : firstN p = R at HFN ⊢
  unfold prV at *
  unfold prO at hW4
  rw [← hW4] at x0 x1 x2
  have HW4 := Lib.hid hW4
  clear hb1 hb2 hb3 hb4 hB4 s1 s2 s3 s4 k0 k1 k2 k3 hK hV hX hE hR hW4
  gi_wp2_with fail
  refine ⟨trivial, ?_⟩
  rw [HW4.out] at x0 x1 x2 ⊢
  refine (callsIn_wide.2 HVa.out).mono ?_; rintro e' w5 ⟨rfl, hb5⟩
  have hth5 := HTh.out.kept (W' := w5) (fun k o hk _ => (hb5.block k (Array.getElem?_eq_some_iff.1 hk).1).trans hk)
  have q1 : w5.cell? ⟨w.heap.size + 1, 0, none⟩ = some (.int .i64 0) := cell_blk hth5.c1 0
  have q2 : w5.cell? ⟨w.heap.size + 1 + 1, 0, none⟩ = some (.int .i64 0) := cell_blk hth5.c2 0
  have q3 : w5.cell? ⟨w.heap.size + 1 + 1 + 1, 0, none⟩ = some (.bool false) := cell_blk hth5.c3 0
  have r1 := frozen_blk hth5.c1
  have r2 := frozen_blk hth5.c2
  have r3 := frozen_blk hth5.c3
  have HT5 := Lib.hid hth5
  have HB5 := Lib.hid (below_2 HB4.out hb5)
  by_cases h0 : A.valE p = 0
  case neg =>
    have b1 : (A.valE p != 0) = true := bne_iff_ne.2 h0
    have HR : Hid (R = (0, 0, false)) := by show _ = _; rw [HFN.out, if_pos h0]
    clear h0 x0 x1 x2 hb5 hth5
    gi_wp2
    refine leave_first (R := R) (w := w) [] (Marks.nil _ _) ?_ ?_
    · rw [HR.out]; exact HT5.out.set
    · exact set3_below' HB5.out (Nat.le_refl _)
  have hb50 := hb5
  have hbx := below_box w5 (.cells #[.int .i64 0] 3)
  have y0 := (hb5.cell (p := ⟨w.heap.size, 0, none⟩) (by show w.heap.size < W4.heap.size; have := HS4.out; omega)).trans x0
  have y1 := (hb5.cell (p := ⟨w.heap.size, 1, none⟩) (by show w.heap.size < W4.heap.size; have := HS4.out; omega)).trans x1
  have y2 := (hb5.cell (p := ⟨w.heap.size, 2, none⟩) (by show w.heap.size < W4.heap.size; have := HS4.out; omega)).trans x2
  have HXc := Lib.hid (HXp.out h0 (w5.alloc (.cells #[.int .i64 0] 3)) ((HK4.out.below hb5).below hbx))
  have HEe := Lib.hid (HE.out h0)
  have HR : Hid (R = fstF 0 ((exprs p).flatMap ops)) := by show _ = _; rw [HFN.out, if_neg (fun x => x h0)]
  have HB6 := Lib.hid (below_2 HB5.out hbx)
  have HLN : Hid (((exprs p).flatMap ops).length ≤ 400) := allOps_len h0
  have hxl : (exprs p).length ≤ 400 := Nat.le_trans (A.exprs_count p) (A.val_parts h0).2.2.2
  rw [h0]
  have HT6 := Lib.hid (HT5.out.kept (W' := w5.alloc (.cells #[.int .i64 0] 3)) (fun k o hk _ => (Below.heap_alloc _ _ _ (Array.getElem?_eq_some_iff.1 hk).1).trans hk))
  have HBX : Hid ((w5.alloc (.cells #[.int .i64 0] 3)).heap[w5.heap.size]? = some (.cells #[.int .i64 0] 3)) := World.alloc_heap_new _ _
  have HZ5 : Hid (w.heap.size + 4 ≤ w5.heap.size) := by have h1 := hb5.size; have h2 := HS4.out; show _ ≤ _; omega
  have y0' := (hbx.cell (block_lt_of_cell y0)).trans y0
  have y1' := (hbx.cell (block_lt_of_cell y1)).trans y1
  have y2' := (hbx.cell (block_lt_of_cell y2)).trans y2
  clear x0 x1 x2 hb5 hb50 hth5 h0 q1 q2 q3 r1 r2 r3 y0 y1 y2 HVa HXp HE HK4 HK0 HTh HFN hbx
  gi_wp2_with fail
  refine ⟨trivial, ?_⟩
  refine (callsIn_wide.2 HXc.out).mono ?_
  rintro e' w7 ⟨px, qx, rfl, hk7, hb7⟩
  have HB7 := Lib.hid (below_2 HB6.out hb7)
  have HK7 := Lib.hid hk7
  have HT7 := Lib.hid (HT6.out.kept (W' := w7) (fun k o hk _ => (hb7.block k (Array.getElem?_eq_some_iff.1 hk).1).trans hk))
  have HBX7 : Hid (w7.heap[w5.heap.size]? = some (.cells #[.int .i64 0] 3)) := (hb7.block _ (Array.getElem?_eq_some_iff.1 HBX.out).1).trans HBX.out
  have HZ7 : Hid (w5.heap.size < w7.heap.size) := (Array.getElem?_eq_some_iff.1 HBX7.out).1
  clear hk7 hb7 y0' y1' y2' HXc
  have HN := Lib.hid (fun (e : Ex) (a : Option Addr) (c : Nat) (w' : World) => onodes_any e a c w')
  unfold exV exO at HN
  gi_wp2_with fail
  generalize hEP : (Value.agg #[.string p.name, .slice a1 p.params.length c1, .slice a2 p.body.length c2]) = EP
  clear hEP HW4 HB4 HS4 HT5 HB6 HT6 HBX
  refine wpIn_loop (fun a' wr => ∃ (k : Nat) (ds : List Nat) (u7 u16 u17 u18 u19 u20 u30 : Value), FR w w7 w5.heap.size (exprs p) k ds wr ∧ a' = { tmps := #[EP, .pointer (some ⟨w.heap.size, 0, none⟩), .pointer (some ⟨w.heap.size + 1, 0, none⟩), .pointer (some ⟨w.heap.size + 1 + 1, 0, none⟩), .pointer (some ⟨w.heap.size + 1 + 1 + 1, 0, none⟩), .pointer (some ⟨w5.heap.size, 0, none⟩), undef, u7, undef, EP, .int .i64 0, .bool false, EP, .slice px (exprs p).length qx, .int .i64 (exprs p).length, .int .i64 k, u16, u17, u18, u19, u20, undef, undef, undef, undef, undef, undef, undef, undef, undef, u30], defers := ds.map mark }) (fun a' _ => (exprs p).length - (intOf (a'.tmps.getD 15 undef)).toNat) ?start ?round
  case start =>
    exact ⟨0, [], undef, undef, undef, undef, undef, undef, undef, ⟨Nat.zero_le _, noneN_zero _, OB.refl _ _, HBX7.out, Marks.nil _ _⟩, rfl⟩
  case round =>
    rintro a' wr ⟨k, ds, u7, u16, u17, u18, u19, u20, u30, hrel, rfl⟩
    have hzr : w7.heap.size ≤ wr.heap.size := hrel.ob.size
    by_cases hlt : k < (exprs p).length
    · obtain ⟨b2, i2, rfl, hat⟩ := (kids_other HBX7.out hrel.ob HK7.out).open hlt
      obtain ⟨d0, d1, d2, a3, c3, d3, hk3⟩ := hat.open
      have HREL := Lib.hid hrel
      have HK3 := Lib.hid hk3
      have HOK := Lib.hid (HEe.out _ (List.getElem_mem hlt))
      have HLT := Lib.hid hlt
      have HLK : Hid (lenN (exprs p) k + (ops (exprs p)[k]).length ≤ 400) := by
        have h1 := lenN_le (l := exprs p) (k + 1)
        have h2 := HLN.out
        have h3 : lenN (exprs p) (k + 1) = lenN (exprs p) k + (ops (exprs p)[k]).length := by unfold lenN; rw [take_flat hlt]; exact List.length_append
        show _ ≤ _
        omega
      have HNe := Lib.hid (HN.out (exprs p)[k] a3 c3)
      clear hrel hat hk3
      generalize hek : (exprs p)[k] = ek at *
      have HEK := Lib.hid hek
      clear hek
      obtain ⟨eo, en, es, el⟩ := ek
      simp only [Ex.op, Ex.n, Ex.s, Ex.args] at d0 d1 d2 d3 HNe
      have hb1 := below_box wr (.cells #[.int .i64 eo, .int .i64 en, .string es, .slice a3 el.length c3] 41)
      have hb2 := below_box (wr.alloc (.cells #[.int .i64 eo, .int .i64 en, .string es, .slice a3 el.length c3] 41)) (.cells #[.int .i64 eo, .int .i64 en, .string es, .slice a3 el.length c3] 41)
      have s1 : (wr.alloc (.cells #[.int .i64 eo, .int .i64 en, .string es, .slice a3 el.length c3] 41)).heap.size = wr.heap.size + 1 := by simp
      have c3' := World.alloc_heap_new (wr.alloc (.cells #[.int .i64 eo, .int .i64 en, .string es, .slice a3 el.length c3] 41)) (.cells #[.int .i64 eo, .int .i64 en, .string es, .slice a3 el.length c3] 41)
      rw [s1] at c3'
      have hbb := below_2 hb1 hb2
      obtain ⟨W0, hW0⟩ : ∃ W0, (wr.alloc (.cells #[.int .i64 eo, .int .i64 en, .string es, .slice a3 el.length c3] 41)).alloc (.cells #[.int .i64 eo, .int .i64 en, .string es, .slice a3 el.length c3] 41) = W0 := ⟨_, rfl⟩
      have hs0 : W0.heap.size = wr.heap.size + 2 := by rw [← hW0]; simp
      rw [hW0] at c3' hbb
      have HC3 : Hid (W0.heap[wr.heap.size + 1]? = some (exO (.mk eo en es el) a3 c3)) := c3'
      have HBB := Lib.hid hbb
      have HW0 := Lib.hid hW0
      have HK0 : Hid (A.Kids W0 a3 (Ex.mk eo en es el).args) := HK3.out.below hbb
      clear hb1 hb2 s1 c3' hbb hW0
      gi_wp2_with fail
      refine ⟨trivial, ?_⟩
      refine (callsIn_wide.2 (HNe.out _)).mono ?_
      rintro e' w' ⟨rfl, rfl⟩
      gi_wp2_with fail
      rw [HW0.out]
      clear d0 d1 d2 d3 HNe HW0
      refine wpIn_rangeFunc_ownH (F := Fence.wide) (n := 9) rfl (by decide) (gf := 45) (lb := #[.pointer (some ⟨wr.heap.size + 1, 0, none⟩)]) rfl trivial (enters_of Tryz.func45 (by kernel_rfl) rfl)
        (nodes_stops (some w5.heap.size) Fence.wide rfl 8 trivial trivial rfl (wr.heap.size + 1) (.mk eo en es el) a3 c3 W0 HOK.out HC3.out HK0.out (fun g e => by cases e; exact ⟨_, _, (HBB.out.block _ (Array.getElem?_eq_some_iff.1 HREL.out.box).1).trans HREL.out.box⟩)) (fun h k => h.trans k) (KC.putObj (Nat.le_refl _)) (Below.refl _ _) (fun _ => rfl)
        (fun pre W => (((W.heap[w5.heap.size]? = some (.cells #[.int .i64 ((lenN (exprs p) k + pre.length : Nat) : Int)] 3) ∧ (∀ x ∈ pre, isN x.op = false)) ∧ W0.heap.size ≤ W.heap.size) ∧ OB w5.heap.size w7 W) ∧ Marks w.heap.size ds W)
        (fun c pre W => ((c = .ret ∧ Below w.heap.size w W) ∧ Marks w.heap.size ds W) ∧ ∃ pre' x, (pre = pre' ++ [x] ∧ isN x.op = true ∧ ∀ y ∈ pre', isN y.op = false) ∧ Three w.heap.size (.int .i64 x.op) (.int .i64 ((lenN (exprs p) k + pre'.length : Nat) : Int)) (.bool true) 3 3 4 W)
        (OwnFrom.and (OwnFrom.and (OwnFrom.and (OwnFrom.and (own_cells (o := fun (pre : List Nd) => .cells #[.int .i64 ((lenN (exprs p) k + pre.length : Nat) : Int)] 3) fun _ => rfl) (ownFrom_pure _ _)) own_size) (own_OB (by omega))) (own_marks (fun x hx => by have := HREL.out.marks.lt x hx; omega)))
        (fun c => OwnFrom.and (OwnFrom.and (OwnFrom.and (ownFrom_pure _ (fun _ => c = Code.ret)) (ownFrom_below (Nat.le_refl _) (by have := HZ5.out; have := HZ7.out; omega))) (own_marks (fun x hx => by have := HREL.out.marks.lt x hx; omega)))
          (fun s X Y row ⟨pre', x, h1, h2⟩ hg hr => ⟨pre', x, h1, own_three (x := fun (_ : Unit) => .int .i64 x.op) (y := fun _ => .int .i64 ((lenN (exprs p) k + pre'.length : Nat) : Int)) (z := fun _ => .bool true) () X Y row h2 hg hr⟩))
        ⟨⟨⟨⟨(HBB.out.block _ (Array.getElem?_eq_some_iff.1 HREL.out.box).1).trans HREL.out.box, fun x hx => absurd hx List.not_mem_nil⟩, Nat.le_refl _⟩, HREL.out.ob.trans (OB.of_below HBB.out)⟩, HREL.out.marks.kept (fun k o hk _ => (HBB.out.block k (Array.getElem?_eq_some_iff.1 hk).1).trans hk)⟩
        (fun x a' W => ∃ Bx v7 v16 v17 v18 v19 v20 v30, W.heap[Bx]? = some (exO x.e x.a x.c) ∧ a' = { tmps := #[EP, .pointer (some ⟨w.heap.size, 0, none⟩), .pointer (some ⟨w.heap.size + 1, 0, none⟩), .pointer (some ⟨w.heap.size + 1 + 1, 0, none⟩), .pointer (some ⟨w.heap.size + 1 + 1 + 1, 0, none⟩), .pointer (some ⟨w5.heap.size, 0, none⟩), undef, v7, .pointer (some ⟨Bx, 0, none⟩), EP, .int .i64 0, .bool false, EP, .slice (some ⟨b2, i2, none⟩) (exprs p).length qx, .int .i64 (exprs p).length, .int .i64 k, v16, v17, v18, v19, v20, x.v, undef, undef, undef, undef, undef, undef, undef, undef, v30], defers := [] })
        (fun x a' s X Y row ⟨Bx, v7, v16, v17, v18, v19, v20, v30, h1, h2⟩ hg hr => ⟨Bx, v7, v16, v17, v18, v19, v20, v30, own_cells (k := Bx) (o := fun (_ : Unit) => exO x.e x.a x.c) (fun _ => rfl) () X Y row h1 hg hr, h2⟩) ?assign ?body ?done ?stop
      case assign =>
        rintro l pre x W K ⟨⟨⟨⟨hc, hp⟩, hz⟩, hO⟩, hM⟩ hKK
        have HKK := Lib.hid hKK
        have HX : Hid (∀ Y, W.alloc (exO x.e x.a x.c) = Y → KeepsFrom W0.heap.size W Y ∧ KC (some w5.heap.size) W0.heap.size W0.heap.size W Y ∧ ((((Y.heap[w5.heap.size]? = some (.cells #[.int .i64 ((lenN (exprs p) k + pre.length : Nat) : Int)] 3) ∧ (∀ x ∈ pre, isN x.op = false)) ∧ W0.heap.size ≤ Y.heap.size) ∧ OB w5.heap.size w7 Y) ∧ Marks w.heap.size ds Y) ∧ Y.heap[W.heap.size]? = some (exO x.e x.a x.c)) := by
          rintro Y rfl
          have hal : ∀ (k : Nat) (o : Obj), W.heap[k]? = some o → (W.alloc (exO x.e x.a x.c)).heap[k]? = some o := fun k o h => (Below.heap_alloc _ _ _ (Array.getElem?_eq_some_iff.1 h).1).trans h
          exact ⟨(KeepsOthers.alloc _ _).from _, KC.alloc W hz _, ⟨⟨⟨⟨hal _ _ hc, hp⟩, by simp; omega⟩, hO.trans (OB.of_below (below_box W _))⟩, hM.kept fun k o h _ => hal k o h⟩, World.alloc_heap_new W _⟩
        clear hc hp hz hO hM hKK
        unfold exO at HX
        unfold Nd.v exV
        gi_wp2
        obtain ⟨h1, h2, h3, h4⟩ := HX.out _ rfl
        exact HKK.out _ _ h1 h2 h3 ⟨W.heap.size, _, _, _, _, _, _, _, h4, rfl⟩
      case body =>
        rintro l pre x a' W hl ⟨r, hr⟩ ⟨⟨⟨⟨hc, hp⟩, hz⟩, hO⟩, hM⟩ ⟨Bx, v7, v16, v17, v18, v19, v20, v30, bX, rfl⟩ hlt
        have HC := Lib.hid hc
        have HP := Lib.hid hp
        have HZ := Lib.hid hz
        have HO := Lib.hid hO
        have HM := Lib.hid hM
        have x0 : W.cell? ⟨Bx, 0, none⟩ = some (.int .i64 x.e.op) := cell_blk bX 0
        have hth := HT7.out.kept2 hO (by have := HZ5.out; omega) (by have := HZ5.out; omega) (by have := HZ5.out; omega)
        have HTh := Lib.hid hth
        have q1 : W.cell? ⟨w.heap.size + 1, 0, none⟩ = some (.int .i64 0) := cell_blk hth.c1 0
        have q2 : W.cell? ⟨w.heap.size + 1 + 1, 0, none⟩ = some (.int .i64 0) := cell_blk hth.c2 0
        have q3 : W.cell? ⟨w.heap.size + 1 + 1 + 1, 0, none⟩ = some (.bool false) := cell_blk hth.c3 0
        have r1 := frozen_blk hth.c1
        have r2 := frozen_blk hth.c2
        have r3 := frozen_blk hth.c3
        have q5 : W.cell? ⟨w5.heap.size, 0, none⟩ = some (.int .i64 ((lenN (exprs p) k + pre.length : Nat) : Int)) := cell_blk hc 0
        have r5 := frozen_blk hc
        have hbw : Below w.heap.size w W := HB7.out.trans (hO.below (by have := HZ5.out; omega) HB7.out.size)
        have HBW := Lib.hid hbw
        have HI1 := Lib.hid (fun (w' : World) => oisN_any x.e.op w')
        have hnn : lenN (exprs p) k + pre.length ≤ 400 := by have := HLK.out; omega
        have HNN : Hid ((((lenN (exprs p) k + pre.length : Nat) : Int) + 1) = ((lenN (exprs p) k + (pre ++ [x]).length : Nat) : Int)) := by
          show _ = _
          simp only [List.length_append, List.length_cons, List.length_nil]
          omega
        generalize hnq : lenN (exprs p) k + pre.length = nn at *
        have HNQ := Lib.hid hnq
        clear hnq
        have hnn0 : (0 : Int) ≤ (nn : Int) := by omega
        have hnn1 : (nn : Int) ≤ 400 := by omega
        obtain ⟨b, hb⟩ : ∃ b, isN x.e.op = b := ⟨_, rfl⟩
        rw [hb] at HI1
        have HBD : Hid (isN x.op = b) := hb
        clear hc hp hz hO hM bX hr hl hlt hth hbw hb
        cases b with
        | true =>
          have HNc : Hid (w.heap.size + 1 + 1 + 1 < w5.heap.size) := by have := HZ5.out; show _ < _; omega
          gi_wp2_with (refine ⟨trivial, ?_⟩; gi_at_call 20; refine (CallsIn.inRound l (callsIn_wide.2 (HI1.out _))).mono ?_; rintro e' w' ⟨rfl, rfl⟩)
          have hmx : Tryz.prog.follows .mixedOrders = true := by kernel_rfl
          have n1 : ¬ (w5.heap.size = w.heap.size + 1) := by have := HZ5.out; omega
          have n2 : ¬ (w.heap.size + 1 = w5.heap.size) := by have := HZ5.out; omega
          gi_region_with_o (fail)
          all_goals gi_wp2
          all_goals (try go_bits)
          all_goals
            have h3 : Three w.heap.size (.int .i64 x.e.op) (.int .i64 (nn : Int)) (.bool true) 3 3 4 _ := HTh.out.set
            refine ⟨((set3_others W).trans (KeepsOthers.drew _)).from _, ⟨⟨rfl, (set3_below' HBW.out (Nat.le_refl _)).drew⟩, HM.out.kept (fun k o h ho => ((set3_others W).trans (KeepsOthers.drew _)).same k o h ho)⟩, pre, x, ⟨rfl, HBD.out, HP.out⟩, ?_⟩
            rw [HNQ.out]
            exact ⟨h3.c1, h3.c2, h3.c3⟩
        | false =>
          gi_wp2_with (refine ⟨trivial, ?_⟩; gi_at_call 20; refine (CallsIn.inRound l (callsIn_wide.2 (HI1.out _))).mono ?_; rintro e' w' ⟨rfl, rfl⟩)
          rw [HNN.out]
          exact ⟨(KeepsOthers.setCell _ _ _).from _, KC.setCell W (by have := HZ7.out; omega) _, ⟨⟨⟨⟨set_blk HC.out, fun y hy => (List.mem_append.1 hy).elim (HP.out y) (fun e' => by rw [List.mem_singleton.1 e']; exact HBD.out)⟩, Nat.le_trans HZ.out (KeepsOthers.setCell W _ _).size⟩, HO.out.trans (OB.set W _)⟩, HM.out.kept (fun k o h ho => (KeepsOthers.setCell W _ _).same k o h ho)⟩⟩
      case done =>
        rintro D ys W hD hys ⟨⟨⟨⟨hc, hp⟩, hz⟩, hO⟩, hM⟩ hKD
        have HF : Hid (FR w w7 w5.heap.size (exprs p) (k + 1) (D :: ds) W) := by
          have hys' : ys.map Nd.op = ops (exprs p)[k] := by rw [HEK.out]; exact hys
          refine ⟨by have := HLT.out; omega, noneN_next HLT.out HREL.out.non hys' hp, hO, ?_, hM.cons ?_ hKD ?_⟩
          · rw [lenN_next HLT.out hys']; exact hc
          · have := HBB.out.size; have := HB7.out.size; omega
          · intro y hy; have := HREL.out.marks.lt y hy; omega
        clear hys hc hp hz hO hM hKD
        gi_wp2
        have hk1 : ((k + 1 : Nat) : Int) = (k : Int) + 1 := by omega
        refine ⟨⟨k + 1, D :: ds, ?u7, ?u16, ?u17, ?u18, ?u19, ?u20, ?u30, HF.out, ?fr⟩, ?ms⟩
        case fr => rw [hk1]; rfl
        case ms => simp [intOf]; omega
      case stop =>
        rintro D c pre W hD hpre ⟨⟨⟨rfl, hB⟩, hM⟩, pre', x, ⟨rfl, hx, hn⟩, hT⟩ hKD
        have hpre2 : (pre' ++ [x]).map Nd.op <+: ops (exprs p)[k] := by rw [HEK.out]; exact hpre
        have hst := stop_at (l := exprs p) hlt HREL.out.non hpre2 hn hx
        have HV : Hid (R = (x.op, ((lenN (exprs p) k + pre'.length : Nat) : Int), true)) := HR.out.trans hst
        have HM2 : Hid (Marks w.heap.size (D :: ds) W) := hM.cons (by have := HBB.out.size; have := HB7.out.size; omega) hKD (fun y hy => by have := HREL.out.marks.lt y hy; omega)
        have HB := Lib.hid hB
        have HT := Lib.hid hT
        clear hst hB hM hT hKD hpre hpre2 hn hx
        gi_wp2
        refine leave_first (R := R) (w := w) (D :: ds) HM2.out ?_ HB.out
        rw [HV.out]
        exact HT.out
    · have hend := end_at (by omega) hrel.non
      have HV : Hid (R = (0, 0, false)) := HR.out.trans hend
      have hth := HT7.out.kept2 hrel.ob (by have := HZ5.out; omega) (by have := HZ5.out; omega) (by have := HZ5.out; omega)
      have HTh := Lib.hid hth
      have q1 : wr.cell? ⟨w.heap.size + 1, 0, none⟩ = some (.int .i64 0) := cell_blk hth.c1 0
      have q2 : wr.cell? ⟨w.heap.size + 1 + 1, 0, none⟩ = some (.int .i64 0) := cell_blk hth.c2 0
      have q3 : wr.cell? ⟨w.heap.size + 1 + 1 + 1, 0, none⟩ = some (.bool false) := cell_blk hth.c3 0
      have r1 := frozen_blk hth.c1
      have r2 := frozen_blk hth.c2
      have r3 := frozen_blk hth.c3
      have HBW : Hid (Below w.heap.size w wr) := HB7.out.trans (hrel.ob.below (by have := HZ5.out; omega) HB7.out.size)
      have HM := Lib.hid hrel.marks
      clear hrel hth hend
      gi_wp2
      refine leave_first (R := R) (w := w) ds (HM.out.kept (fun k o h ho => (set3_others wr).same k o h ho)) ?_ ?_
      · rw [HV.out]; exact HTh.out.set
      · exact set3_below' HBW.out (Nat.le_refl _)
end Go.Proofs.YtkjefigebdbkaaaGreatDoor.N
namespace Go.Proofs.YtkjefigebdbkaaaGreatDoor.Y
open Go.RowKit
open L (Str isName prt size_len below_2 below_box ret_bool ret_int eql_eq bytes_eq)
open A (Ex St Pm Pr V arity vE vEs absent exV exO Bx RowK Own1 exV_mk exO_mk okE cE PmsAt StrsAt pmV PrIn OkP prV prO names valE GivesN)

set_option maxHeartbeats 8000000 in
set_option maxRecDepth 100000 in
theorem ocheck_all (p : Pr) (a1 a2 : Option Addr) (c1 c2 : Nat) (hok : OkP p) (hc1 : p.params.length ≤ c1) (w : World) (ht : Tb w) (hK : PrIn w p a1 a2) :
    Calls Tryz.prog 51 #[prV p a1 c1 a2 c2] w (GivesC w (chk p)) := by
  have hb := below_box w (prO p a1 c1 a2 c2)
  have hbx := Bx.new w #[.string p.name, .slice a1 p.params.length c1, .slice a2 p.body.length c2] 25
  have HV := Lib.hid (A.UB.ovalidate_any p a1 a2 c1 c2 hok hc1 _ (hK.below hb))
  have hpl := hok.params
  have HC := Lib.hid (fun w' hK => ocontainsB_any p.params a1 c1 (by omega) w' hK)
  have HNM := Lib.hid (fun (h0 : valE p = 0) w' hK => A.onames_any p a1 a2 c1 c2 hok (by have := N.val_cB h0; omega) (by have := (val_body h0).2.2.2.2.1; omega) (fun j h => by have := (val_body h0).2.2.2.1 _ (List.getElem_mem h); omega) w' hK)
  have HQ := Lib.hid (fun (w0 : World) (hT : Tb w0) => olist_any hT p.body hok.body)
  have hbl := hok.bodyLen
  have HB := Lib.hid hb
  have HBX := Lib.hid hbx
  have HK := Lib.hid (hK.below hb)
  have HT := Lib.hid (ht.below hb)
  have HVB := Lib.hid (val_body (p := p))
  have hch : chk p = if valE p ≠ 0 then ([], valE p) else if anyB p then ([], 10) else if rep [] (names p) then ([], 8) else if (run p).2 ≠ 0 then ([], (run p).2) else ((run p).1.decl, 0) := rfl
  obtain ⟨R, hR⟩ : ∃ R, chk p = R := ⟨_, rfl⟩
  rw [hR] at hch ⊢
  have HR := Lib.hid hch
  have hmm := @run_makeMap Tryz.prog
  have HAB : Hid (p.params.any (fun q => decide (q.ty = 3)) = anyB p) := rfl
  obtain ⟨m, hm⟩ : ∃ m, p.params.length = m := ⟨_, rfl⟩
  have HL := Lib.hid hm
  unfold prO at *
  unfold prV at *
  rw [hm] at HV HC HNM HB HBX HK HT hpl ⊢
  clear hok hc1 hK hb hbx ht hm hch hR
  by_cases h0 : valE p = 0
  case neg =>
    have b1 : (valE p != 0) = true := bne_iff_ne.2 h0
    have hr : R = ([], valE p) := by rw [HR.out, if_pos h0]
    have HP : Hid (∀ w', Below w.heap.size w w' → GivesC w R (.returned (.tuple #[.slice none 0 0, .int .i64 (valE p)])) w') := fun w' h => by rw [hr]; exact GivesC.bad h
    clear hr h0
    generalize valE p = x at *
    go_enter Tryz.func51, Tryz.ntmps51
    go_wp2_with fail
    refine HV.out.mono ?_; rintro e' w2 ⟨rfl, hb2⟩
    have HB2 := Lib.hid (below_2 HB.out hb2)
    clear hb2
    go_wp2_with fail
    go_ret2
    exact HP.out _ HB2.out
  have hvb := HVB.out h0
  have hnl := A.names_valid h0
  have hm6 : m ≤ 6 := by have h1 := hvb.2.2.2.2.1; have h2 := HL.out; omega
  have HNM2 := Lib.hid (HNM.out h0)
  clear HNM
  rw [h0] at HV
  have HR0 : Hid (R = if anyB p then ([], 10) else if rep [] (names p) then ([], 8) else if (run p).2 ≠ 0 then ([], (run p).2) else ((run p).1.decl, 0)) := by show _ = _; rw [HR.out, if_neg (fun z => z h0)]
  clear h0 HVB
  go_enter Tryz.func51, Tryz.ntmps51
  go_wp2_with fail
  refine HV.out.mono ?_; rintro e' w2 ⟨rfl, hb2⟩
  have HB2 := Lib.hid hb2
  have hbx2 := HBX.out.below hb2
  have x1 := hbx2.cell 1
  simp at x1
  have HC2 := Lib.hid (HC.out w2 (HK.out.below hb2).params)
  rw [HAB.out] at HC2
  have HBX2 := Lib.hid hbx2
  clear hb2 hbx2
  go_wp2_with fail
  refine HC2.out.mono ?_; rintro e' w3 ⟨rfl, hb3⟩
  have HB3 := Lib.hid (below_2 HB2.out hb3)
  clear hb3 x1
  cases hab : anyB p
  case true =>
    have hr : R = ([], 10) := by rw [HR0.out, if_pos hab]
    have HP : Hid (GivesC w R (.returned (.tuple #[.slice none 0 0, .int .i64 10])) w3) := by rw [hr]; exact GivesC.bad (below_2 HB.out HB3.out)
    clear hr hab
    go_wp2_with fail
    go_ret2
    exact HP.out
  have HR1 : Hid (R = if rep [] (names p) then ([], 8) else if (run p).2 ≠ 0 then ([], (run p).2) else ((run p).1.decl, 0)) := by show _ = _; rw [HR0.out, if_neg (by rw [hab]; decide)]
  have hbx3 := HBX.out.below HB3.out
  have x0 := hbx3.cell 0
  have x1 := hbx3.cell 1
  have x2 := hbx3.cell 2
  simp at x0 x1 x2
  have HN3 := Lib.hid (HNM2.out w3 (HK.out.below HB3.out))
  clear hab hbx3 HC2
  go_wp2_with fail
  refine HN3.out.mono ?_; rintro e' w4 ⟨pn, qn, rfl, hqn, hsn, hb4⟩
  have HRP := Lib.hid (orepeats_any (names p) pn qn (by omega) (fun x hx => by have := hvb.2.2.2.2.2 x hx; omega) w4 hsn)
  have HB4 := Lib.hid (below_2 HB3.out hb4)
  generalize (names p).length = nn at *
  generalize rep [] (names p) = rp at *
  clear hb4 x0 x1 x2 hsn hqn
  go_wp2_with fail
  refine HRP.out.mono ?_; rintro e' w5 ⟨rfl, hb5⟩
  have HB5 := Lib.hid (below_2 HB4.out hb5)
  clear hb5
  cases rp
  case true =>
    have hr : R = ([], 8) := by rw [HR1.out, if_pos rfl]
    have HP : Hid (GivesC w R (.returned (.tuple #[.slice none 0 0, .int .i64 8])) w5) := by rw [hr]; exact GivesC.bad (below_2 HB.out HB5.out)
    clear hr
    go_wp2_with fail
    go_ret2
    exact HP.out
  have HR2 : Hid (R = if (run p).2 ≠ 0 then ([], (run p).2) else ((run p).1.decl, 0)) := by show _ = _; rw [HR1.out, if_neg (by decide)]
  have HK0 := Lib.hid (CK.new w5)
  have hbx5 := HBX.out.below HB5.out
  have hKb := (HK.out.below HB5.out)
  have HBX5 := Lib.hid hbx5
  have HKb := Lib.hid hKb
  have HT5 := Lib.hid (HT.out.below HB5.out)
  have x1 := hbx5.cell 1
  simp at x1
  have x1a := ((below_box w5 (.map #[] 0)).cell (block_lt_of_cell x1)).trans x1
  have x1b := ((below_box _ (.map #[] 0)).cell (block_lt_of_cell x1a)).trans x1a
  have x1c := ((below_box _ (.cells #[.map (some w5.heap.size), .map (some (w5.heap.size + 1)), .slice none 0 0] 110)).cell (block_lt_of_cell x1b)).trans x1b
  have HX0 : Hid (cx0.decls (p.params.drop 0) = cx0.decls p.params) := rfl
  clear hbx5 hKb
  go_wp2_with fail
  go_loopw [30] (fun s30 wr => ∃ (k : Nat) (ck : Cx) (nk : Nat), k ≤ m ∧ s30 = .int .i64 k ∧ Hid (ck.decls (p.params.drop k) = cx0.decls p.params) ∧ Hid (nk ≤ k) ∧ Hid (CK wr w5.heap.size (fun _ => False) (w5.heap.size + 1 + 1) w5.heap.size (w5.heap.size + 1) nk ck) ∧ Hid (Below w5.heap.size w5 wr)) (fun s30 _ => m - (intOf s30).toNat)
  case atStart => exact ⟨0, cx0, 0, Nat.zero_le _, rfl, HX0, Nat.le_refl _, HK0, below_2 (below_2 (below_box _ _) (below_box _ _)) (below_box _ _)⟩
  case round =>
    obtain ⟨k, ck, nk, hk, rfl, HX, HN, HCk, HBr⟩ := hrel
    by_cases hlt : k < m
    · have hlx : k < p.params.length := by rw [HL.out]; exact hlt
      obtain ⟨b3, i3, rfl, hcc⟩ := (HKb.out.params.below HBr.out).open hlx
      obtain ⟨f0, f1⟩ := hcc k hlx
      have hx := HX.out
      rw [decls_drop _ hlx] at hx
      have hqt := hvb.2.2.1 _ (List.getElem_mem hlx)
      have hqn := hvb.2.2.2.1 _ (List.getElem_mem hlx)
      generalize p.params[k] = q at f0 f1 hx hqt hqn
      have HX2 := Lib.hid hx
      have hb0 := below_box wr (.cells #[.string q.name, .int .i64 q.ty] 52)
      have HD := Lib.hid (odeclare_any (HCk.out.below hb0) q.name (by omega) q.ty (by omega) (by have := HN.out; omega))
      have HB0 := Lib.hid (below_2 HBr.out hb0)
      clear hcc hx hb0 x1 x1a x1b x1c
      go_wp2_with fail
      refine HD.out.mono ?_; rintro e' w7 ⟨rfl, hc7, hk7⟩
      have HC7 := Lib.hid hc7
      have HB7 : Hid (Below w5.heap.size w5 w7) := HB0.out.trans hk7.below
      clear hc7 hk7
      go_wp2_with fail
      go_roundw
      case rel => exact ⟨k + 1, ck.declare q.name q.ty, nk + 1, by omega, by go_num, HX2.out, by have := HN.out; show _ ≤ _; omega, HC7.out, HB7.out⟩
      case measure => simp [intOf]; omega
    · have hX := HX.out
      rw [List.drop_of_length_le (by rw [HL.out]; omega), Cx.decls] at hX
      subst hX
      have hbx6 := HBX5.out.below HBr.out
      have x2 := hbx6.cell 2
      simp at x2
      have HLS := Lib.hid (HQ.out w5 HT5.out a2 c2 _ _ _ nk _ _ wr hvb.1 hbl HBr.out HKb.out.body HCk.out (by have := hvb.2.1; have := HN.out; omega))
      have hrun : run p = lst (ckB (cx0.decls p.params) p.body) p.body := rfl
      rw [hrun] at HR2
      generalize lst (ckB (cx0.decls p.params) p.body) p.body = r at HLS HR2
      clear hbx6 x1 x1a x1b x1c hrun
      go_wp2_with fail
      refine HLS.out.mono ?_; rintro e' w7 ⟨rfl, hc7, hk7⟩
      have HB7 : Hid (Below w.heap.size w w7) := below_2 HB.out (below_2 HB5.out (HBr.out.trans hk7.below))
      by_cases hz : r.2 = 0
      · have b1 : (r.2 != 0) = false := by rw [hz]; rfl
        have hr : R = (r.1.decl, 0) := by rw [HR2.out, if_neg (fun z => z hz)]
        obtain ⟨p9, q9, hk9⟩ := hc7
        have g2 := hk9.box.cell 2
        simp only [List.getElem?_toArray, List.getElem?_cons_succ, List.getElem?_cons_zero] at g2
        have HP : Hid (GivesC w R (.returned (.tuple #[.slice p9 r.1.decl.length q9, .int .i64 0])) w7) := by
          rw [hr]
          obtain ⟨_, _, hsh, hle⟩ := hk9.row.shape
          have hq : r.1.decl.length ≤ q9 := by injection hsh with h1 h2 h3; omega
          exact ⟨p9, q9, rfl, hq, own_pms hk9.row, HB7.out⟩
        clear hr hz hk9 hk7
        go_wp2_with fail
        go_ret2
        exact HP.out
      · have b1 : (r.2 != 0) = true := bne_iff_ne.2 hz
        have hr : R = ([], r.2) := by rw [HR2.out, if_pos hz]
        have HP : Hid (GivesC w R (.returned (.tuple #[.slice none 0 0, .int .i64 r.2])) w7) := by rw [hr]; exact GivesC.bad HB7.out
        clear hr hz hc7 hk7
        go_wp2_with fail
        go_ret2
        exact HP.out
set_option maxHeartbeats 4000000 in
set_option maxRecDepth 100000 in
theorem oCheck_all (p : Pr) (a1 a2 : Option Addr) (c1 c2 : Nat) (hok : OkP p) (hc1 : p.params.length ≤ c1) (w : World) (ht : Tb w) (hK : PrIn w p a1 a2) :
    Calls Tryz.prog 25 #[prV p a1 c1 a2 c2] w fun e' w' => e' = .returned (.int .i64 (chk p).2) ∧ Below w.heap.size w w' := by
  have hb := below_box w (prO p a1 c1 a2 c2)
  have HC := Lib.hid (ocheck_all p a1 a2 c1 c2 hok hc1 _ (ht.below hb) (hK.below hb))
  have HB := Lib.hid hb
  generalize chk p = R at *
  obtain ⟨r1, r2⟩ := R
  unfold prO at *
  unfold prV at *
  clear hok hc1 hK hb ht
  go_enter Tryz.func25, Tryz.ntmps25
  go_wp2_with fail
  refine HC.out.mono ?_; rintro e' w2 ⟨p9, q9, rfl, hle, hp, hb2⟩
  have HB2 := Lib.hid (below_2 HB.out hb2)
  clear hle hp hb2
  go_wp2_with fail
  go_ret
  exact ⟨rfl, HB2.out⟩
end Go.Proofs.YtkjefigebdbkaaaGreatDoor.Y
namespace Go.Proofs.YtkjefigebdbkaaaGreatDoor.N
open Go.RowKit
open A (Ex Pr exprs exV exO okE prV prO OkP PrIn GivesXs)
open L (below_2 below_box ret_bool ret_int)

def checkN (p : Pr) : Int := if (Y.chk p).2 ≠ 0 then (Y.chk p).2 else if (firstN p).2.2 = true then 12 else 0
theorem oFirst_all (p : Pr) (a1 a2 : Option Addr) (c1 c2 : Nat) (hok : OkP p) (hc1 : p.params.length ≤ c1) (w : World) (hK : PrIn w p a1 a2) :
    Calls Tryz.prog 6 #[prV p a1 c1 a2 c2] w fun e' w' => e' = .returned (.tuple #[.int .i64 (firstN p).1, .int .i64 (firstN p).2.1, .bool (firstN p).2.2]) ∧ Below w.heap.size w w' :=
  oFirst_any p a1 a2 c1 c2 (fun w' h => A.UB.ovalidate_any p a1 a2 c1 c2 hok hc1 w' h) (fun h0 w' h => A.oexprs_any p a1 a2 c1 c2 hok (by have := val_cB h0; omega) w' h) (fun _ e he => (A.exprs_ve hok.body e he).1) w hK
set_option maxHeartbeats 4000000 in
set_option maxRecDepth 100000 in
theorem oCheck_any (p : Pr) (a1 a2 : Option Addr) (c1 c2 : Nat) (hok : OkP p) (hc1 : p.params.length ≤ c1) (w : World) (ht : Y.Tb w) (hK : PrIn w p a1 a2) :
    Calls Tryz.prog 8 #[prV p a1 c1 a2 c2] w fun e' w' => e' = .returned (.int .i64 (checkN p)) ∧ Below w.heap.size w w' := by
  have hb := below_box w (prO p a1 c1 a2 c2)
  have hbx := A.Bx.new w #[.string p.name, .slice a1 p.params.length c1, .slice a2 p.body.length c2] 25
  have HC := Lib.hid (Y.oCheck_all p a1 a2 c1 c2 hok hc1 _ (ht.below hb) (hK.below hb))
  have HF := Lib.hid (fun w' h => oFirst_all p a1 a2 c1 c2 hok hc1 w' h)
  have HK := Lib.hid (hK.below hb)
  have HB := Lib.hid hb
  have HX := Lib.hid hbx
  have hch : checkN p = if (Y.chk p).2 ≠ 0 then (Y.chk p).2 else if (firstN p).2.2 = true then 12 else 0 := rfl
  obtain ⟨R, hR⟩ : ∃ R, checkN p = R := ⟨_, rfl⟩
  rw [hR] at hch ⊢
  have HR := Lib.hid hch
  generalize (Y.chk p).2 = x at *
  generalize firstN p = y at *
  obtain ⟨y1, y2, y3⟩ := y
  unfold prO at *
  unfold prV at *
  clear hok hc1 hK hb hbx ht hch hR
  by_cases h0 : x = 0
  case neg =>
    have b1 : (x != 0) = true := bne_iff_ne.2 h0
    have HV : Hid (R = x) := by show _ = _; rw [HR.out, if_pos h0]
    clear h0
    go_enter Tryz.func8, Tryz.ntmps8
    go_wp2_with fail
    refine HC.out.mono ?_; rintro e' w2 ⟨rfl, hb2⟩
    have HB2 := Lib.hid (below_2 HB.out hb2)
    clear hb2
    go_wp2_with fail
    go_ret
    exact ⟨ret_int HV.out.symm, HB2.out⟩
  subst h0
  have HV : Hid (R = if y3 = true then 12 else 0) := by show _ = _; rw [HR.out, if_neg (fun z => z rfl)]
  go_enter Tryz.func8, Tryz.ntmps8
  go_wp2_with fail
  refine HC.out.mono ?_; rintro e' w2 ⟨rfl, hb2⟩
  have HB2 := Lib.hid (below_2 HB.out hb2)
  have HF2 := Lib.hid (HF.out _ (HK.out.below hb2))
  have x0 := (HX.out.below hb2).cell 0
  have x1 := (HX.out.below hb2).cell 1
  have x2 := (HX.out.below hb2).cell 2
  simp at x0 x1 x2
  clear hb2 HC
  go_wp2_with fail
  refine HF2.out.mono ?_; rintro e' w3 ⟨rfl, hb3⟩
  have HB3 := Lib.hid (below_2 HB2.out hb3)
  clear hb3 x0 x1 x2
  cases y3 with
  | true =>
    have HV2 : Hid (R = 12) := HV.out
    go_wp2_with fail
    go_ret
    exact ⟨ret_int HV2.out.symm, HB3.out⟩
  | false =>
    have HV2 : Hid (R = 0) := HV.out
    go_wp2_with fail
    go_ret
    exact ⟨ret_int HV2.out.symm, HB3.out⟩
end Go.Proofs.YtkjefigebdbkaaaGreatDoor.N
namespace Go.Proofs.YtkjefigebdbkaaaGreatDoor.N
open Go.RowKit
open A (Ex St Pr exV exO exV_mk okE okEs okB okS cE cB Bx OkP PrIn prV exprs ExAt ExsAt StAt StsAt Bodies)
open L (below_2 below_box ret_bool)

def lf (o n : Int) (s : ByteArray) : Ex := .mk o n s []
def noE : Ex := lf 0 0 ⟨#[]⟩
def sumE : Ex := .mk 4 0 ⟨#[]⟩ [lf 1 1 ⟨#[]⟩, lf 1 2 ⟨#[]⟩]
def getE : Ex := .mk 22 0 ⟨#[]⟩ [lf 2 0 ⟨#[97]⟩]
def nowE : Ex := lf 25 0 ⟨#[]⟩
def rndE : Ex := .mk 4 0 ⟨#[]⟩ [lf 1 1 ⟨#[]⟩, lf 26 0 ⟨#[]⟩]
def exP : Pr := ⟨⟨#[112]⟩, [], [.mk 1 ⟨#[120]⟩ 0 rndE noE [] [], .mk 7 ⟨#[]⟩ 0 (lf 3 0 ⟨#[120]⟩) noE [] []]⟩
theorem first_ex : firstN exP = (26, 2, true) := by kernel_rfl
theorem pure_sum : pureE sumE = true := by kernel_rfl
theorem pure_get : pureE getE = false := by kernel_rfl
theorem pure_now : pureE nowE = false := by kernel_rfl
theorem reads_now : readsE nowE = false := by kernel_rfl
theorem reads_get : readsE getE = true := by kernel_rfl
theorem okE_lf (o n : Int) (s : ByteArray) (ho : -9223372036854775808 ≤ o ∧ o ≤ 9223372036854775807) (hn : -9223372036854775808 ≤ n ∧ n ≤ 9223372036854775807) (hs : s.size ≤ 1000000000000000) : okE (lf o n s) := by
  unfold lf
  rw [okE, okEs]
  exact ⟨ho, hn, hs, Nat.zero_le _, trivial⟩
theorem ok_sum : okE sumE := by
  unfold sumE
  rw [okE, okEs, okEs, okEs]
  exact ⟨by decide, by decide, by decide, by decide, okE_lf _ _ _ (by decide) (by decide) (by decide), okE_lf _ _ _ (by decide) (by decide) (by decide), trivial⟩
theorem ok_rnd : okE rndE := by
  unfold rndE
  rw [okE, okEs, okEs, okEs]
  exact ⟨by decide, by decide, by decide, by decide, okE_lf _ _ _ (by decide) (by decide) (by decide), okE_lf _ _ _ (by decide) (by decide) (by decide), trivial⟩
theorem ok_get : okE getE := by
  unfold getE
  rw [okE, okEs, okEs]
  exact ⟨by decide, by decide, by decide, by decide, okE_lf _ _ _ (by decide) (by decide) (by decide), trivial⟩
theorem ok_now : okE nowE := okE_lf _ _ _ (by decide) (by decide) (by decide)
theorem okB_no : okB [] := by rw [okB]; trivial
theorem ok_exP : OkP exP := by
  refine ⟨by decide, by decide, fun j h => absurd h (Nat.not_lt_zero _), by decide, ?_⟩
  show okB [_, _]
  rw [okB, okB, okB, okS, okS]
  exact ⟨⟨by decide, by decide, by decide, ok_rnd, okE_lf _ _ _ (by decide) (by decide) (by decide), by decide, okB_no, by decide, okB_no⟩, ⟨by decide, by decide, by decide, okE_lf _ _ _ (by decide) (by decide) (by decide), okE_lf _ _ _ (by decide) (by decide) (by decide), by decide, okB_no, by decide, okB_no⟩, trivial⟩
theorem sz_exP : cB exP.body ≤ 900000 := by decide +kernel
theorem at_lf {F : World} {g i : Nat} {o n : Int} {s : ByteArray} (h0 : F.cell? ⟨g, i, none⟩ = some (.int .i64 o)) (h1 : F.cell? ⟨g, i + 1, none⟩ = some (.int .i64 n)) (h2 : F.cell? ⟨g, i + 2, none⟩ = some (.string s)) (h3 : F.cell? ⟨g, i + 3, none⟩ = some (.slice none 0 0)) : ExAt F (lf o n s) g i :=
  ⟨h0, h1, h2, none, 0, h3, Or.inl rfl⟩
theorem kids_l1 {F : World} {g : Nat} {o n : Int} {s : ByteArray} (h : Bx F g #[.int .i64 o, .int .i64 n, .string s, .slice none 0 0] 41) : A.Kids F (some ⟨g, 0, none⟩) [lf o n s] :=
  Or.inr ⟨g, 0, rfl, by rw [ExsAt, ExsAt]; exact ⟨at_lf (h.cell 0) (h.cell 1) (h.cell 2) (h.cell 3), trivial⟩⟩
theorem kids_l2 {F : World} {g : Nat} {o n o' n' : Int} {s s' : ByteArray} (h : Bx F g #[.int .i64 o, .int .i64 n, .string s, .slice none 0 0, .int .i64 o', .int .i64 n', .string s', .slice none 0 0] 41) : A.Kids F (some ⟨g, 0, none⟩) [lf o n s, lf o' n' s'] :=
  Or.inr ⟨g, 0, rfl, by rw [ExsAt, ExsAt, ExsAt]; exact ⟨at_lf (h.cell 0) (h.cell 1) (h.cell 2) (h.cell 3), at_lf (h.cell 4) (h.cell 5) (h.cell 6) (h.cell 7), trivial⟩⟩
structure EB (n : Nat) (F : World) : Prop where
  c0 : Bx F (n) #[.int .i64 1, .int .i64 1, .string ⟨#[]⟩, .slice none 0 0] 41
  c1 : Bx F (n + 1) #[.int .i64 1, .int .i64 1, .string ⟨#[]⟩, .slice none 0 0, .int .i64 1, .int .i64 2, .string ⟨#[]⟩, .slice none 0 0] 41
  c2 : Bx F (n + 1 + 1) #[.int .i64 4, .int .i64 0, .string ⟨#[]⟩, .slice (some ⟨n + 1, 0, none⟩) 2 2] 41
  c3 : Bx F (n + 1 + 1 + 1) #[.int .i64 2, .int .i64 0, .string ⟨#[97]⟩, .slice none 0 0] 41
  c4 : Bx F (n + 1 + 1 + 1 + 1) #[.int .i64 22, .int .i64 0, .string ⟨#[]⟩, .slice (some ⟨n + 1 + 1 + 1, 0, none⟩) 1 1] 41
  c5 : Bx F (n + 1 + 1 + 1 + 1 + 1) #[.int .i64 25, .int .i64 0, .string ⟨#[]⟩, .slice none 0 0] 41
  c6 : Bx F (n + 1 + 1 + 1 + 1 + 1 + 1) #[.int .i64 1, .int .i64 1, .string ⟨#[]⟩, .slice none 0 0, .int .i64 26, .int .i64 0, .string ⟨#[]⟩, .slice none 0 0] 41
  c7 : Bx F (n + 1 + 1 + 1 + 1 + 1 + 1 + 1) #[.int .i64 1, .string ⟨#[120]⟩, .int .i64 0, .int .i64 4, .int .i64 0, .string ⟨#[]⟩, .slice (some ⟨n + 1 + 1 + 1 + 1 + 1 + 1, 0, none⟩) 2 2, .int .i64 0, .int .i64 0, .string ⟨#[]⟩, .slice none 0 0, .slice none 0 0, .slice none 0 0, .int .i64 7, .string ⟨#[]⟩, .int .i64 0, .int .i64 3, .int .i64 0, .string ⟨#[120]⟩, .slice none 0 0, .int .i64 0, .int .i64 0, .string ⟨#[]⟩, .slice none 0 0, .slice none 0 0, .slice none 0 0] 49
  c8 : Bx F (n + 1 + 1 + 1 + 1 + 1 + 1 + 1 + 1) #[.string ⟨#[112]⟩, .slice none 0 0, .slice (some ⟨n + 1 + 1 + 1 + 1 + 1 + 1 + 1, 0, none⟩) 2 2] 25
theorem EB.below {n : Nat} {F F' : World} (H : EB n F) (hb : Below F.heap.size F F') : EB n F' :=
  ⟨H.c0.below hb, H.c1.below hb, H.c2.below hb, H.c3.below hb, H.c4.below hb, H.c5.below hb, H.c6.below hb, H.c7.below hb, H.c8.below hb⟩
theorem in_ex {n : Nat} {F : World} (H : EB n F) : PrIn F exP none (some ⟨n + 1 + 1 + 1 + 1 + 1 + 1 + 1, 0, none⟩) := by
  refine ⟨Or.inl rfl, Or.inr ⟨_, 0, rfl, ?_⟩⟩
  show StsAt F [_, _] _ 0
  rw [StsAt, StsAt, StsAt, StAt, StAt]
  have x := H.c7
  refine ⟨⟨x.cell 0, x.cell 1, x.cell 2, ?_, at_lf (x.cell 7) (x.cell 8) (x.cell 9) (x.cell 10), ⟨_, _, x.cell 11, Or.inl rfl⟩, ⟨_, _, x.cell 12, Or.inl rfl⟩⟩, ⟨x.cell 13, x.cell 14, x.cell 15, at_lf (x.cell 16) (x.cell 17) (x.cell 18) (x.cell 19), at_lf (x.cell 20) (x.cell 21) (x.cell 22) (x.cell 23), ⟨_, _, x.cell 24, Or.inl rfl⟩, ⟨_, _, x.cell 25, Or.inl rfl⟩⟩, trivial⟩
  exact ⟨x.cell 3, x.cell 4, x.cell 5, _, _, x.cell 6, kids_l2 H.c6⟩
theorem call_first {n : Nat} {F : World} (H : EB n F) : Calls Tryz.prog 6 #[.agg #[.string ⟨#[112]⟩, .slice none 0 0, .slice (some ⟨n + 1 + 1 + 1 + 1 + 1 + 1 + 1, 0, none⟩) 2 2]] F fun e' w' => e' = .returned (.tuple #[.int .i64 26, .int .i64 2, .bool true]) ∧ Below F.heap.size F w' := by
  have := oFirst_any exP none (some ⟨n + 1 + 1 + 1 + 1 + 1 + 1 + 1, 0, none⟩) 0 2 (fun w' h => A.ovalidate_any exP none (some ⟨n + 1 + 1 + 1 + 1 + 1 + 1 + 1, 0, none⟩) 0 2 ok_exP sz_exP (by decide) w' h) (fun _ w' h => A.oexprs_any exP none (some ⟨n + 1 + 1 + 1 + 1 + 1 + 1 + 1, 0, none⟩) 0 2 ok_exP sz_exP w' h) (fun _ e he => (A.exprs_ve ok_exP.body e he).1) F (in_ex H)
  rw [first_ex] at this
  exact this
theorem call_ps {n : Nat} {F : World} (H : EB n F) : Calls Tryz.prog 27 #[.agg #[.int .i64 4, .int .i64 0, .string ⟨#[]⟩, .slice (some ⟨n + 1, 0, none⟩) 2 2]] F fun e' w' => e' = .returned (.bool true) ∧ Below F.heap.size F w' := by
  have := oPure_any sumE (some ⟨n + 1, 0, none⟩) 2 ok_sum F (kids_l2 H.c1)
  rw [pure_sum] at this
  exact this
theorem call_pg {n : Nat} {F : World} (H : EB n F) : Calls Tryz.prog 27 #[.agg #[.int .i64 22, .int .i64 0, .string ⟨#[]⟩, .slice (some ⟨n + 1 + 1 + 1, 0, none⟩) 1 1]] F fun e' w' => e' = .returned (.bool false) ∧ Below F.heap.size F w' := by
  have := oPure_any getE (some ⟨n + 1 + 1 + 1, 0, none⟩) 1 ok_get F (kids_l1 H.c3)
  rw [pure_get] at this
  exact this
theorem call_pn {n : Nat} {F : World} (_ : EB n F) : Calls Tryz.prog 27 #[.agg #[.int .i64 25, .int .i64 0, .string ⟨#[]⟩, .slice none 0 0]] F fun e' w' => e' = .returned (.bool false) ∧ Below F.heap.size F w' := by
  have := oPure_any nowE none 0 ok_now F (Or.inl rfl)
  rw [pure_now] at this
  exact this
theorem call_rn {n : Nat} {F : World} (_ : EB n F) : Calls Tryz.prog 28 #[.agg #[.int .i64 25, .int .i64 0, .string ⟨#[]⟩, .slice none 0 0]] F fun e' w' => e' = .returned (.bool false) ∧ Below F.heap.size F w' := by
  have := oReads_any nowE none 0 ok_now F (Or.inl rfl)
  rw [reads_now] at this
  exact this
theorem call_rg {n : Nat} {F : World} (H : EB n F) : Calls Tryz.prog 28 #[.agg #[.int .i64 22, .int .i64 0, .string ⟨#[]⟩, .slice (some ⟨n + 1 + 1 + 1, 0, none⟩) 1 1]] F fun e' w' => e' = .returned (.bool true) ∧ Below F.heap.size F w' := by
  have := oReads_any getE (some ⟨n + 1 + 1 + 1, 0, none⟩) 1 ok_get F (kids_l1 H.c3)
  rw [reads_get] at this
  exact this
theorem ex_chain (w : World) : EB w.heap.size (((((((((w.alloc (.cells #[.int .i64 1, .int .i64 1, .string ⟨#[]⟩, .slice none 0 0] 41)).alloc (.cells #[.int .i64 1, .int .i64 1, .string ⟨#[]⟩, .slice none 0 0, .int .i64 1, .int .i64 2, .string ⟨#[]⟩, .slice none 0 0] 41)).alloc (.cells #[.int .i64 4, .int .i64 0, .string ⟨#[]⟩, .slice (some ⟨w.heap.size + 1, 0, none⟩) 2 2] 41)).alloc (.cells #[.int .i64 2, .int .i64 0, .string ⟨#[97]⟩, .slice none 0 0] 41)).alloc (.cells #[.int .i64 22, .int .i64 0, .string ⟨#[]⟩, .slice (some ⟨w.heap.size + 1 + 1 + 1, 0, none⟩) 1 1] 41)).alloc (.cells #[.int .i64 25, .int .i64 0, .string ⟨#[]⟩, .slice none 0 0] 41)).alloc (.cells #[.int .i64 1, .int .i64 1, .string ⟨#[]⟩, .slice none 0 0, .int .i64 26, .int .i64 0, .string ⟨#[]⟩, .slice none 0 0] 41)).alloc (.cells #[.int .i64 1, .string ⟨#[120]⟩, .int .i64 0, .int .i64 4, .int .i64 0, .string ⟨#[]⟩, .slice (some ⟨w.heap.size + 1 + 1 + 1 + 1 + 1 + 1, 0, none⟩) 2 2, .int .i64 0, .int .i64 0, .string ⟨#[]⟩, .slice none 0 0, .slice none 0 0, .slice none 0 0, .int .i64 7, .string ⟨#[]⟩, .int .i64 0, .int .i64 3, .int .i64 0, .string ⟨#[120]⟩, .slice none 0 0, .int .i64 0, .int .i64 0, .string ⟨#[]⟩, .slice none 0 0, .slice none 0 0, .slice none 0 0] 49)).alloc (.cells #[.string ⟨#[112]⟩, .slice none 0 0, .slice (some ⟨w.heap.size + 1 + 1 + 1 + 1 + 1 + 1 + 1, 0, none⟩) 2 2] 25)) ∧ Below w.heap.size w (((((((((w.alloc (.cells #[.int .i64 1, .int .i64 1, .string ⟨#[]⟩, .slice none 0 0] 41)).alloc (.cells #[.int .i64 1, .int .i64 1, .string ⟨#[]⟩, .slice none 0 0, .int .i64 1, .int .i64 2, .string ⟨#[]⟩, .slice none 0 0] 41)).alloc (.cells #[.int .i64 4, .int .i64 0, .string ⟨#[]⟩, .slice (some ⟨w.heap.size + 1, 0, none⟩) 2 2] 41)).alloc (.cells #[.int .i64 2, .int .i64 0, .string ⟨#[97]⟩, .slice none 0 0] 41)).alloc (.cells #[.int .i64 22, .int .i64 0, .string ⟨#[]⟩, .slice (some ⟨w.heap.size + 1 + 1 + 1, 0, none⟩) 1 1] 41)).alloc (.cells #[.int .i64 25, .int .i64 0, .string ⟨#[]⟩, .slice none 0 0] 41)).alloc (.cells #[.int .i64 1, .int .i64 1, .string ⟨#[]⟩, .slice none 0 0, .int .i64 26, .int .i64 0, .string ⟨#[]⟩, .slice none 0 0] 41)).alloc (.cells #[.int .i64 1, .string ⟨#[120]⟩, .int .i64 0, .int .i64 4, .int .i64 0, .string ⟨#[]⟩, .slice (some ⟨w.heap.size + 1 + 1 + 1 + 1 + 1 + 1, 0, none⟩) 2 2, .int .i64 0, .int .i64 0, .string ⟨#[]⟩, .slice none 0 0, .slice none 0 0, .slice none 0 0, .int .i64 7, .string ⟨#[]⟩, .int .i64 0, .int .i64 3, .int .i64 0, .string ⟨#[120]⟩, .slice none 0 0, .int .i64 0, .int .i64 0, .string ⟨#[]⟩, .slice none 0 0, .slice none 0 0, .slice none 0 0] 49)).alloc (.cells #[.string ⟨#[112]⟩, .slice none 0 0, .slice (some ⟨w.heap.size + 1 + 1 + 1 + 1 + 1 + 1 + 1, 0, none⟩) 2 2] 25)) := by
  obtain ⟨z1, e1⟩ : ∃ z, z = w.alloc (.cells #[.int .i64 1, .int .i64 1, .string ⟨#[]⟩, .slice none 0 0] 41) := ⟨_, rfl⟩
  have b1 : Below w.heap.size w z1 := by rw [e1]; exact below_box _ _
  have x1 := Bx.new w #[.int .i64 1, .int .i64 1, .string ⟨#[]⟩, .slice none 0 0] 41
  rw [← e1] at x1
  have s1 : z1.heap.size = w.heap.size + 1 := by rw [e1]; simp
  rw [← e1]
  obtain ⟨z2, e2⟩ : ∃ z, z = z1.alloc (.cells #[.int .i64 1, .int .i64 1, .string ⟨#[]⟩, .slice none 0 0, .int .i64 1, .int .i64 2, .string ⟨#[]⟩, .slice none 0 0] 41) := ⟨_, rfl⟩
  have b2 : Below z1.heap.size z1 z2 := by rw [e2]; exact below_box _ _
  have x2 := Bx.new z1 #[.int .i64 1, .int .i64 1, .string ⟨#[]⟩, .slice none 0 0, .int .i64 1, .int .i64 2, .string ⟨#[]⟩, .slice none 0 0] 41
  rw [← e2] at x2
  rw [s1] at x2
  have s2 : z2.heap.size = w.heap.size + 1 + 1 := by rw [e2]; simp [s1]
  rw [← e2]
  obtain ⟨z3, e3⟩ : ∃ z, z = z2.alloc (.cells #[.int .i64 4, .int .i64 0, .string ⟨#[]⟩, .slice (some ⟨w.heap.size + 1, 0, none⟩) 2 2] 41) := ⟨_, rfl⟩
  have b3 : Below z2.heap.size z2 z3 := by rw [e3]; exact below_box _ _
  have x3 := Bx.new z2 #[.int .i64 4, .int .i64 0, .string ⟨#[]⟩, .slice (some ⟨w.heap.size + 1, 0, none⟩) 2 2] 41
  rw [← e3] at x3
  rw [s2] at x3
  have s3 : z3.heap.size = w.heap.size + 1 + 1 + 1 := by rw [e3]; simp [s2]
  rw [← e3]
  obtain ⟨z4, e4⟩ : ∃ z, z = z3.alloc (.cells #[.int .i64 2, .int .i64 0, .string ⟨#[97]⟩, .slice none 0 0] 41) := ⟨_, rfl⟩
  have b4 : Below z3.heap.size z3 z4 := by rw [e4]; exact below_box _ _
  have x4 := Bx.new z3 #[.int .i64 2, .int .i64 0, .string ⟨#[97]⟩, .slice none 0 0] 41
  rw [← e4] at x4
  rw [s3] at x4
  have s4 : z4.heap.size = w.heap.size + 1 + 1 + 1 + 1 := by rw [e4]; simp [s3]
  rw [← e4]
  obtain ⟨z5, e5⟩ : ∃ z, z = z4.alloc (.cells #[.int .i64 22, .int .i64 0, .string ⟨#[]⟩, .slice (some ⟨w.heap.size + 1 + 1 + 1, 0, none⟩) 1 1] 41) := ⟨_, rfl⟩
  have b5 : Below z4.heap.size z4 z5 := by rw [e5]; exact below_box _ _
  have x5 := Bx.new z4 #[.int .i64 22, .int .i64 0, .string ⟨#[]⟩, .slice (some ⟨w.heap.size + 1 + 1 + 1, 0, none⟩) 1 1] 41
  rw [← e5] at x5
  rw [s4] at x5
  have s5 : z5.heap.size = w.heap.size + 1 + 1 + 1 + 1 + 1 := by rw [e5]; simp [s4]
  rw [← e5]
  obtain ⟨z6, e6⟩ : ∃ z, z = z5.alloc (.cells #[.int .i64 25, .int .i64 0, .string ⟨#[]⟩, .slice none 0 0] 41) := ⟨_, rfl⟩
  have b6 : Below z5.heap.size z5 z6 := by rw [e6]; exact below_box _ _
  have x6 := Bx.new z5 #[.int .i64 25, .int .i64 0, .string ⟨#[]⟩, .slice none 0 0] 41
  rw [← e6] at x6
  rw [s5] at x6
  have s6 : z6.heap.size = w.heap.size + 1 + 1 + 1 + 1 + 1 + 1 := by rw [e6]; simp [s5]
  rw [← e6]
  obtain ⟨z7, e7⟩ : ∃ z, z = z6.alloc (.cells #[.int .i64 1, .int .i64 1, .string ⟨#[]⟩, .slice none 0 0, .int .i64 26, .int .i64 0, .string ⟨#[]⟩, .slice none 0 0] 41) := ⟨_, rfl⟩
  have b7 : Below z6.heap.size z6 z7 := by rw [e7]; exact below_box _ _
  have x7 := Bx.new z6 #[.int .i64 1, .int .i64 1, .string ⟨#[]⟩, .slice none 0 0, .int .i64 26, .int .i64 0, .string ⟨#[]⟩, .slice none 0 0] 41
  rw [← e7] at x7
  rw [s6] at x7
  have s7 : z7.heap.size = w.heap.size + 1 + 1 + 1 + 1 + 1 + 1 + 1 := by rw [e7]; simp [s6]
  rw [← e7]
  obtain ⟨z8, e8⟩ : ∃ z, z = z7.alloc (.cells #[.int .i64 1, .string ⟨#[120]⟩, .int .i64 0, .int .i64 4, .int .i64 0, .string ⟨#[]⟩, .slice (some ⟨w.heap.size + 1 + 1 + 1 + 1 + 1 + 1, 0, none⟩) 2 2, .int .i64 0, .int .i64 0, .string ⟨#[]⟩, .slice none 0 0, .slice none 0 0, .slice none 0 0, .int .i64 7, .string ⟨#[]⟩, .int .i64 0, .int .i64 3, .int .i64 0, .string ⟨#[120]⟩, .slice none 0 0, .int .i64 0, .int .i64 0, .string ⟨#[]⟩, .slice none 0 0, .slice none 0 0, .slice none 0 0] 49) := ⟨_, rfl⟩
  have b8 : Below z7.heap.size z7 z8 := by rw [e8]; exact below_box _ _
  have x8 := Bx.new z7 #[.int .i64 1, .string ⟨#[120]⟩, .int .i64 0, .int .i64 4, .int .i64 0, .string ⟨#[]⟩, .slice (some ⟨w.heap.size + 1 + 1 + 1 + 1 + 1 + 1, 0, none⟩) 2 2, .int .i64 0, .int .i64 0, .string ⟨#[]⟩, .slice none 0 0, .slice none 0 0, .slice none 0 0, .int .i64 7, .string ⟨#[]⟩, .int .i64 0, .int .i64 3, .int .i64 0, .string ⟨#[120]⟩, .slice none 0 0, .int .i64 0, .int .i64 0, .string ⟨#[]⟩, .slice none 0 0, .slice none 0 0, .slice none 0 0] 49
  rw [← e8] at x8
  rw [s7] at x8
  have s8 : z8.heap.size = w.heap.size + 1 + 1 + 1 + 1 + 1 + 1 + 1 + 1 := by rw [e8]; simp [s7]
  rw [← e8]
  obtain ⟨z9, e9⟩ : ∃ z, z = z8.alloc (.cells #[.string ⟨#[112]⟩, .slice none 0 0, .slice (some ⟨w.heap.size + 1 + 1 + 1 + 1 + 1 + 1 + 1, 0, none⟩) 2 2] 25) := ⟨_, rfl⟩
  have b9 : Below z8.heap.size z8 z9 := by rw [e9]; exact below_box _ _
  have x9 := Bx.new z8 #[.string ⟨#[112]⟩, .slice none 0 0, .slice (some ⟨w.heap.size + 1 + 1 + 1 + 1 + 1 + 1 + 1, 0, none⟩) 2 2] 25
  rw [← e9] at x9
  rw [s8] at x9
  have s9 : z9.heap.size = w.heap.size + 1 + 1 + 1 + 1 + 1 + 1 + 1 + 1 + 1 := by rw [e9]; simp [s8]
  rw [← e9]
  refine ⟨⟨((((((((x1.below b2).below b3).below b4).below b5).below b6).below b7).below b8).below b9), (((((((x2.below b3).below b4).below b5).below b6).below b7).below b8).below b9), ((((((x3.below b4).below b5).below b6).below b7).below b8).below b9), (((((x4.below b5).below b6).below b7).below b8).below b9), ((((x5.below b6).below b7).below b8).below b9), (((x6.below b7).below b8).below b9), ((x7.below b8).below b9), (x8.below b9), x9⟩, ?_⟩
  exact (below_2 (below_2 (below_2 (below_2 (below_2 (below_2 (below_2 (below_2 b1 b2) b3) b4) b5) b6) b7) b8) b9)
set_option maxHeartbeats 8000000 in
set_option maxRecDepth 100000 in
theorem examples_any (w : World) : Calls Tryz.prog 10 #[] w fun e' w' => e' = .returned (.bool true) ∧ Below w.heap.size w w' := by
  obtain ⟨hE, hB⟩ := ex_chain w
  obtain ⟨F, hF⟩ : ∃ F, (((((((((w.alloc (.cells #[.int .i64 1, .int .i64 1, .string ⟨#[]⟩, .slice none 0 0] 41)).alloc (.cells #[.int .i64 1, .int .i64 1, .string ⟨#[]⟩, .slice none 0 0, .int .i64 1, .int .i64 2, .string ⟨#[]⟩, .slice none 0 0] 41)).alloc (.cells #[.int .i64 4, .int .i64 0, .string ⟨#[]⟩, .slice (some ⟨w.heap.size + 1, 0, none⟩) 2 2] 41)).alloc (.cells #[.int .i64 2, .int .i64 0, .string ⟨#[97]⟩, .slice none 0 0] 41)).alloc (.cells #[.int .i64 22, .int .i64 0, .string ⟨#[]⟩, .slice (some ⟨w.heap.size + 1 + 1 + 1, 0, none⟩) 1 1] 41)).alloc (.cells #[.int .i64 25, .int .i64 0, .string ⟨#[]⟩, .slice none 0 0] 41)).alloc (.cells #[.int .i64 1, .int .i64 1, .string ⟨#[]⟩, .slice none 0 0, .int .i64 26, .int .i64 0, .string ⟨#[]⟩, .slice none 0 0] 41)).alloc (.cells #[.int .i64 1, .string ⟨#[120]⟩, .int .i64 0, .int .i64 4, .int .i64 0, .string ⟨#[]⟩, .slice (some ⟨w.heap.size + 1 + 1 + 1 + 1 + 1 + 1, 0, none⟩) 2 2, .int .i64 0, .int .i64 0, .string ⟨#[]⟩, .slice none 0 0, .slice none 0 0, .slice none 0 0, .int .i64 7, .string ⟨#[]⟩, .int .i64 0, .int .i64 3, .int .i64 0, .string ⟨#[120]⟩, .slice none 0 0, .int .i64 0, .int .i64 0, .string ⟨#[]⟩, .slice none 0 0, .slice none 0 0, .slice none 0 0] 49)).alloc (.cells #[.string ⟨#[112]⟩, .slice none 0 0, .slice (some ⟨w.heap.size + 1 + 1 + 1 + 1 + 1 + 1 + 1, 0, none⟩) 2 2] 25)) = F := ⟨_, rfl⟩
  rw [hF] at hE hB
  have HE := Lib.hid hE
  have HB := Lib.hid hB
  have HF := Lib.hid hF
  clear hE hB hF
  go_enter Tryz.func10, Tryz.ntmps10
  go_wp2_with fail
  rw [HF.out]
  refine (call_first HE.out).mono ?_; rintro e' w1 ⟨rfl, hb⟩
  have H1 := Lib.hid (HE.out.below hb)
  have B1 := Lib.hid (below_2 HB.out hb)
  clear hb HF
  have y0 := H1.out.c2.cell 0
  have y1 := H1.out.c2.cell 1
  have y2 := H1.out.c2.cell 2
  have y3 := H1.out.c2.cell 3
  simp only [List.getElem?_toArray, List.getElem?_cons_succ, List.getElem?_cons_zero] at y0 y1 y2 y3
  go_wp2_with fail
  refine (call_ps H1.out).mono ?_; rintro e' w2 ⟨rfl, hb⟩
  have H2 := Lib.hid (H1.out.below hb)
  have B2 := Lib.hid (below_2 B1.out hb)
  clear hb y0 y1 y2 y3
  have y0 := H2.out.c4.cell 0
  have y1 := H2.out.c4.cell 1
  have y2 := H2.out.c4.cell 2
  have y3 := H2.out.c4.cell 3
  simp only [List.getElem?_toArray, List.getElem?_cons_succ, List.getElem?_cons_zero] at y0 y1 y2 y3
  go_wp2_with fail
  refine (call_pg H2.out).mono ?_; rintro e' w3 ⟨rfl, hb⟩
  have H3 := Lib.hid (H2.out.below hb)
  have B3 := Lib.hid (below_2 B2.out hb)
  clear hb y0 y1 y2 y3
  have y0 := H3.out.c5.cell 0
  have y1 := H3.out.c5.cell 1
  have y2 := H3.out.c5.cell 2
  have y3 := H3.out.c5.cell 3
  simp only [List.getElem?_toArray, List.getElem?_cons_succ, List.getElem?_cons_zero] at y0 y1 y2 y3
  go_wp2_with fail
  refine (call_pn H3.out).mono ?_; rintro e' w4 ⟨rfl, hb⟩
  have H4 := Lib.hid (H3.out.below hb)
  have B4 := Lib.hid (below_2 B3.out hb)
  clear hb y0 y1 y2 y3
  have y0 := H4.out.c5.cell 0
  have y1 := H4.out.c5.cell 1
  have y2 := H4.out.c5.cell 2
  have y3 := H4.out.c5.cell 3
  simp only [List.getElem?_toArray, List.getElem?_cons_succ, List.getElem?_cons_zero] at y0 y1 y2 y3
  go_wp2_with fail
  refine (call_rn H4.out).mono ?_; rintro e' w5 ⟨rfl, hb⟩
  have H5 := Lib.hid (H4.out.below hb)
  have B5 := Lib.hid (below_2 B4.out hb)
  clear hb y0 y1 y2 y3
  have y0 := H5.out.c4.cell 0
  have y1 := H5.out.c4.cell 1
  have y2 := H5.out.c4.cell 2
  have y3 := H5.out.c4.cell 3
  simp only [List.getElem?_toArray, List.getElem?_cons_succ, List.getElem?_cons_zero] at y0 y1 y2 y3
  go_wp2_with fail
  refine (call_rg H5.out).mono ?_; rintro e' w6 ⟨rfl, hb⟩
  have H6 := Lib.hid (H5.out.below hb)
  have B6 := Lib.hid (below_2 B5.out hb)
  clear hb y0 y1 y2 y3
  go_wp2_with fail
  go_ret
  exact ⟨rfl, B6.out⟩
end Go.Proofs.YtkjefigebdbkaaaGreatDoor.N
namespace Go.Proofs.YtkjefigebdbkaaaGreatDoor.N
open Go.RowKit
open A (Ex Pr exV exO exV_mk exO_mk okE Bx exprs prV prO OkP PrIn)
open L (below_2 below_box ret_bool ret_int)

set_option maxHeartbeats 8000000 in
set_option maxRecDepth 100000 in
theorem rCheck12_any (p : Pr) (a1 a2 : Option Addr) (c1 c2 : Nat) (hok : OkP p) (w : World) (hK : PrIn w p a1 a2) :
    Calls Tryz.prog 9 #[prV p a1 c1 a2 c2] w fun e' w' => e' = .returned (.int .i64 (checkN p)) ∧ Below w.heap.size w w' := by
  obtain ⟨W1, e1⟩ : ∃ z, z = w.alloc (.cells #[.string p.name, .slice a1 p.params.length c1, .slice a2 p.body.length c2] 25) := ⟨_, rfl⟩
  have bb1 : Below w.heap.size w W1 := by rw [e1]; exact below_box _ _
  have xx1 := Bx.new w #[.string p.name, .slice a1 p.params.length c1, .slice a2 p.body.length c2] 25
  rw [← e1] at xx1
  have HB := Lib.hid bb1
  have HX := Lib.hid xx1
  have HW : Hid (w.alloc (.cells #[.string p.name, .slice a1 p.params.length c1, .slice a2 p.body.length c2] 25) = W1) := by show _ = _; rw [← e1]
  have HC := Lib.hid (Y.rCheck_all p a1 a2 c1 c2 hok W1 (hK.below bb1))
  have HF := Lib.hid (fun w' (hb : Below W1.heap.size W1 w') => rFirst_any p a1 a2 c1 c2 hok w' (hK.below (below_2 bb1 hb)))
  have hch : checkN p = if Y.chkR p ≠ 0 then Y.chkR p else if (firstN p).2.2 = true then 12 else 0 := by
    unfold checkN; rw [(Y.chk_main p).1]
  obtain ⟨R, hR⟩ : ∃ R, checkN p = R := ⟨_, rfl⟩
  rw [hR] at hch ⊢
  have HR := Lib.hid hch
  generalize Y.chkR p = x at *
  generalize firstN p = y at *
  obtain ⟨y1, y2, y3⟩ := y
  dsimp only at HF HR
  unfold prV at *
  clear e1 bb1 xx1 hok hK hch hR
  by_cases h0 : x = 0
  case neg =>
    have b1 : (x != 0) = true := bne_iff_ne.2 h0
    have HV : Hid (R = x) := by show _ = _; rw [HR.out, if_pos h0]
    clear h0
    go_enter Tryz.func9, Tryz.ntmps9
    go_wp2_with fail
    rw [HW.out]
    have x0 := (HX.out).cell 0
    have x1 := (HX.out).cell 1
    have x2 := (HX.out).cell 2
    simp only [List.getElem?_toArray, List.getElem?_cons_zero, List.getElem?_cons_succ] at x0 x1 x2
    go_wp2_with fail
    refine HC.out.mono ?_; rintro e' w2 ⟨rfl, hb2⟩
    have HB2 := Lib.hid (below_2 HB.out hb2)
    clear hb2 x0 x1 x2
    go_wp2_with fail
    go_ret
    exact ⟨ret_int HV.out.symm, HB2.out⟩
  subst h0
  have HV : Hid (R = if y3 = true then 12 else 0) := by show _ = _; rw [HR.out, if_neg (fun z => z rfl)]
  go_enter Tryz.func9, Tryz.ntmps9
  go_wp2_with fail
  rw [HW.out]
  have x0 := (HX.out).cell 0
  have x1 := (HX.out).cell 1
  have x2 := (HX.out).cell 2
  simp only [List.getElem?_toArray, List.getElem?_cons_zero, List.getElem?_cons_succ] at x0 x1 x2
  go_wp2_with fail
  refine HC.out.mono ?_; rintro e' w2 ⟨rfl, hb2⟩
  have HB2 := Lib.hid (below_2 HB.out hb2)
  have HF2 := Lib.hid (HF.out w2 hb2)
  have z0 := (HX.out.below hb2).cell 0
  have z1 := (HX.out.below hb2).cell 1
  have z2 := (HX.out.below hb2).cell 2
  simp only [List.getElem?_toArray, List.getElem?_cons_zero, List.getElem?_cons_succ] at z0 z1 z2
  clear hb2 HC x0 x1 x2
  go_wp2_with fail
  refine HF2.out.mono ?_; rintro e' w3 ⟨rfl, hb3⟩
  have HB3 := Lib.hid (below_2 HB2.out hb3)
  clear hb3 z0 z1 z2
  cases y3 with
  | true =>
    have HV2 : Hid (R = 12) := HV.out
    go_wp2_with fail
    go_ret
    exact ⟨ret_int HV2.out.symm, HB3.out⟩
  | false =>
    have HV2 : Hid (R = 0) := HV.out
    go_wp2_with fail
    go_ret
    exact ⟨ret_int HV2.out.symm, HB3.out⟩
set_option maxHeartbeats 8000000 in
set_option maxRecDepth 100000 in
theorem lawChecks_any (p : Pr) (a1 a2 : Option Addr) (c1 c2 : Nat) (hok : OkP p) (hc1 : p.params.length ≤ c1) (w : World) (ht : Y.Tb w) (hK : PrIn w p a1 a2) :
    Calls Tryz.prog 3 #[prV p a1 c1 a2 c2] w fun e' w' => e' = .returned (.bool true) ∧ Below w.heap.size w w' := by
  obtain ⟨W1, e1⟩ : ∃ z, z = w.alloc (.cells #[.string p.name, .slice a1 p.params.length c1, .slice a2 p.body.length c2] 25) := ⟨_, rfl⟩
  have bb1 : Below w.heap.size w W1 := by rw [e1]; exact below_box _ _
  have xx1 := Bx.new w #[.string p.name, .slice a1 p.params.length c1, .slice a2 p.body.length c2] 25
  rw [← e1] at xx1
  have HB := Lib.hid bb1
  have HX := Lib.hid xx1
  have HW : Hid (w.alloc (.cells #[.string p.name, .slice a1 p.params.length c1, .slice a2 p.body.length c2] 25) = W1) := by show _ = _; rw [← e1]
  have HF := Lib.hid (oFirst_all p a1 a2 c1 c2 hok hc1 W1 (hK.below bb1))
  have HG := Lib.hid (fun w' (hb : Below W1.heap.size W1 w') => rFirst_any p a1 a2 c1 c2 hok w' (hK.below (below_2 bb1 hb)))
  have HC := Lib.hid (fun w' (hb : Below W1.heap.size W1 w') => oCheck_any p a1 a2 c1 c2 hok hc1 w' (ht.below (below_2 bb1 hb)) (hK.below (below_2 bb1 hb)))
  have HD := Lib.hid (fun w' (hb : Below W1.heap.size W1 w') => rCheck12_any p a1 a2 c1 c2 hok w' (hK.below (below_2 bb1 hb)))
  generalize checkN p = x at *
  generalize firstN p = y at *
  obtain ⟨y1, y2, y3⟩ := y
  dsimp only at HF HG
  unfold prV at *
  clear e1 bb1 xx1 hok hc1 hK ht
  go_enter Tryz.func3, Tryz.ntmps3
  go_wp2_with fail
  rw [HW.out]
  have x0 := (HX.out).cell 0
  have x1 := (HX.out).cell 1
  have x2 := (HX.out).cell 2
  simp only [List.getElem?_toArray, List.getElem?_cons_zero, List.getElem?_cons_succ] at x0 x1 x2
  go_wp2_with fail
  refine HF.out.mono ?_; rintro e' w2 ⟨rfl, hb2⟩
  have HB2 := Lib.hid hb2
  clear hb2 x0 x1 x2
  have x0 := (HX.out.below HB2.out).cell 0
  have x1 := (HX.out.below HB2.out).cell 1
  have x2 := (HX.out.below HB2.out).cell 2
  simp only [List.getElem?_toArray, List.getElem?_cons_zero, List.getElem?_cons_succ] at x0 x1 x2
  go_wp2_with fail
  refine (HG.out w2 HB2.out).mono ?_; rintro e' w3 ⟨rfl, hb3⟩
  have HB3 := Lib.hid (below_2 HB2.out hb3)
  clear hb3 x0 x1 x2
  have x0 := (HX.out.below HB3.out).cell 0
  have x1 := (HX.out.below HB3.out).cell 1
  have x2 := (HX.out.below HB3.out).cell 2
  simp only [List.getElem?_toArray, List.getElem?_cons_zero, List.getElem?_cons_succ] at x0 x1 x2
  have r0 := fun d os => cell_regrown x0 d os
  have r1 := fun d os => cell_regrown x1 d os
  have r2 := fun d os => cell_regrown x2 d os
  have D1 := Lib.hid (fun d os => Calls.regrown_of (w := w3) (d := d) (os := os) (HC.out _ (below_2 HB3.out (below_regrown w3 d os))))
  have D2 := Lib.hid (fun d os => Calls.regrown_of (w := w3) (d := d) (os := os) (HD.out _ (below_2 HB3.out (below_regrown w3 d os))))
  have D3 := Lib.hid (fun d os => Calls.regrown_of (w := w3) (d := d) (os := os) (examples_any (Sort.grow (redrawn w3 d) os)))
  go_upto_region 3 with fail
  clear x0 x1 x2
  refine wp_region_quiet_below (by kernel_rfl) (by kernel_rfl) ?_
  repeat (go_big_quiet_step (first | with_reducible exact D1.out _ _ | with_reducible exact D2.out _ _ | with_reducible exact D3.out _ _))
  refine wpQuiet_nil ?_
  intro w6 hw'
  have hbq : Below w3.heap.size w3 w6 := by obtain ⟨pq, rfl⟩ := hw'; exact below_regrown _ _ _
  have HBq := Lib.hid (below_2 HB.out (below_2 HB3.out hbq))
  clear r0 r1 r2 D1 D2 D3 hw' hbq
  go_wp2_with fail
  go_ret
  exact ⟨rfl, HBq.out⟩
end Go.Proofs.YtkjefigebdbkaaaGreatDoor.N
