/-
  The program's function walk of layer 8, for each function value that it is called with: what walk leaves is what the steps leave, node by node.
-/
import Derived.Test.YtbmdadhbkdkgmaaDoorGE
namespace Go.Proofs.YtbmdadhbkdkgmaaDoor.A
open Go.RowKit
open L (Str isName prt size_len below_2 below_box ret_bool ret_int eql_eq bytes_eq)

/-- a step of walk, and what it keeps -/
structure VisV {σ : Type} (q1 : Addr) (g : σ → U → σ × Bool) (w0 : World) (J : Nat → (Nat → Prop) → σ → World → Prop) : Prop where
  call : ∀ (n : Nat) (X : Nat → Prop) (s : σ) (u : U) (ps pe : Option Addr) (w : World), n ≤ 400 → (∀ k, X k → w0.heap.size ≤ k ∧ k < w.heap.size) → J n X s w → Below w0.heap.size w0 w → UAt w0 u ps pe → UOk u →
    Calls Tryd.prog 18 #[nodeV ps pe u.d, .pointer (some q1)] w fun e w' => e = .returned (.bool (g s u).2) ∧ J (n + 1) X (g s u).1 w' ∧ Below w0.heap.size w w' ∧ (∀ k, X k → w'.heap[k]? = w.heap[k]?)
  keep : ∀ (n : Nat) (X : Nat → Prop) (s : σ) (w w' : World), J n X s w → w.heap.size ≤ w'.heap.size → (∀ k, k < w.heap.size → ¬ X k → w'.heap[k]? = w.heap[k]?) → J n X s w'
  wide : ∀ (n : Nat) (X : Nat → Prop) (s : σ) (w : World), J n (fun _ => False) s w → (∀ k, X k → w.heap.size ≤ k) → J n X s w
  narrow : ∀ (n : Nat) (X : Nat → Prop) (s : σ) (w : World), J n X s w → J n (fun _ => False) s w
set_option maxHeartbeats 2000000 in
set_option maxRecDepth 100000 in
theorem stepV {σ : Type} {q1 : Addr} {g : σ → U → σ × Bool} {w0 : World} {J : Nat → (Nat → Prop) → σ → World → Prop} (H : VisV q1 g w0 J) {N M : Nat} (hN : w0.heap.size ≤ N) (hM : w0.heap.size ≤ M) (hne : N ≠ M) :
    StepW ⟨N, 0, none⟩ ⟨M, 0, none⟩ (cnt g) w0 (fun b x w => Cell1 N (.int .i64 x.1) w ∧ Cell1 M (.func (Fn.func 18) #[] #[.pointer (some q1)]) w ∧ ∃ n : Nat, x.1 = (n : Int) ∧ (b = true → n ≤ 400) ∧ J n (fun k => k = N ∨ k = M) x.2 w) := by
  refine ⟨fun x u ps pe w hI hb0 hat hok => ?_⟩
  obtain ⟨z, s⟩ := x
  obtain ⟨hN1, hM1, n, hzn, hn, hJ⟩ := hI
  simp only at hN1 hM1 hJ hzn
  have hn4 := hn rfl
  obtain ⟨z2, hz⟩ : ∃ z2, IntKind.i64.wrap (z + 1) = z2 := ⟨_, rfl⟩
  have hz2 : z2 = ((n + 1 : Nat) : Int) := by rw [← hz, hzn, wrap_small (by omega) (by omega)]; rfl
  have hw := below_box w (.cells #[.pointer ps, .pointer pe, .int .i64 (u.d : Int)] 54)
  have hs : ((w.alloc (.cells #[.pointer ps, .pointer pe, .int .i64 (u.d : Int)] 54)).setCell ⟨N, 0, none⟩ (.int .i64 z2)).heap.size = (w.alloc (.cells #[.pointer ps, .pointer pe, .int .i64 (u.d : Int)] 54)).heap.size := by simp
  have hN2 := (hN1.later hw).set (u := .int .i64 z2)
  have hM2 : Cell1 M (.func (Fn.func 18) #[] #[.pointer (some q1)]) ((w.alloc (.cells #[.pointer ps, .pointer pe, .int .i64 (u.d : Int)] 54)).setCell ⟨N, 0, none⟩ (.int .i64 z2)) := by
    have h := hM1.later hw
    have hk : ((w.alloc (.cells #[.pointer ps, .pointer pe, .int .i64 (u.d : Int)] 54)).setCell ⟨N, 0, none⟩ (.int .i64 z2)).heap[M]? = (w.alloc (.cells #[.pointer ps, .pointer pe, .int .i64 (u.d : Int)] 54)).heap[M]? := Below.heap_setCell _ _ _ _ (by exact hne.symm)
    exact h.moved hk
  have hB2 := hb0.trans (((hw.mono hb0.size).setCell (p := ⟨N, 0, none⟩) hN (.int .i64 z2)))
  have hJ2 := H.keep n _ s w ((w.alloc (.cells #[.pointer ps, .pointer pe, .int .i64 (u.d : Int)] 54)).setCell ⟨N, 0, none⟩ (.int .i64 z2)) hJ (by rw [hs]; exact hw.size) (fun k hk hx => (Below.heap_setCell _ _ _ _ (fun e => hx (Or.inl e))).trans (hw.block k hk))
  have hC := H.call n _ s u ps pe _ hn4 (fun k hk => by
    rcases hk with rfl | rfl
    · exact ⟨hN, by rw [hs]; exact (hN1.later hw).lt⟩
    · exact ⟨hM, by rw [hs]; exact (hM1.later hw).lt⟩) hJ2 hB2 hat hok
  have HB : Hid (Below w0.heap.size w ((w.alloc (.cells #[.pointer ps, .pointer pe, .int .i64 (u.d : Int)] 54)).setCell ⟨N, 0, none⟩ (.int .i64 z2))) := (hw.mono hb0.size).setCell (p := ⟨N, 0, none⟩) hN (.int .i64 z2)
  have HV : Hid (cnt g (z, s) u = ((z2, (g s u).1), (g s u).2 && decide (z2 ≤ 400))) := by show _ = _; unfold cnt; simp only [hz]
  rw [HV.out]
  have HN2 := Lib.hid hN2
  have HM2 := Lib.hid hM2
  have HC := Lib.hid hC
  have hNw := hN1.later hw
  obtain ⟨n1, n2, n3⟩ := hNw
  have m2 := hM2.cell
  have n0 := hN1.cell
  have hnw : w.heap.size ≠ N := fun h => Nat.lt_irrefl _ (h ▸ hN1.lt)
  have hblk : ((w.alloc (.cells #[.pointer ps, .pointer pe, .int .i64 (u.d : Int)] 54)).setCell ⟨N, 0, none⟩ (.int .i64 z2)).heap[w.heap.size]? = (w.alloc (.cells #[.pointer ps, .pointer pe, .int .i64 (u.d : Int)] 54)).heap[w.heap.size]? := Below.heap_setCell _ _ _ _ (by exact hnw)
  have d0 := (World.cell?_of_block (a := ⟨w.heap.size, 0, none⟩) hblk).trans (show _ = some (.pointer ps) by go_simp)
  have d1 := (World.cell?_of_block (a := ⟨w.heap.size, 1, none⟩) hblk).trans (show _ = some (.pointer pe) by go_simp)
  have d2 := (World.cell?_of_block (a := ⟨w.heap.size, 2, none⟩) hblk).trans (show _ = some (.int .i64 (u.d : Int)) by go_simp)
  unfold nodeV at *
  generalize g s u = r at HC ⊢
  obtain ⟨s2, y⟩ := r
  simp only at HC ⊢
  have HZ2 := Lib.hid hz2
  clear hw hs hN2 hM2 hB2 hJ2 hC hN1 hM1 hJ hz2 hzn hn HV hat hok hb0 hblk hnw
  cases y
  · go_enter Tryd.func36, Tryd.ntmps36
    go_wp2_with fail
    refine HC.out.mono ?_; rintro e' w2 ⟨rfl, hJ2, hb2, hx⟩
    have HI : Hid (Cell1 N (.int .i64 z2) w2 ∧ Cell1 M (.func (Fn.func 18) #[] #[.pointer (some q1)]) w2 ∧ ∃ n' : Nat, z2 = (n' : Int) ∧ (false = true → n' ≤ 400) ∧ J n' (fun k => k = N ∨ k = M) s2 w2) := ⟨HN2.out.moved2 (hx N (Or.inl rfl)), HM2.out.moved2 (hx M (Or.inr rfl)), n + 1, HZ2.out, (fun hb => by cases hb), hJ2⟩
    have HB2 := Lib.hid (HB.out.trans hb2)
    clear hJ2 hb2 hx
    go_wp2_with fail
    go_ret
    exact ⟨rfl, HI.out, HB2.out⟩
  · obtain ⟨t, ht⟩ : ∃ t, decide (z2 ≤ 400) = t := ⟨_, rfl⟩
    rw [ht]
    have HT := Lib.hid ht
    go_enter Tryd.func36, Tryd.ntmps36
    go_wp2_with fail
    refine HC.out.mono ?_; rintro e' w2 ⟨rfl, hJ2, hb2, hx⟩
    have HI : Hid (Cell1 N (.int .i64 z2) w2 ∧ Cell1 M (.func (Fn.func 18) #[] #[.pointer (some q1)]) w2 ∧ ∃ n' : Nat, z2 = (n' : Int) ∧ ((true && t) = true → n' ≤ 400) ∧ J n' (fun k => k = N ∨ k = M) s2 w2) := ⟨HN2.out.moved2 (hx N (Or.inl rfl)), HM2.out.moved2 (hx M (Or.inr rfl)), n + 1, HZ2.out, (fun hb => by have := HT.out; rw [Bool.true_and] at hb; rw [hb] at this; have h4 := of_decide_eq_true this; have h5 := HZ2.out; omega), hJ2⟩
    have HB2 := Lib.hid (HB.out.trans hb2)
    have n4 := HI.out.1.cell
    clear hJ2 hb2 hx
    go_wp2_with fail
    go_ret
    exact ⟨rfl, HI.out, HB2.out⟩
set_option maxHeartbeats 2000000 in
set_option maxRecDepth 100000 in
theorem owalkV_any {σ : Type} {q1 : Addr} {g : σ → U → σ × Bool} {w0 : World} {J : Nat → (Nat → Prop) → σ → World → Prop} (H : VisV q1 g w0 J) (p : Pr) (a1 : Option Addr) (c1 : Nat) (a2 : Option Addr) (c2 : Nat) (hok : okB p.body) (hl : p.body.length ≤ 1000000000000000) (hK : Bodies w0 a2 p.body)
    (s : σ) (w : World) (hJ : J 0 (fun _ => False) s w) (hb0 : Below w0.heap.size w0 w) :
    Calls Tryd.prog 17 #[prV p a1 c1 a2 c2, .func (Fn.func 18) #[] #[.pointer (some q1)]] w fun e' w' => e' = .returned (.tuple #[]) ∧ (∃ n', J n' (fun _ => False) (run g s (walkU p)).1 w') ∧ Below w0.heap.size w w' := by
  have hz := hb0.size
  have hw := below_2 (below_2 (below_box w (prO p a1 c1 a2 c2)) (below_box _ (.cells #[.func (Fn.func 18) #[] #[.pointer (some q1)]] 56))) (below_box _ (.cells #[.int .i64 0] 3))
  have hst := stepV H (N := w.heap.size + 2) (M := w.heap.size + 1) (by omega) (by omega) (by omega)
  have hJ2 := H.keep 0 _ s w (((w.alloc (prO p a1 c1 a2 c2)).alloc (.cells #[.func (Fn.func 18) #[] #[.pointer (some q1)]] 56)).alloc (.cells #[.int .i64 0] 3)) (H.wide 0 (fun k => k = w.heap.size + 2 ∨ k = w.heap.size + 1) s w hJ (fun k hk => by omega)) hw.size (fun k hk _ => hw.block k hk)
  have hN : Cell1 (w.heap.size + 2) (.int .i64 0) (((w.alloc (prO p a1 c1 a2 c2)).alloc (.cells #[.func (Fn.func 18) #[] #[.pointer (some q1)]] 56)).alloc (.cells #[.int .i64 0] 3)) := cell1_at (by simp)
  have hM : Cell1 (w.heap.size + 1) (.func (Fn.func 18) #[] #[.pointer (some q1)]) (((w.alloc (prO p a1 c1 a2 c2)).alloc (.cells #[.func (Fn.func 18) #[] #[.pointer (some q1)]] 56)).alloc (.cells #[.int .i64 0] 3)) := (cell1_at (by simp)).later (below_box _ _)
  have hB : Below w0.heap.size w _ := hw.mono hz
  have hC := owalkStmts_any hst (cn_cnt g) p.body a2 c2 1 (0, s) _ hok hl ⟨Int.le_refl 0, (by decide : (0 : Int) ≤ 400), (by decide : (1 : Int) ≤ 0 + 1)⟩ (Nat.le_refl 1) hK ⟨hN, hM, 0, rfl, fun _ => by omega, hJ2⟩ (hb0.trans hB)
  have HRW := Lib.hid (run_walk g s p)
  rw [← HRW.out]
  generalize run (cnt g) (0, s) (nB p.body 1) = r at hC ⊢
  have HC := Lib.hid hC
  have HB := Lib.hid hB
  have HNW : Hid (∀ n w2, J n (fun k => k = w.heap.size + 2 ∨ k = w.heap.size + 1) r.1.2 w2 → J n (fun _ => False) r.1.2 w2) := fun n w2 h => H.narrow _ _ _ _ h
  simp only [show ((1 : Nat) : Int) = 1 from rfl] at HC
  unfold prO at HC HB
  unfold prV
  clear hz hw hst hJ2 hN hM hB hC HRW hok hl hK hJ hb0 H
  go_enter Tryd.func17, Tryd.ntmps17
  go_wp2_with fail
  refine HC.out.mono ?_; rintro e' w2 ⟨rfl, ⟨_, _, n3, _, _, hJ3⟩, hb2⟩
  have HJ3 := Lib.hid (HNW.out n3 w2 hJ3)
  have HB2 := Lib.hid (HB.out.trans hb2)
  clear hJ3 hb2
  go_wp2_with fail
  go_end0
  exact ⟨rfl, ⟨n3, HJ3.out⟩, HB2.out⟩
/-- a step of walk, and what it keeps -/
structure VisN {σ : Type} (q1 : Addr) (g : σ → U → σ × Bool) (w0 : World) (J : Nat → (Nat → Prop) → σ → World → Prop) : Prop where
  call : ∀ (n : Nat) (X : Nat → Prop) (s : σ) (u : U) (ps pe : Option Addr) (w : World), n ≤ 400 → (∀ k, X k → w0.heap.size ≤ k ∧ k < w.heap.size) → J n X s w → Below w0.heap.size w0 w → UAt w0 u ps pe → UOk u →
    Calls Tryd.prog 41 #[nodeV ps pe u.d, .pointer (some q1)] w fun e w' => e = .returned (.bool (g s u).2) ∧ J (n + 1) X (g s u).1 w' ∧ Below w0.heap.size w w' ∧ (∀ k, X k → w'.heap[k]? = w.heap[k]?)
  keep : ∀ (n : Nat) (X : Nat → Prop) (s : σ) (w w' : World), J n X s w → w.heap.size ≤ w'.heap.size → (∀ k, k < w.heap.size → ¬ X k → w'.heap[k]? = w.heap[k]?) → J n X s w'
  wide : ∀ (n : Nat) (X : Nat → Prop) (s : σ) (w : World), J n (fun _ => False) s w → (∀ k, X k → w.heap.size ≤ k) → J n X s w
  narrow : ∀ (n : Nat) (X : Nat → Prop) (s : σ) (w : World), J n X s w → J n (fun _ => False) s w
set_option maxHeartbeats 2000000 in
set_option maxRecDepth 100000 in
theorem stepN {σ : Type} {q1 : Addr} {g : σ → U → σ × Bool} {w0 : World} {J : Nat → (Nat → Prop) → σ → World → Prop} (H : VisN q1 g w0 J) {N M : Nat} (hN : w0.heap.size ≤ N) (hM : w0.heap.size ≤ M) (hne : N ≠ M) :
    StepW ⟨N, 0, none⟩ ⟨M, 0, none⟩ (cnt g) w0 (fun b x w => Cell1 N (.int .i64 x.1) w ∧ Cell1 M (.func (Fn.func 41) #[] #[.pointer (some q1)]) w ∧ ∃ n : Nat, x.1 = (n : Int) ∧ (b = true → n ≤ 400) ∧ J n (fun k => k = N ∨ k = M) x.2 w) := by
  refine ⟨fun x u ps pe w hI hb0 hat hok => ?_⟩
  obtain ⟨z, s⟩ := x
  obtain ⟨hN1, hM1, n, hzn, hn, hJ⟩ := hI
  simp only at hN1 hM1 hJ hzn
  have hn4 := hn rfl
  obtain ⟨z2, hz⟩ : ∃ z2, IntKind.i64.wrap (z + 1) = z2 := ⟨_, rfl⟩
  have hz2 : z2 = ((n + 1 : Nat) : Int) := by rw [← hz, hzn, wrap_small (by omega) (by omega)]; rfl
  have hw := below_box w (.cells #[.pointer ps, .pointer pe, .int .i64 (u.d : Int)] 54)
  have hs : ((w.alloc (.cells #[.pointer ps, .pointer pe, .int .i64 (u.d : Int)] 54)).setCell ⟨N, 0, none⟩ (.int .i64 z2)).heap.size = (w.alloc (.cells #[.pointer ps, .pointer pe, .int .i64 (u.d : Int)] 54)).heap.size := by simp
  have hN2 := (hN1.later hw).set (u := .int .i64 z2)
  have hM2 : Cell1 M (.func (Fn.func 41) #[] #[.pointer (some q1)]) ((w.alloc (.cells #[.pointer ps, .pointer pe, .int .i64 (u.d : Int)] 54)).setCell ⟨N, 0, none⟩ (.int .i64 z2)) := by
    have h := hM1.later hw
    have hk : ((w.alloc (.cells #[.pointer ps, .pointer pe, .int .i64 (u.d : Int)] 54)).setCell ⟨N, 0, none⟩ (.int .i64 z2)).heap[M]? = (w.alloc (.cells #[.pointer ps, .pointer pe, .int .i64 (u.d : Int)] 54)).heap[M]? := Below.heap_setCell _ _ _ _ (by exact hne.symm)
    exact h.moved hk
  have hB2 := hb0.trans (((hw.mono hb0.size).setCell (p := ⟨N, 0, none⟩) hN (.int .i64 z2)))
  have hJ2 := H.keep n _ s w ((w.alloc (.cells #[.pointer ps, .pointer pe, .int .i64 (u.d : Int)] 54)).setCell ⟨N, 0, none⟩ (.int .i64 z2)) hJ (by rw [hs]; exact hw.size) (fun k hk hx => (Below.heap_setCell _ _ _ _ (fun e => hx (Or.inl e))).trans (hw.block k hk))
  have hC := H.call n _ s u ps pe _ hn4 (fun k hk => by
    rcases hk with rfl | rfl
    · exact ⟨hN, by rw [hs]; exact (hN1.later hw).lt⟩
    · exact ⟨hM, by rw [hs]; exact (hM1.later hw).lt⟩) hJ2 hB2 hat hok
  have HB : Hid (Below w0.heap.size w ((w.alloc (.cells #[.pointer ps, .pointer pe, .int .i64 (u.d : Int)] 54)).setCell ⟨N, 0, none⟩ (.int .i64 z2))) := (hw.mono hb0.size).setCell (p := ⟨N, 0, none⟩) hN (.int .i64 z2)
  have HV : Hid (cnt g (z, s) u = ((z2, (g s u).1), (g s u).2 && decide (z2 ≤ 400))) := by show _ = _; unfold cnt; simp only [hz]
  rw [HV.out]
  have HN2 := Lib.hid hN2
  have HM2 := Lib.hid hM2
  have HC := Lib.hid hC
  have hNw := hN1.later hw
  obtain ⟨n1, n2, n3⟩ := hNw
  have m2 := hM2.cell
  have n0 := hN1.cell
  have hnw : w.heap.size ≠ N := fun h => Nat.lt_irrefl _ (h ▸ hN1.lt)
  have hblk : ((w.alloc (.cells #[.pointer ps, .pointer pe, .int .i64 (u.d : Int)] 54)).setCell ⟨N, 0, none⟩ (.int .i64 z2)).heap[w.heap.size]? = (w.alloc (.cells #[.pointer ps, .pointer pe, .int .i64 (u.d : Int)] 54)).heap[w.heap.size]? := Below.heap_setCell _ _ _ _ (by exact hnw)
  have d0 := (World.cell?_of_block (a := ⟨w.heap.size, 0, none⟩) hblk).trans (show _ = some (.pointer ps) by go_simp)
  have d1 := (World.cell?_of_block (a := ⟨w.heap.size, 1, none⟩) hblk).trans (show _ = some (.pointer pe) by go_simp)
  have d2 := (World.cell?_of_block (a := ⟨w.heap.size, 2, none⟩) hblk).trans (show _ = some (.int .i64 (u.d : Int)) by go_simp)
  unfold nodeV at *
  generalize g s u = r at HC ⊢
  obtain ⟨s2, y⟩ := r
  simp only at HC ⊢
  have HZ2 := Lib.hid hz2
  clear hw hs hN2 hM2 hB2 hJ2 hC hN1 hM1 hJ hz2 hzn hn HV hat hok hb0 hblk hnw
  cases y
  · go_enter Tryd.func36, Tryd.ntmps36
    go_wp2_with fail
    refine HC.out.mono ?_; rintro e' w2 ⟨rfl, hJ2, hb2, hx⟩
    have HI : Hid (Cell1 N (.int .i64 z2) w2 ∧ Cell1 M (.func (Fn.func 41) #[] #[.pointer (some q1)]) w2 ∧ ∃ n' : Nat, z2 = (n' : Int) ∧ (false = true → n' ≤ 400) ∧ J n' (fun k => k = N ∨ k = M) s2 w2) := ⟨HN2.out.moved2 (hx N (Or.inl rfl)), HM2.out.moved2 (hx M (Or.inr rfl)), n + 1, HZ2.out, (fun hb => by cases hb), hJ2⟩
    have HB2 := Lib.hid (HB.out.trans hb2)
    clear hJ2 hb2 hx
    go_wp2_with fail
    go_ret
    exact ⟨rfl, HI.out, HB2.out⟩
  · obtain ⟨t, ht⟩ : ∃ t, decide (z2 ≤ 400) = t := ⟨_, rfl⟩
    rw [ht]
    have HT := Lib.hid ht
    go_enter Tryd.func36, Tryd.ntmps36
    go_wp2_with fail
    refine HC.out.mono ?_; rintro e' w2 ⟨rfl, hJ2, hb2, hx⟩
    have HI : Hid (Cell1 N (.int .i64 z2) w2 ∧ Cell1 M (.func (Fn.func 41) #[] #[.pointer (some q1)]) w2 ∧ ∃ n' : Nat, z2 = (n' : Int) ∧ ((true && t) = true → n' ≤ 400) ∧ J n' (fun k => k = N ∨ k = M) s2 w2) := ⟨HN2.out.moved2 (hx N (Or.inl rfl)), HM2.out.moved2 (hx M (Or.inr rfl)), n + 1, HZ2.out, (fun hb => by have := HT.out; rw [Bool.true_and] at hb; rw [hb] at this; have h4 := of_decide_eq_true this; have h5 := HZ2.out; omega), hJ2⟩
    have HB2 := Lib.hid (HB.out.trans hb2)
    have n4 := HI.out.1.cell
    clear hJ2 hb2 hx
    go_wp2_with fail
    go_ret
    exact ⟨rfl, HI.out, HB2.out⟩
set_option maxHeartbeats 2000000 in
set_option maxRecDepth 100000 in
theorem owalkN_any {σ : Type} {q1 : Addr} {g : σ → U → σ × Bool} {w0 : World} {J : Nat → (Nat → Prop) → σ → World → Prop} (H : VisN q1 g w0 J) (p : Pr) (a1 : Option Addr) (c1 : Nat) (a2 : Option Addr) (c2 : Nat) (hok : okB p.body) (hl : p.body.length ≤ 1000000000000000) (hK : Bodies w0 a2 p.body)
    (s : σ) (w : World) (hJ : J 0 (fun _ => False) s w) (hb0 : Below w0.heap.size w0 w) :
    Calls Tryd.prog 17 #[prV p a1 c1 a2 c2, .func (Fn.func 41) #[] #[.pointer (some q1)]] w fun e' w' => e' = .returned (.tuple #[]) ∧ (∃ n', J n' (fun _ => False) (run g s (walkU p)).1 w') ∧ Below w0.heap.size w w' := by
  have hz := hb0.size
  have hw := below_2 (below_2 (below_box w (prO p a1 c1 a2 c2)) (below_box _ (.cells #[.func (Fn.func 41) #[] #[.pointer (some q1)]] 56))) (below_box _ (.cells #[.int .i64 0] 3))
  have hst := stepN H (N := w.heap.size + 2) (M := w.heap.size + 1) (by omega) (by omega) (by omega)
  have hJ2 := H.keep 0 _ s w (((w.alloc (prO p a1 c1 a2 c2)).alloc (.cells #[.func (Fn.func 41) #[] #[.pointer (some q1)]] 56)).alloc (.cells #[.int .i64 0] 3)) (H.wide 0 (fun k => k = w.heap.size + 2 ∨ k = w.heap.size + 1) s w hJ (fun k hk => by omega)) hw.size (fun k hk _ => hw.block k hk)
  have hN : Cell1 (w.heap.size + 2) (.int .i64 0) (((w.alloc (prO p a1 c1 a2 c2)).alloc (.cells #[.func (Fn.func 41) #[] #[.pointer (some q1)]] 56)).alloc (.cells #[.int .i64 0] 3)) := cell1_at (by simp)
  have hM : Cell1 (w.heap.size + 1) (.func (Fn.func 41) #[] #[.pointer (some q1)]) (((w.alloc (prO p a1 c1 a2 c2)).alloc (.cells #[.func (Fn.func 41) #[] #[.pointer (some q1)]] 56)).alloc (.cells #[.int .i64 0] 3)) := (cell1_at (by simp)).later (below_box _ _)
  have hB : Below w0.heap.size w _ := hw.mono hz
  have hC := owalkStmts_any hst (cn_cnt g) p.body a2 c2 1 (0, s) _ hok hl ⟨Int.le_refl 0, (by decide : (0 : Int) ≤ 400), (by decide : (1 : Int) ≤ 0 + 1)⟩ (Nat.le_refl 1) hK ⟨hN, hM, 0, rfl, fun _ => by omega, hJ2⟩ (hb0.trans hB)
  have HRW := Lib.hid (run_walk g s p)
  rw [← HRW.out]
  generalize run (cnt g) (0, s) (nB p.body 1) = r at hC ⊢
  have HC := Lib.hid hC
  have HB := Lib.hid hB
  have HNW : Hid (∀ n w2, J n (fun k => k = w.heap.size + 2 ∨ k = w.heap.size + 1) r.1.2 w2 → J n (fun _ => False) r.1.2 w2) := fun n w2 h => H.narrow _ _ _ _ h
  simp only [show ((1 : Nat) : Int) = 1 from rfl] at HC
  unfold prO at HC HB
  unfold prV
  clear hz hw hst hJ2 hN hM hB hC HRW hok hl hK hJ hb0 H
  go_enter Tryd.func17, Tryd.ntmps17
  go_wp2_with fail
  refine HC.out.mono ?_; rintro e' w2 ⟨rfl, ⟨_, _, n3, _, _, hJ3⟩, hb2⟩
  have HJ3 := Lib.hid (HNW.out n3 w2 hJ3)
  have HB2 := Lib.hid (HB.out.trans hb2)
  clear hJ3 hb2
  go_wp2_with fail
  go_end0
  exact ⟨rfl, ⟨n3, HJ3.out⟩, HB2.out⟩
end Go.Proofs.YtbmdadhbkdkgmaaDoor.A
