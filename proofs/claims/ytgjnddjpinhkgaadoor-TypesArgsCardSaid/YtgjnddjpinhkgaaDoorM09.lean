/-
  The program's function walk of layer 8, for each function value that it is called with: what walk leaves is what the steps leave, node by node.
  What the program's functions of layer 8 return: Nodes, Depth: contracts.
  What the program's function Validate of layer 8 returns: its contract.
  What the program's functions of layer 8 return: equalStmts, slices.EqualFunc of statements: contracts.
  What the reference of layer 8 returns: stmt: what its walks share.
-/
import Derived.Test.YtgjnddjpinhkgaaDoorM06
import Derived.Test.YtgjnddjpinhkgaaDoorM08
import Derived.Test.YtgjnddjpinhkgaaDoorM05
import Derived.Test.YtgjnddjpinhkgaaDoorM07
import Derived.Deep.Cut
import Derived.Deep.RegionLaw
import Derived.BigQuiet
namespace Go.Proofs.YtgjnddjpinhkgaaDoor.A
open Go.RowKit
open L (Str isName prt size_len below_2 below_box ret_bool ret_int eql_eq bytes_eq)

/-- a step of walk, and what it keeps -/
structure VisV {σ : Type} (q1 : Addr) (g : σ → U → σ × Bool) (w0 : World) (J : Nat → (Nat → Prop) → σ → World → Prop) : Prop where
  call : ∀ (n : Nat) (X : Nat → Prop) (s : σ) (u : U) (ps pe : Option Addr) (w : World), n ≤ 400 → (∀ k, X k → w0.heap.size ≤ k ∧ k < w.heap.size) → J n X s w → Below w0.heap.size w0 w → UAt w0 u ps pe → UOk u →
    Calls Tryd.prog 57 #[nodeV ps pe u.d, .pointer (some q1)] w fun e w' => e = .returned (.bool (g s u).2) ∧ J (n + 1) X (g s u).1 w' ∧ Below w0.heap.size w w' ∧ (∀ k, X k → w'.heap[k]? = w.heap[k]?)
  keep : ∀ (n : Nat) (X : Nat → Prop) (s : σ) (w w' : World), J n X s w → w.heap.size ≤ w'.heap.size → (∀ k, k < w.heap.size → ¬ X k → w'.heap[k]? = w.heap[k]?) → J n X s w'
  wide : ∀ (n : Nat) (X : Nat → Prop) (s : σ) (w : World), J n (fun _ => False) s w → (∀ k, X k → w.heap.size ≤ k) → J n X s w
  narrow : ∀ (n : Nat) (X : Nat → Prop) (s : σ) (w : World), J n X s w → J n (fun _ => False) s w
set_option maxHeartbeats 2000000 in
set_option maxRecDepth 100000 in
theorem stepV {σ : Type} {q1 : Addr} {g : σ → U → σ × Bool} {w0 : World} {J : Nat → (Nat → Prop) → σ → World → Prop} (H : VisV q1 g w0 J) {N M : Nat} (hN : w0.heap.size ≤ N) (hM : w0.heap.size ≤ M) (hne : N ≠ M) :
    StepW ⟨N, 0, none⟩ ⟨M, 0, none⟩ (cnt g) w0 (fun b x w => Cell1 N (.int .i64 x.1) w ∧ Cell1 M (.func (Fn.func 57) #[] #[.pointer (some q1)]) w ∧ ∃ n : Nat, x.1 = (n : Int) ∧ (b = true → n ≤ 400) ∧ J n (fun k => k = N ∨ k = M) x.2 w) := by
  refine ⟨fun x u ps pe w hI hb0 hat hok => ?_⟩
  obtain ⟨z, s⟩ := x
  obtain ⟨hN1, hM1, n, hzn, hn, hJ⟩ := hI
  simp only at hN1 hM1 hJ hzn
  have hn4 := hn rfl
  obtain ⟨z2, hz⟩ : ∃ z2, IntKind.i64.wrap (z + 1) = z2 := ⟨_, rfl⟩
  have hz2 : z2 = ((n + 1 : Nat) : Int) := by rw [← hz, hzn, wrap_small (by omega) (by omega)]; rfl
  have hw := below_box w (.cells #[.pointer ps, .pointer pe, .int .i64 (u.d : Int)] 91)
  have hs : ((w.alloc (.cells #[.pointer ps, .pointer pe, .int .i64 (u.d : Int)] 91)).setCell ⟨N, 0, none⟩ (.int .i64 z2)).heap.size = (w.alloc (.cells #[.pointer ps, .pointer pe, .int .i64 (u.d : Int)] 91)).heap.size := by simp
  have hN2 := (hN1.later hw).set (u := .int .i64 z2)
  have hM2 : Cell1 M (.func (Fn.func 57) #[] #[.pointer (some q1)]) ((w.alloc (.cells #[.pointer ps, .pointer pe, .int .i64 (u.d : Int)] 91)).setCell ⟨N, 0, none⟩ (.int .i64 z2)) := by
    have h := hM1.later hw
    have hk : ((w.alloc (.cells #[.pointer ps, .pointer pe, .int .i64 (u.d : Int)] 91)).setCell ⟨N, 0, none⟩ (.int .i64 z2)).heap[M]? = (w.alloc (.cells #[.pointer ps, .pointer pe, .int .i64 (u.d : Int)] 91)).heap[M]? := Below.heap_setCell _ _ _ _ (by exact hne.symm)
    exact h.moved hk
  have hB2 := hb0.trans (((hw.mono hb0.size).setCell (p := ⟨N, 0, none⟩) hN (.int .i64 z2)))
  have hJ2 := H.keep n _ s w ((w.alloc (.cells #[.pointer ps, .pointer pe, .int .i64 (u.d : Int)] 91)).setCell ⟨N, 0, none⟩ (.int .i64 z2)) hJ (by rw [hs]; exact hw.size) (fun k hk hx => (Below.heap_setCell _ _ _ _ (fun e => hx (Or.inl e))).trans (hw.block k hk))
  have hC := H.call n _ s u ps pe _ hn4 (fun k hk => by
    rcases hk with rfl | rfl
    · exact ⟨hN, by rw [hs]; exact (hN1.later hw).lt⟩
    · exact ⟨hM, by rw [hs]; exact (hM1.later hw).lt⟩) hJ2 hB2 hat hok
  have HB : Hid (Below w0.heap.size w ((w.alloc (.cells #[.pointer ps, .pointer pe, .int .i64 (u.d : Int)] 91)).setCell ⟨N, 0, none⟩ (.int .i64 z2))) := (hw.mono hb0.size).setCell (p := ⟨N, 0, none⟩) hN (.int .i64 z2)
  have HV : Hid (cnt g (z, s) u = ((z2, (g s u).1), (g s u).2 && decide (z2 ≤ 400))) := by show _ = _; unfold cnt; simp only [hz]
  rw [HV.out]
  have HN2 := Lib.hid hN2
  have HM2 := Lib.hid hM2
  have HC := Lib.hid hC
  have hNw := hN1.later hw
  obtain ⟨n1, n2, n3⟩ := hNw
  have m2 := hM2.cell
  have n0 := hN1.cell
  have hnw : w.heap.size ≠ N := fun h => Nat.lt_irrefl _ (h ▸ hN1.lt)
  have hblk : ((w.alloc (.cells #[.pointer ps, .pointer pe, .int .i64 (u.d : Int)] 91)).setCell ⟨N, 0, none⟩ (.int .i64 z2)).heap[w.heap.size]? = (w.alloc (.cells #[.pointer ps, .pointer pe, .int .i64 (u.d : Int)] 91)).heap[w.heap.size]? := Below.heap_setCell _ _ _ _ (by exact hnw)
  have d0 := (World.cell?_of_block (a := ⟨w.heap.size, 0, none⟩) hblk).trans (show _ = some (.pointer ps) by go_simp)
  have d1 := (World.cell?_of_block (a := ⟨w.heap.size, 1, none⟩) hblk).trans (show _ = some (.pointer pe) by go_simp)
  have d2 := (World.cell?_of_block (a := ⟨w.heap.size, 2, none⟩) hblk).trans (show _ = some (.int .i64 (u.d : Int)) by go_simp)
  unfold nodeV at *
  generalize g s u = r at HC ⊢
  obtain ⟨s2, y⟩ := r
  simp only at HC ⊢
  have HZ2 := Lib.hid hz2
  clear hw hs hN2 hM2 hB2 hJ2 hC hN1 hM1 hJ hz2 hzn hn HV hat hok hb0 hblk hnw
  cases y
  · go_enter Tryd.func93, Tryd.ntmps93
    go_wp2_with fail
    refine HC.out.mono ?_; rintro e' w2 ⟨rfl, hJ2, hb2, hx⟩
    have HI : Hid (Cell1 N (.int .i64 z2) w2 ∧ Cell1 M (.func (Fn.func 57) #[] #[.pointer (some q1)]) w2 ∧ ∃ n' : Nat, z2 = (n' : Int) ∧ (false = true → n' ≤ 400) ∧ J n' (fun k => k = N ∨ k = M) s2 w2) := ⟨HN2.out.moved2 (hx N (Or.inl rfl)), HM2.out.moved2 (hx M (Or.inr rfl)), n + 1, HZ2.out, (fun hb => by cases hb), hJ2⟩
    have HB2 := Lib.hid (HB.out.trans hb2)
    clear hJ2 hb2 hx
    go_wp2_with fail
    go_ret
    exact ⟨rfl, HI.out, HB2.out⟩
  · obtain ⟨t, ht⟩ : ∃ t, decide (z2 ≤ 400) = t := ⟨_, rfl⟩
    rw [ht]
    have HT := Lib.hid ht
    go_enter Tryd.func93, Tryd.ntmps93
    go_wp2_with fail
    refine HC.out.mono ?_; rintro e' w2 ⟨rfl, hJ2, hb2, hx⟩
    have HI : Hid (Cell1 N (.int .i64 z2) w2 ∧ Cell1 M (.func (Fn.func 57) #[] #[.pointer (some q1)]) w2 ∧ ∃ n' : Nat, z2 = (n' : Int) ∧ ((true && t) = true → n' ≤ 400) ∧ J n' (fun k => k = N ∨ k = M) s2 w2) := ⟨HN2.out.moved2 (hx N (Or.inl rfl)), HM2.out.moved2 (hx M (Or.inr rfl)), n + 1, HZ2.out, (fun hb => by have := HT.out; rw [Bool.true_and] at hb; rw [hb] at this; have h4 := of_decide_eq_true this; have h5 := HZ2.out; omega), hJ2⟩
    have HB2 := Lib.hid (HB.out.trans hb2)
    have n4 := HI.out.1.cell
    clear hJ2 hb2 hx
    go_wp2_with fail
    go_ret
    exact ⟨rfl, HI.out, HB2.out⟩
set_option maxHeartbeats 2000000 in
set_option maxRecDepth 100000 in
theorem owalkV_any {σ : Type} {q1 : Addr} {g : σ → U → σ × Bool} {w0 : World} {J : Nat → (Nat → Prop) → σ → World → Prop} (H : VisV q1 g w0 J) (p : Pr) (a1 : Option Addr) (c1 : Nat) (a2 : Option Addr) (c2 : Nat) (hok : okB p.body) (hl : p.body.length ≤ 1000000000000000) (hsz : 1 + cB p.body ≤ 1000000) (hK : Bodies w0 a2 p.body)
    (s : σ) (w : World) (hJ : J 0 (fun _ => False) s w) (hb0 : Below w0.heap.size w0 w) :
    Calls Tryd.prog 56 #[prV p a1 c1 a2 c2, .func (Fn.func 57) #[] #[.pointer (some q1)]] w fun e' w' => e' = .returned (.tuple #[]) ∧ (∃ n', J n' (fun _ => False) (run g s (walkU p)).1 w') ∧ Below w0.heap.size w w' := by
  have hz := hb0.size
  have hw := below_2 (below_2 (below_box w (prO p a1 c1 a2 c2)) (below_box _ (.cells #[.func (Fn.func 57) #[] #[.pointer (some q1)]] 93))) (below_box _ (.cells #[.int .i64 0] 3))
  have hst := stepV H (N := w.heap.size + 2) (M := w.heap.size + 1) (by omega) (by omega) (by omega)
  have hJ2 := H.keep 0 _ s w (((w.alloc (prO p a1 c1 a2 c2)).alloc (.cells #[.func (Fn.func 57) #[] #[.pointer (some q1)]] 93)).alloc (.cells #[.int .i64 0] 3)) (H.wide 0 (fun k => k = w.heap.size + 2 ∨ k = w.heap.size + 1) s w hJ (fun k hk => by omega)) hw.size (fun k hk _ => hw.block k hk)
  have hN : Cell1 (w.heap.size + 2) (.int .i64 0) (((w.alloc (prO p a1 c1 a2 c2)).alloc (.cells #[.func (Fn.func 57) #[] #[.pointer (some q1)]] 93)).alloc (.cells #[.int .i64 0] 3)) := cell1_at (by simp)
  have hM : Cell1 (w.heap.size + 1) (.func (Fn.func 57) #[] #[.pointer (some q1)]) (((w.alloc (prO p a1 c1 a2 c2)).alloc (.cells #[.func (Fn.func 57) #[] #[.pointer (some q1)]] 93)).alloc (.cells #[.int .i64 0] 3)) := (cell1_at (by simp)).later (below_box _ _)
  have hB : Below w0.heap.size w _ := hw.mono hz
  have hC := owalkStmts_any hst p.body a2 c2 1 (0, s) _ hok hl hsz hK ⟨hN, hM, 0, rfl, fun _ => by omega, hJ2⟩ (hb0.trans hB)
  have HRW := Lib.hid (run_walk g s p)
  rw [← HRW.out]
  generalize run (cnt g) (0, s) (nB p.body 1) = r at hC ⊢
  have HC := Lib.hid hC
  have HB := Lib.hid hB
  have HNW : Hid (∀ n w2, J n (fun k => k = w.heap.size + 2 ∨ k = w.heap.size + 1) r.1.2 w2 → J n (fun _ => False) r.1.2 w2) := fun n w2 h => H.narrow _ _ _ _ h
  simp only [show ((1 : Nat) : Int) = 1 from rfl] at HC
  unfold prO at HC HB
  unfold prV
  clear hz hw hst hJ2 hN hM hB hC HRW hok hl hsz hK hJ hb0 H
  go_enter Tryd.func56, Tryd.ntmps56
  go_wp2_with fail
  refine HC.out.mono ?_; rintro e' w2 ⟨rfl, ⟨_, _, n3, _, _, hJ3⟩, hb2⟩
  have HJ3 := Lib.hid (HNW.out n3 w2 hJ3)
  have HB2 := Lib.hid (HB.out.trans hb2)
  clear hJ3 hb2
  go_wp2_with fail
  go_end0
  exact ⟨rfl, ⟨n3, HJ3.out⟩, HB2.out⟩
/-- a step of walk, and what it keeps -/
structure VisN {σ : Type} (q1 : Addr) (g : σ → U → σ × Bool) (w0 : World) (J : Nat → (Nat → Prop) → σ → World → Prop) : Prop where
  call : ∀ (n : Nat) (X : Nat → Prop) (s : σ) (u : U) (ps pe : Option Addr) (w : World), n ≤ 400 → (∀ k, X k → w0.heap.size ≤ k ∧ k < w.heap.size) → J n X s w → Below w0.heap.size w0 w → UAt w0 u ps pe → UOk u →
    Calls Tryd.prog 98 #[nodeV ps pe u.d, .pointer (some q1)] w fun e w' => e = .returned (.bool (g s u).2) ∧ J (n + 1) X (g s u).1 w' ∧ Below w0.heap.size w w' ∧ (∀ k, X k → w'.heap[k]? = w.heap[k]?)
  keep : ∀ (n : Nat) (X : Nat → Prop) (s : σ) (w w' : World), J n X s w → w.heap.size ≤ w'.heap.size → (∀ k, k < w.heap.size → ¬ X k → w'.heap[k]? = w.heap[k]?) → J n X s w'
  wide : ∀ (n : Nat) (X : Nat → Prop) (s : σ) (w : World), J n (fun _ => False) s w → (∀ k, X k → w.heap.size ≤ k) → J n X s w
  narrow : ∀ (n : Nat) (X : Nat → Prop) (s : σ) (w : World), J n X s w → J n (fun _ => False) s w
set_option maxHeartbeats 2000000 in
set_option maxRecDepth 100000 in
theorem stepN {σ : Type} {q1 : Addr} {g : σ → U → σ × Bool} {w0 : World} {J : Nat → (Nat → Prop) → σ → World → Prop} (H : VisN q1 g w0 J) {N M : Nat} (hN : w0.heap.size ≤ N) (hM : w0.heap.size ≤ M) (hne : N ≠ M) :
    StepW ⟨N, 0, none⟩ ⟨M, 0, none⟩ (cnt g) w0 (fun b x w => Cell1 N (.int .i64 x.1) w ∧ Cell1 M (.func (Fn.func 98) #[] #[.pointer (some q1)]) w ∧ ∃ n : Nat, x.1 = (n : Int) ∧ (b = true → n ≤ 400) ∧ J n (fun k => k = N ∨ k = M) x.2 w) := by
  refine ⟨fun x u ps pe w hI hb0 hat hok => ?_⟩
  obtain ⟨z, s⟩ := x
  obtain ⟨hN1, hM1, n, hzn, hn, hJ⟩ := hI
  simp only at hN1 hM1 hJ hzn
  have hn4 := hn rfl
  obtain ⟨z2, hz⟩ : ∃ z2, IntKind.i64.wrap (z + 1) = z2 := ⟨_, rfl⟩
  have hz2 : z2 = ((n + 1 : Nat) : Int) := by rw [← hz, hzn, wrap_small (by omega) (by omega)]; rfl
  have hw := below_box w (.cells #[.pointer ps, .pointer pe, .int .i64 (u.d : Int)] 91)
  have hs : ((w.alloc (.cells #[.pointer ps, .pointer pe, .int .i64 (u.d : Int)] 91)).setCell ⟨N, 0, none⟩ (.int .i64 z2)).heap.size = (w.alloc (.cells #[.pointer ps, .pointer pe, .int .i64 (u.d : Int)] 91)).heap.size := by simp
  have hN2 := (hN1.later hw).set (u := .int .i64 z2)
  have hM2 : Cell1 M (.func (Fn.func 98) #[] #[.pointer (some q1)]) ((w.alloc (.cells #[.pointer ps, .pointer pe, .int .i64 (u.d : Int)] 91)).setCell ⟨N, 0, none⟩ (.int .i64 z2)) := by
    have h := hM1.later hw
    have hk : ((w.alloc (.cells #[.pointer ps, .pointer pe, .int .i64 (u.d : Int)] 91)).setCell ⟨N, 0, none⟩ (.int .i64 z2)).heap[M]? = (w.alloc (.cells #[.pointer ps, .pointer pe, .int .i64 (u.d : Int)] 91)).heap[M]? := Below.heap_setCell _ _ _ _ (by exact hne.symm)
    exact h.moved hk
  have hB2 := hb0.trans (((hw.mono hb0.size).setCell (p := ⟨N, 0, none⟩) hN (.int .i64 z2)))
  have hJ2 := H.keep n _ s w ((w.alloc (.cells #[.pointer ps, .pointer pe, .int .i64 (u.d : Int)] 91)).setCell ⟨N, 0, none⟩ (.int .i64 z2)) hJ (by rw [hs]; exact hw.size) (fun k hk hx => (Below.heap_setCell _ _ _ _ (fun e => hx (Or.inl e))).trans (hw.block k hk))
  have hC := H.call n _ s u ps pe _ hn4 (fun k hk => by
    rcases hk with rfl | rfl
    · exact ⟨hN, by rw [hs]; exact (hN1.later hw).lt⟩
    · exact ⟨hM, by rw [hs]; exact (hM1.later hw).lt⟩) hJ2 hB2 hat hok
  have HB : Hid (Below w0.heap.size w ((w.alloc (.cells #[.pointer ps, .pointer pe, .int .i64 (u.d : Int)] 91)).setCell ⟨N, 0, none⟩ (.int .i64 z2))) := (hw.mono hb0.size).setCell (p := ⟨N, 0, none⟩) hN (.int .i64 z2)
  have HV : Hid (cnt g (z, s) u = ((z2, (g s u).1), (g s u).2 && decide (z2 ≤ 400))) := by show _ = _; unfold cnt; simp only [hz]
  rw [HV.out]
  have HN2 := Lib.hid hN2
  have HM2 := Lib.hid hM2
  have HC := Lib.hid hC
  have hNw := hN1.later hw
  obtain ⟨n1, n2, n3⟩ := hNw
  have m2 := hM2.cell
  have n0 := hN1.cell
  have hnw : w.heap.size ≠ N := fun h => Nat.lt_irrefl _ (h ▸ hN1.lt)
  have hblk : ((w.alloc (.cells #[.pointer ps, .pointer pe, .int .i64 (u.d : Int)] 91)).setCell ⟨N, 0, none⟩ (.int .i64 z2)).heap[w.heap.size]? = (w.alloc (.cells #[.pointer ps, .pointer pe, .int .i64 (u.d : Int)] 91)).heap[w.heap.size]? := Below.heap_setCell _ _ _ _ (by exact hnw)
  have d0 := (World.cell?_of_block (a := ⟨w.heap.size, 0, none⟩) hblk).trans (show _ = some (.pointer ps) by go_simp)
  have d1 := (World.cell?_of_block (a := ⟨w.heap.size, 1, none⟩) hblk).trans (show _ = some (.pointer pe) by go_simp)
  have d2 := (World.cell?_of_block (a := ⟨w.heap.size, 2, none⟩) hblk).trans (show _ = some (.int .i64 (u.d : Int)) by go_simp)
  unfold nodeV at *
  generalize g s u = r at HC ⊢
  obtain ⟨s2, y⟩ := r
  simp only at HC ⊢
  have HZ2 := Lib.hid hz2
  clear hw hs hN2 hM2 hB2 hJ2 hC hN1 hM1 hJ hz2 hzn hn HV hat hok hb0 hblk hnw
  cases y
  · go_enter Tryd.func93, Tryd.ntmps93
    go_wp2_with fail
    refine HC.out.mono ?_; rintro e' w2 ⟨rfl, hJ2, hb2, hx⟩
    have HI : Hid (Cell1 N (.int .i64 z2) w2 ∧ Cell1 M (.func (Fn.func 98) #[] #[.pointer (some q1)]) w2 ∧ ∃ n' : Nat, z2 = (n' : Int) ∧ (false = true → n' ≤ 400) ∧ J n' (fun k => k = N ∨ k = M) s2 w2) := ⟨HN2.out.moved2 (hx N (Or.inl rfl)), HM2.out.moved2 (hx M (Or.inr rfl)), n + 1, HZ2.out, (fun hb => by cases hb), hJ2⟩
    have HB2 := Lib.hid (HB.out.trans hb2)
    clear hJ2 hb2 hx
    go_wp2_with fail
    go_ret
    exact ⟨rfl, HI.out, HB2.out⟩
  · obtain ⟨t, ht⟩ : ∃ t, decide (z2 ≤ 400) = t := ⟨_, rfl⟩
    rw [ht]
    have HT := Lib.hid ht
    go_enter Tryd.func93, Tryd.ntmps93
    go_wp2_with fail
    refine HC.out.mono ?_; rintro e' w2 ⟨rfl, hJ2, hb2, hx⟩
    have HI : Hid (Cell1 N (.int .i64 z2) w2 ∧ Cell1 M (.func (Fn.func 98) #[] #[.pointer (some q1)]) w2 ∧ ∃ n' : Nat, z2 = (n' : Int) ∧ ((true && t) = true → n' ≤ 400) ∧ J n' (fun k => k = N ∨ k = M) s2 w2) := ⟨HN2.out.moved2 (hx N (Or.inl rfl)), HM2.out.moved2 (hx M (Or.inr rfl)), n + 1, HZ2.out, (fun hb => by have := HT.out; rw [Bool.true_and] at hb; rw [hb] at this; have h4 := of_decide_eq_true this; have h5 := HZ2.out; omega), hJ2⟩
    have HB2 := Lib.hid (HB.out.trans hb2)
    have n4 := HI.out.1.cell
    clear hJ2 hb2 hx
    go_wp2_with fail
    go_ret
    exact ⟨rfl, HI.out, HB2.out⟩
set_option maxHeartbeats 2000000 in
set_option maxRecDepth 100000 in
theorem owalkN_any {σ : Type} {q1 : Addr} {g : σ → U → σ × Bool} {w0 : World} {J : Nat → (Nat → Prop) → σ → World → Prop} (H : VisN q1 g w0 J) (p : Pr) (a1 : Option Addr) (c1 : Nat) (a2 : Option Addr) (c2 : Nat) (hok : okB p.body) (hl : p.body.length ≤ 1000000000000000) (hsz : 1 + cB p.body ≤ 1000000) (hK : Bodies w0 a2 p.body)
    (s : σ) (w : World) (hJ : J 0 (fun _ => False) s w) (hb0 : Below w0.heap.size w0 w) :
    Calls Tryd.prog 56 #[prV p a1 c1 a2 c2, .func (Fn.func 98) #[] #[.pointer (some q1)]] w fun e' w' => e' = .returned (.tuple #[]) ∧ (∃ n', J n' (fun _ => False) (run g s (walkU p)).1 w') ∧ Below w0.heap.size w w' := by
  have hz := hb0.size
  have hw := below_2 (below_2 (below_box w (prO p a1 c1 a2 c2)) (below_box _ (.cells #[.func (Fn.func 98) #[] #[.pointer (some q1)]] 93))) (below_box _ (.cells #[.int .i64 0] 3))
  have hst := stepN H (N := w.heap.size + 2) (M := w.heap.size + 1) (by omega) (by omega) (by omega)
  have hJ2 := H.keep 0 _ s w (((w.alloc (prO p a1 c1 a2 c2)).alloc (.cells #[.func (Fn.func 98) #[] #[.pointer (some q1)]] 93)).alloc (.cells #[.int .i64 0] 3)) (H.wide 0 (fun k => k = w.heap.size + 2 ∨ k = w.heap.size + 1) s w hJ (fun k hk => by omega)) hw.size (fun k hk _ => hw.block k hk)
  have hN : Cell1 (w.heap.size + 2) (.int .i64 0) (((w.alloc (prO p a1 c1 a2 c2)).alloc (.cells #[.func (Fn.func 98) #[] #[.pointer (some q1)]] 93)).alloc (.cells #[.int .i64 0] 3)) := cell1_at (by simp)
  have hM : Cell1 (w.heap.size + 1) (.func (Fn.func 98) #[] #[.pointer (some q1)]) (((w.alloc (prO p a1 c1 a2 c2)).alloc (.cells #[.func (Fn.func 98) #[] #[.pointer (some q1)]] 93)).alloc (.cells #[.int .i64 0] 3)) := (cell1_at (by simp)).later (below_box _ _)
  have hB : Below w0.heap.size w _ := hw.mono hz
  have hC := owalkStmts_any hst p.body a2 c2 1 (0, s) _ hok hl hsz hK ⟨hN, hM, 0, rfl, fun _ => by omega, hJ2⟩ (hb0.trans hB)
  have HRW := Lib.hid (run_walk g s p)
  rw [← HRW.out]
  generalize run (cnt g) (0, s) (nB p.body 1) = r at hC ⊢
  have HC := Lib.hid hC
  have HB := Lib.hid hB
  have HNW : Hid (∀ n w2, J n (fun k => k = w.heap.size + 2 ∨ k = w.heap.size + 1) r.1.2 w2 → J n (fun _ => False) r.1.2 w2) := fun n w2 h => H.narrow _ _ _ _ h
  simp only [show ((1 : Nat) : Int) = 1 from rfl] at HC
  unfold prO at HC HB
  unfold prV
  clear hz hw hst hJ2 hN hM hB hC HRW hok hl hsz hK hJ hb0 H
  go_enter Tryd.func56, Tryd.ntmps56
  go_wp2_with fail
  refine HC.out.mono ?_; rintro e' w2 ⟨rfl, ⟨_, _, n3, _, _, hJ3⟩, hb2⟩
  have HJ3 := Lib.hid (HNW.out n3 w2 hJ3)
  have HB2 := Lib.hid (HB.out.trans hb2)
  clear hJ3 hb2
  go_wp2_with fail
  go_end0
  exact ⟨rfl, ⟨n3, HJ3.out⟩, HB2.out⟩
end Go.Proofs.YtgjnddjpinhkgaaDoor.A
namespace Go.Proofs.YtgjnddjpinhkgaaDoor.A
open Go.RowKit
open L (Str isName prt size_len below_2 below_box ret_bool ret_int eql_eq bytes_eq)

/-- a step that writes one variable: what it keeps -/
def Jb {σ : Type} (B : Nat) (f : σ → Value) (_ : Nat) (X : Nat → Prop) (s : σ) (w : World) : Prop := Cell1 B (f s) w ∧ ¬ X B
theorem Jb.keep {σ : Type} {B : Nat} {f : σ → Value} (n : Nat) (X : Nat → Prop) (s : σ) (w w' : World) (h : Jb B f n X s w) (_ : w.heap.size ≤ w'.heap.size) (hk : ∀ k, k < w.heap.size → ¬ X k → w'.heap[k]? = w.heap[k]?) : Jb B f n X s w' := ⟨h.1.moved (hk B h.1.lt h.2), h.2⟩
theorem Jb.wide {σ : Type} {B : Nat} {f : σ → Value} (n : Nat) (X : Nat → Prop) (s : σ) (w : World) (h : Jb B f n (fun _ => False) s w) (hx : ∀ k, X k → w.heap.size ≤ k) : Jb B f n X s w := ⟨h.1, fun hb => by have := hx B hb; have := h.1.lt; omega⟩
theorem Jb.narrow {σ : Type} {B : Nat} {f : σ → Value} (n : Nat) (X : Nat → Prop) (s : σ) (w : World) (h : Jb B f n X s w) : Jb B f n (fun _ => False) s w := ⟨h.1, fun hf => hf⟩
/-- a store into the step's variable -/
theorem Jb.store {σ : Type} {n m B : Nat} {f : σ → Value} {X : Nat → Prop} {s s2 : σ} {w0 w w2 : World} (hX : ∀ k, X k → w0.heap.size ≤ k ∧ k < w.heap.size) (hB : w0.heap.size ≤ B) (h : Jb B f n X s w) (hb : Below w.heap.size w w2) (hz : w0.heap.size ≤ w.heap.size) :
    Jb B f m X s2 (w2.setCell ⟨B, 0, none⟩ (f s2)) ∧ Below w0.heap.size w (w2.setCell ⟨B, 0, none⟩ (f s2)) ∧ ∀ k, X k → (w2.setCell ⟨B, 0, none⟩ (f s2)).heap[k]? = w.heap[k]? :=
  ⟨⟨(h.1.later hb).set, h.2⟩, (hb.mono hz).setCell hB _, fun k hk => (Below.heap_setCell _ _ _ _ (fun e => h.2 (by rw [show B = k from e.symm]; exact hk))).trans (hb.block k (hX k hk).2)⟩
theorem Jb.same {σ : Type} {n m B : Nat} {f : σ → Value} {X : Nat → Prop} {s : σ} {w0 w w2 : World} (hX : ∀ k, X k → w0.heap.size ≤ k ∧ k < w.heap.size) (h : Jb B f n X s w) (hb : Below w.heap.size w w2) (hz : w0.heap.size ≤ w.heap.size) :
    Jb B f m X s w2 ∧ Below w0.heap.size w w2 ∧ ∀ k, X k → w2.heap[k]? = w.heap[k]? := ⟨⟨h.1.later hb, h.2⟩, hb.mono hz, fun k hk => hb.block k (hX k hk).2⟩
set_option maxHeartbeats 2000000 in
set_option maxRecDepth 100000 in
theorem visN {w0 : World} {B : Nat} (hB : w0.heap.size ≤ B) : VisN ⟨B, 0, none⟩ gN w0 (Jb B (fun z => .int .i64 z)) := by
  refine ⟨fun n X z u ps pe w _ hX hJ hb0 _ _ => ?_, Jb.keep, Jb.wide, Jb.narrow⟩
  obtain ⟨z2, hz⟩ : ∃ z2, IntKind.i64.wrap (z + 1) = z2 := ⟨_, rfl⟩
  have hw := below_box w (.cells #[.pointer ps, .pointer pe, .int .i64 (u.d : Int)] 91)
  have HP := Lib.hid (Jb.store (m := n + 1) (s2 := z2) hX hB hJ hw hb0.size)
  have HV : Hid (gN z u = (z2, true)) := by show _ = _; unfold gN; rw [hz]
  rw [HV.out]
  obtain ⟨n1, n2, n3⟩ := hJ.1.later hw
  have n0 := hJ.1.cell
  unfold nodeV
  clear hw hJ hb0 HV hX
  go_enter Tryd.func98, Tryd.ntmps98
  go_wp2_with fail
  go_ret
  exact ⟨rfl, HP.out⟩
set_option maxHeartbeats 2000000 in
set_option maxRecDepth 100000 in
theorem onodes_any (p : Pr) (a1 a2 : Option Addr) (c1 c2 : Nat) (hok : okB p.body) (hl : p.body.length ≤ 1000000000000000) (hsz : cB p.body ≤ 900000) (w : World) (hK : Bodies w a2 p.body) :
    Calls Tryd.prog 59 #[prV p a1 c1 a2 c2] w fun e' w' => e' = .returned (.int .i64 (nodes p : Int)) ∧ Below w.heap.size w w' := by
  have hw := below_2 (below_box w (prO p a1 c1 a2 c2)) (below_box _ (.cells #[.int .i64 0] 3))
  have hJ : Jb (w.heap.size + 1) (fun z => .int .i64 z) 0 (fun _ => False) (0 : Int) ((w.alloc (prO p a1 c1 a2 c2)).alloc (.cells #[.int .i64 0] 3)) := ⟨cell1_at (by simp), fun h => h⟩
  have hC := owalkN_any (visN (w0 := w) (B := w.heap.size + 1) (by omega)) p a1 c1 a2 c2 hok hl (by omega) hK 0 _ hJ hw
  rw [nodes_run] at hC
  have HC := Lib.hid hC
  have HW := Lib.hid hw
  generalize nodes p = n at HC ⊢
  unfold prO at HC HW
  unfold prV at *
  clear hw hJ hC hok hl hsz hK
  go_enter Tryd.func59, Tryd.ntmps59
  go_wp2_with fail
  refine HC.out.mono ?_; rintro e' w2 ⟨rfl, ⟨_, hj, _⟩, hb2⟩
  have n0 := hj.cell
  have HB := Lib.hid (HW.out.trans hb2)
  clear hj hb2
  go_wp2_with fail
  go_ret
  exact ⟨rfl, HB.out⟩
end Go.Proofs.YtgjnddjpinhkgaaDoor.A
namespace Go.Proofs.YtgjnddjpinhkgaaDoor.A
open Go.RowKit
open L (Str isName prt size_len below_2 below_box ret_bool ret_int eql_eq bytes_eq)

set_option maxHeartbeats 2000000 in
set_option maxRecDepth 100000 in
theorem visV {w0 : World} {B : Nat} (hB : w0.heap.size ≤ B) : VisV ⟨B, 0, none⟩ gV w0 (Jb B (fun z => .int .i64 z)) := by
  refine ⟨fun n X z u ps pe w _ hX hJ hb0 hat hok => ?_, Jb.keep, Jb.wide, Jb.narrow⟩
  have hw := below_box w (.cells #[.pointer ps, .pointer pe, .int .i64 (u.d : Int)] 91)
  cases u with
  | st s d =>
    obtain ⟨b, i, rfl, rfl, hat⟩ := hat
    simp only [U.d] at *
    have hs : StAt (w.alloc (.cells #[.pointer (some ⟨b, i, none⟩), .pointer none, .int .i64 (d : Int)] 91)) s b i := (hat.below hb0).below hw
    have hd : d ≤ 1000000 := by have := hok.2; omega
    have hcs : cS s ≤ 1000000 := by have := hok.2; omega
    have HC := Lib.hid (ostmtError_any s b i d hd hok.1 hcs _ hs)
    have HP : Hid (∀ w2, Below (w.alloc (.cells #[.pointer (some ⟨b, i, none⟩), .pointer none, .int .i64 (d : Int)] 91)).heap.size (w.alloc (.cells #[.pointer (some ⟨b, i, none⟩), .pointer none, .int .i64 (d : Int)] 91)) w2 → ∀ z2 : Int,
      Jb B (fun z => .int .i64 z) (n + 1) X z2 (w2.setCell ⟨B, 0, none⟩ (.int .i64 z2)) ∧ Below w0.heap.size w (w2.setCell ⟨B, 0, none⟩ (.int .i64 z2)) ∧ ∀ k, X k → (w2.setCell ⟨B, 0, none⟩ (.int .i64 z2)).heap[k]? = w.heap[k]?) := fun w2 hb z2 => Jb.store (m := n + 1) (s2 := z2) hX hB hJ (below_2 hw hb) hb0.size
    have HJ1 := Lib.hid (hJ.1.later hw)
    have HV : Hid (gV z (.st s d) = (stE s d, (stE s d == 0))) := by
      show (stE s d, decide (stE s d = 0)) = _
      rw [Bool.beq_eq_decide_eq]
    rw [HV.out]
    generalize stE s d = x at HC ⊢
    unfold nodeV
    clear hw hJ hb0 HV hX hok hat hs
    go_enter Tryd.func57, Tryd.ntmps57
    go_wp2_with fail
    refine HC.out.mono ?_; rintro e' w2 ⟨rfl, hb⟩
    obtain ⟨n1, n2, n3⟩ := HJ1.out.later hb
    have HP2 := Lib.hid (HP.out w2 hb x)
    clear hb
    go_wp2_with fail
    go_ret
    exact ⟨rfl, HP2.out⟩
  | ex e d =>
    obtain ⟨b, i, rfl, rfl, _⟩ := hat
    have HP := Lib.hid (Jb.same (m := n + 1) hX hJ hw hb0.size)
    have HV : Hid (gV z (.ex e d) = (z, (z == 0))) := by
      show (z, decide (z = 0)) = _
      rw [Bool.beq_eq_decide_eq]
    rw [HV.out]
    have n0 := hJ.1.cell
    have n2 := (hJ.1.later hw).cell
    unfold nodeV
    simp only [U.d] at *
    clear hw hJ hb0 hX hok HV
    go_enter Tryd.func57, Tryd.ntmps57
    go_wp2_with fail
    go_ret
    exact ⟨rfl, HP.out⟩
theorem val_cases (p : Pr) : valE p = if nam p.name = false then 7 else if parE p.params ≠ 0 then parE p.params else if firstE (walk p) ≠ 0 then firstE (walk p) else if 400 < nodes p then 2 else 0 := rfl
set_option maxHeartbeats 4000000 in
set_option maxRecDepth 100000 in
theorem ovalidate_any (p : Pr) (a1 a2 : Option Addr) (c1 c2 : Nat) (hok : OkP p) (hsz : cB p.body ≤ 900000) (hc1 : p.params.length ≤ c1) (w : World) (hK : PrIn w p a1 a2) :
    Calls Tryd.prog 28 #[prV p a1 c1 a2 c2] w fun e' w' => e' = .returned (.int .i64 (valE p)) ∧ Below w.heap.size w w' := by
  have hw := below_box w (prO p a1 c1 a2 c2)
  have HBL := Lib.hid (fun w' hb => proc_later (w := w) (w' := w') (p := p) (a1 := a1) (a2 := a2) (c1 := c1) (c2 := c2) hb)
  have HI : Hid (∀ w, Calls Tryd.prog 54 #[.string p.name] w fun e' w' => e' = .returned (.bool (nam p.name)) ∧ Below w.heap.size w w') := fun w => L.oname_any p.name w
  have HPE := Lib.hid (fun w' h => oparamsError_any p.params a1 c1 hok.params w' hc1 h)
  have HN := Lib.hid (fun w' h => onodes_any p a1 a2 c1 c2 hok.body hok.bodyLen hsz w' h)
  have HWK := Lib.hid (fun (B : Nat) (hB : (w.alloc (prO p a1 c1 a2 c2)).heap.size ≤ B) (z : Int) (w' : World) (hJ : Jb B (fun z => .int .i64 z) 0 (fun _ => False) z w') (hb : Below (w.alloc (prO p a1 c1 a2 c2)).heap.size (w.alloc (prO p a1 c1 a2 c2)) w') => owalkV_any (visV (w0 := w.alloc (prO p a1 c1 a2 c2)) hB) p a1 c1 a2 c2 hok.body hok.bodyLen (by omega) (hK.below hw).body z w' hJ hb)
  have HK := Lib.hid hK
  have HW := Lib.hid hw
  have hv := val_cases p
  have hfr := first_run p
  generalize valE p = R at hv ⊢
  have HV := Lib.hid hv
  have HFR := Lib.hid hfr
  clear hv hfr hw hK hok hsz hc1
  unfold prO at HBL HW HWK
  unfold prV at *
  generalize nam p.name = nm at HI HV
  cases nm
  · have HR : Hid (R = 7) := by show _ = _; rw [HV.out, if_pos rfl]
    go_enter Tryd.func28, Tryd.ntmps28
    go_wp2_with fail
    refine (HI.out _).mono ?_; rintro e w2 ⟨rfl, hb2⟩
    have HB2 := Lib.hid (below_2 HW.out hb2)
    clear hb2
    go_wp2_with fail
    go_ret
    exact ⟨ret_int HR.out.symm, HB2.out⟩
  · go_enter Tryd.func28, Tryd.ntmps28
    go_wp2_with fail
    refine (HI.out _).mono ?_; rintro e w2 ⟨rfl, hb2⟩
    have HBX := Lib.hid hb2
    clear hb2
    obtain ⟨j0, j1, j2⟩ := HBL.out _ HBX.out
    go_wp2_with fail
    refine (HPE.out _ (HK.out.below (below_2 HW.out HBX.out)).params).mono ?_; rintro e w3 ⟨rfl, hb3⟩
    have HBX := Lib.hid (below_2 HBX.out hb3)
    clear hb3 j0 j1 j2
    by_cases hp : parE p.params = 0
    · rw [hp]
      obtain ⟨j0, j1, j2⟩ := HBL.out _ HBX.out
      have hB := HBX.out.size
      have hC := HWK.out w3.heap.size hB 0 (w3.alloc (.cells #[.int .i64 0] 28)) ⟨cell1_at rfl, fun h => h⟩ (HBX.out.trans ((below_box w3 _).mono hB))
      rw [HFR.out] at hC
      have HC := Lib.hid hC
      have HBA := Lib.hid (below_2 HBX.out (below_box w3 (.cells #[.int .i64 0] 28)))
      obtain ⟨i0, i1, i2⟩ := HBL.out _ HBA.out
      have HR2 : Hid (R = if firstE (walk p) ≠ 0 then firstE (walk p) else if 400 < nodes p then 2 else 0) := by show _ = _; rw [HV.out, if_neg (by decide), if_neg (fun h => h hp)]
      clear hC hp hB j0 j1 j2
      generalize firstE (walk p) = f at HC HR2
      go_wp2_with fail
      refine HC.out.mono ?_; rintro e w4 ⟨rfl, ⟨_, hj, _⟩, hb4⟩
      have n0 := hj.cell
      have HJ4 := Lib.hid hj
      have HB4 := Lib.hid (HBA.out.trans hb4)
      clear hj hb4 i0 i1 i2
      obtain ⟨i0, i1, i2⟩ := HBL.out _ HB4.out
      by_cases hf : f = 0
      · have bf : (f == 0) = true := beq_iff_eq.2 hf
        have HR3 : Hid (R = if 400 < nodes p then 2 else 0) := by show _ = _; rw [HR2.out, if_neg (fun h => h hf)]
        have HF : Hid (f = 0) := hf
        clear hf
        go_wp2_with fail
        refine (HN.out _ (HK.out.below (below_2 HW.out HB4.out)).body).mono ?_; rintro e w5 ⟨rfl, hb5⟩
        have n5 := (HJ4.out.later hb5).cell
        have HB5 := Lib.hid (below_2 HW.out (below_2 HB4.out hb5))
        clear hb5
        by_cases h4 : 400 < nodes p
        · have b4 : decide (400 < (nodes p : Int)) = true := decide_eq_true (by omega)
          have HR : Hid (R = 2) := by show _ = _; rw [HR3.out, if_pos h4]
          clear h4
          go_wp2_with fail
          go_ret
          exact ⟨ret_int HR.out.symm, HB5.out⟩
        · have b4 : decide (400 < (nodes p : Int)) = false := decide_eq_false (by omega)
          have HR : Hid (R = f) := by show _ = _; rw [HR3.out, if_neg h4, HF.out]
          clear h4
          go_wp2_with fail
          go_ret
          exact ⟨ret_int HR.out.symm, HB5.out⟩
      · have bf : (f == 0) = false := beq_eq_false_iff_ne.2 hf
        have HR : Hid (R = f) := by show _ = _; rw [HR2.out, if_pos hf]
        have HB5 := Lib.hid (below_2 HW.out HB4.out)
        clear hf
        go_wp2_with fail
        go_ret
        exact ⟨ret_int HR.out.symm, HB5.out⟩
    · have bp : (parE p.params != 0) = true := bne_iff_ne.2 hp
      have HR : Hid (R = parE p.params) := by show _ = _; rw [HV.out, if_neg (by decide), if_pos hp]
      have HB5 := Lib.hid (below_2 (below_2 HW.out HBX.out) (below_box w3 (.cells #[.int .i64 (parE p.params)] 28)))
      clear hp
      go_wp2_with fail
      go_ret
      exact ⟨ret_int HR.out.symm, HB5.out⟩
end Go.Proofs.YtgjnddjpinhkgaaDoor.A
namespace Go.Proofs.YtgjnddjpinhkgaaDoor.A
open Go.RowKit
open L (Str isName prt size_len below_2 below_box ret_bool ret_int eql_eq bytes_eq)

/-- a statement as a value: its cells -/
def stC (s : St) (a1 : Option Addr) (c1 : Nat) (a2 : Option Addr) (c2 : Nat) (a3 : Option Addr) (c3 : Nat) (a4 : Option Addr) (c4 : Nat) : Value :=
  .agg #[.int .i64 s.op, .string s.name, .int .i64 s.mx, .int .i64 s.a.op, .int .i64 s.a.n, .string s.a.s, .slice a1 s.a.args.length c1, .int .i64 s.b.op, .int .i64 s.b.n, .string s.b.s, .slice a2 s.b.args.length c2, .slice a3 s.body.length c3, .slice a4 s.els.length c4]
end Go.Proofs.YtgjnddjpinhkgaaDoor.A
namespace Go.Proofs.YtgjnddjpinhkgaaDoor.A
open Go.RowKit
open L (Str isName prt size_len below_2 below_box ret_bool ret_int eql_eq bytes_eq)

/-- what stmt's walk is given: the parts' contracts, and the tests -/
structure StW (s : St) (a1 : Option Addr) (c1 : Nat) (a2 : Option Addr) (c2 : Nat) (a3 a4 : Option Addr) (va vb : Int) (NM v1 v3 v4 : Bool) : Prop where
  aa : ∀ w, Calls Tryd.prog 108 #[.agg #[.int .i64 s.a.op, .int .i64 s.a.n, .string s.a.s, .slice a1 s.a.args.length c1]] w fun e' w' => e' = .returned (.bool v3) ∧ Below w.heap.size w w'
  ab : ∀ w, Calls Tryd.prog 108 #[.agg #[.int .i64 s.b.op, .int .i64 s.b.n, .string s.b.s, .slice a2 s.b.args.length c2]] w fun e' w' => e' = .returned (.bool v4) ∧ Below w.heap.size w w'
  nam : ∀ w, Calls Tryd.prog 44 #[.string s.name] w fun e' w' => e' = .returned (.bool NM) ∧ Below w.heap.size w w'
  va : ∀ w, StKids w s a1 a2 a3 a4 → Calls Tryd.prog 75 #[.agg #[.int .i64 s.a.op, .int .i64 s.a.n, .string s.a.s, .slice a1 s.a.args.length c1]] w fun e' w' => e' = .returned (.int .i64 va) ∧ Below w.heap.size w w'
  vb : ∀ w, StKids w s a1 a2 a3 a4 → Calls Tryd.prog 75 #[.agg #[.int .i64 s.b.op, .int .i64 s.b.n, .string s.b.s, .slice a2 s.b.args.length c2]] w fun e' w' => e' = .returned (.int .i64 vb) ∧ Below w.heap.size w w'
  name : (s.name.toList == []) = v1
  name2 : s.name.toList.isEmpty = v1
end Go.Proofs.YtgjnddjpinhkgaaDoor.A
