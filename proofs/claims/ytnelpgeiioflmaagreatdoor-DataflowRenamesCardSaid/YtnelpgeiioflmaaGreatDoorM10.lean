/-
  The program's function walk of layer 8, for each function value that it is called with: what walk leaves is what the steps leave, node by node.
  What the program's functions of layer 8 return: Nodes, Depth: contracts.
  What the program's function Validate of layer 8 returns: its contract.
  What the program's functions of layer 8 return: equalStmts, slices.EqualFunc of statements: contracts.
  What the reference of layer 8 returns: Validate: a contract (over stmt's).
-/
import Derived.Test.YtnelpgeiioflmaaGreatDoorM06
import Derived.Test.YtnelpgeiioflmaaGreatDoorM09
import Derived.Test.YtnelpgeiioflmaaGreatDoorM08
import Derived.Deep.Cut
import Derived.Deep.RegionLaw
namespace Go.Proofs.YtnelpgeiioflmaaGreatDoor.A
open Go.RowKit
open L (Str isName prt size_len below_2 below_box ret_bool ret_int eql_eq bytes_eq)

structure VisV {σ : Type} (q1 : Addr) (g : σ → U → σ × Bool) (w0 : World) (J : Nat → (Nat → Prop) → σ → World → Prop) : Prop where
  call : ∀ (n : Nat) (X : Nat → Prop) (s : σ) (u : U) (ps pe : Option Addr) (w : World), n ≤ 400 → (∀ k, X k → w0.heap.size ≤ k ∧ k < w.heap.size) → J n X s w → Below w0.heap.size w0 w → UAt w0 u ps pe → UOk u →
    Calls Tryz.prog 98 #[nodeV ps pe u.d, .pointer (some q1)] w fun e w' => e = .returned (.bool (g s u).2) ∧ J (n + 1) X (g s u).1 w' ∧ Below w0.heap.size w w' ∧ (∀ k, X k → w'.heap[k]? = w.heap[k]?)
  keep : ∀ (n : Nat) (X : Nat → Prop) (s : σ) (w w' : World), J n X s w → w.heap.size ≤ w'.heap.size → (∀ k, k < w.heap.size → ¬ X k → w'.heap[k]? = w.heap[k]?) → J n X s w'
  wide : ∀ (n : Nat) (X : Nat → Prop) (s : σ) (w : World), J n (fun _ => False) s w → (∀ k, X k → w.heap.size ≤ k) → J n X s w
  narrow : ∀ (n : Nat) (X : Nat → Prop) (s : σ) (w : World), J n X s w → J n (fun _ => False) s w
set_option maxHeartbeats 2000000 in
set_option maxRecDepth 100000 in
theorem stepV {σ : Type} {q1 : Addr} {g : σ → U → σ × Bool} {w0 : World} {J : Nat → (Nat → Prop) → σ → World → Prop} (H : VisV q1 g w0 J) {N M : Nat} (hN : w0.heap.size ≤ N) (hM : w0.heap.size ≤ M) (hne : N ≠ M) :
    StepW ⟨N, 0, none⟩ ⟨M, 0, none⟩ (cnt g) w0 (fun b x w => Cell1 N (.int .i64 x.1) w ∧ Cell1 M (.func (Fn.func 98) #[] #[.pointer (some q1)]) w ∧ ∃ n : Nat, x.1 = (n : Int) ∧ (b = true → n ≤ 400) ∧ J n (fun k => k = N ∨ k = M) x.2 w) := by
  refine ⟨fun x u ps pe w hI hb0 hat hok => ?_⟩
  obtain ⟨z, s⟩ := x
  obtain ⟨hN1, hM1, n, hzn, hn, hJ⟩ := hI
  simp only at hN1 hM1 hJ hzn
  have hn4 := hn rfl
  obtain ⟨z2, hz⟩ : ∃ z2, IntKind.i64.wrap (z + 1) = z2 := ⟨_, rfl⟩
  have hz2 : z2 = ((n + 1 : Nat) : Int) := by rw [← hz, hzn, wrap_small (by omega) (by omega)]; rfl
  have hw := below_box w (.cells #[.pointer ps, .pointer pe, .int .i64 (u.d : Int)] 80)
  have hs : ((w.alloc (.cells #[.pointer ps, .pointer pe, .int .i64 (u.d : Int)] 80)).setCell ⟨N, 0, none⟩ (.int .i64 z2)).heap.size = (w.alloc (.cells #[.pointer ps, .pointer pe, .int .i64 (u.d : Int)] 80)).heap.size := by simp
  have hN2 := (hN1.later hw).set (u := .int .i64 z2)
  have hM2 : Cell1 M (.func (Fn.func 98) #[] #[.pointer (some q1)]) ((w.alloc (.cells #[.pointer ps, .pointer pe, .int .i64 (u.d : Int)] 80)).setCell ⟨N, 0, none⟩ (.int .i64 z2)) := by
    have h := hM1.later hw
    have hk : ((w.alloc (.cells #[.pointer ps, .pointer pe, .int .i64 (u.d : Int)] 80)).setCell ⟨N, 0, none⟩ (.int .i64 z2)).heap[M]? = (w.alloc (.cells #[.pointer ps, .pointer pe, .int .i64 (u.d : Int)] 80)).heap[M]? := Below.heap_setCell _ _ _ _ (by exact hne.symm)
    exact h.moved hk
  have hB2 := hb0.trans (((hw.mono hb0.size).setCell (p := ⟨N, 0, none⟩) hN (.int .i64 z2)))
  have hJ2 := H.keep n _ s w ((w.alloc (.cells #[.pointer ps, .pointer pe, .int .i64 (u.d : Int)] 80)).setCell ⟨N, 0, none⟩ (.int .i64 z2)) hJ (by rw [hs]; exact hw.size) (fun k hk hx => (Below.heap_setCell _ _ _ _ (fun e => hx (Or.inl e))).trans (hw.block k hk))
  have hC := H.call n _ s u ps pe _ hn4 (fun k hk => by
    rcases hk with rfl | rfl
    · exact ⟨hN, by rw [hs]; exact (hN1.later hw).lt⟩
    · exact ⟨hM, by rw [hs]; exact (hM1.later hw).lt⟩) hJ2 hB2 hat hok
  have HB : Hid (Below w0.heap.size w ((w.alloc (.cells #[.pointer ps, .pointer pe, .int .i64 (u.d : Int)] 80)).setCell ⟨N, 0, none⟩ (.int .i64 z2))) := (hw.mono hb0.size).setCell (p := ⟨N, 0, none⟩) hN (.int .i64 z2)
  have HV : Hid (cnt g (z, s) u = ((z2, (g s u).1), (g s u).2 && decide (z2 ≤ 400))) := by show _ = _; unfold cnt; simp only [hz]
  rw [HV.out]
  have HN2 := Lib.hid hN2
  have HM2 := Lib.hid hM2
  have HC := Lib.hid hC
  have hNw := hN1.later hw
  obtain ⟨n1, n2, n3⟩ := hNw
  have m2 := hM2.cell
  have n0 := hN1.cell
  have hnw : w.heap.size ≠ N := fun h => Nat.lt_irrefl _ (h ▸ hN1.lt)
  have hblk : ((w.alloc (.cells #[.pointer ps, .pointer pe, .int .i64 (u.d : Int)] 80)).setCell ⟨N, 0, none⟩ (.int .i64 z2)).heap[w.heap.size]? = (w.alloc (.cells #[.pointer ps, .pointer pe, .int .i64 (u.d : Int)] 80)).heap[w.heap.size]? := Below.heap_setCell _ _ _ _ (by exact hnw)
  have d0 := (World.cell?_of_block (a := ⟨w.heap.size, 0, none⟩) hblk).trans (show _ = some (.pointer ps) by go_simp)
  have d1 := (World.cell?_of_block (a := ⟨w.heap.size, 1, none⟩) hblk).trans (show _ = some (.pointer pe) by go_simp)
  have d2 := (World.cell?_of_block (a := ⟨w.heap.size, 2, none⟩) hblk).trans (show _ = some (.int .i64 (u.d : Int)) by go_simp)
  unfold nodeV at *
  generalize g s u = r at HC ⊢
  obtain ⟨s2, y⟩ := r
  simp only at HC ⊢
  have HZ2 := Lib.hid hz2
  clear hw hs hN2 hM2 hB2 hJ2 hC hN1 hM1 hJ hz2 hzn hn HV hat hok hb0 hblk hnw
  cases y
  · go_enter Tryz.func78, Tryz.ntmps78
    go_wp2_with fail
    refine HC.out.mono ?_; rintro e' w2 ⟨rfl, hJ2, hb2, hx⟩
    have HI : Hid (Cell1 N (.int .i64 z2) w2 ∧ Cell1 M (.func (Fn.func 98) #[] #[.pointer (some q1)]) w2 ∧ ∃ n' : Nat, z2 = (n' : Int) ∧ (false = true → n' ≤ 400) ∧ J n' (fun k => k = N ∨ k = M) s2 w2) := ⟨HN2.out.moved2 (hx N (Or.inl rfl)), HM2.out.moved2 (hx M (Or.inr rfl)), n + 1, HZ2.out, (fun hb => by cases hb), hJ2⟩
    have HB2 := Lib.hid (HB.out.trans hb2)
    clear hJ2 hb2 hx
    go_wp2_with fail
    go_ret
    exact ⟨rfl, HI.out, HB2.out⟩
  · obtain ⟨t, ht⟩ : ∃ t, decide (z2 ≤ 400) = t := ⟨_, rfl⟩
    rw [ht]
    have HT := Lib.hid ht
    go_enter Tryz.func78, Tryz.ntmps78
    go_wp2_with fail
    refine HC.out.mono ?_; rintro e' w2 ⟨rfl, hJ2, hb2, hx⟩
    have HI : Hid (Cell1 N (.int .i64 z2) w2 ∧ Cell1 M (.func (Fn.func 98) #[] #[.pointer (some q1)]) w2 ∧ ∃ n' : Nat, z2 = (n' : Int) ∧ ((true && t) = true → n' ≤ 400) ∧ J n' (fun k => k = N ∨ k = M) s2 w2) := ⟨HN2.out.moved2 (hx N (Or.inl rfl)), HM2.out.moved2 (hx M (Or.inr rfl)), n + 1, HZ2.out, (fun hb => by have := HT.out; rw [Bool.true_and] at hb; rw [hb] at this; have h4 := of_decide_eq_true this; have h5 := HZ2.out; omega), hJ2⟩
    have HB2 := Lib.hid (HB.out.trans hb2)
    have n4 := HI.out.1.cell
    clear hJ2 hb2 hx
    go_wp2_with fail
    go_ret
    exact ⟨rfl, HI.out, HB2.out⟩
set_option maxHeartbeats 2000000 in
set_option maxRecDepth 100000 in
theorem owalkV_any {σ : Type} {q1 : Addr} {g : σ → U → σ × Bool} {w0 : World} {J : Nat → (Nat → Prop) → σ → World → Prop} (H : VisV q1 g w0 J) (p : Pr) (a1 : Option Addr) (c1 : Nat) (a2 : Option Addr) (c2 : Nat) (hok : okB p.body) (hl : p.body.length ≤ 1000000000000000) (hsz : 1 + cB p.body ≤ 1000000) (hK : Bodies w0 a2 p.body)
    (s : σ) (w : World) (hJ : J 0 (fun _ => False) s w) (hb0 : Below w0.heap.size w0 w) :
    Calls Tryz.prog 58 #[prV p a1 c1 a2 c2, .func (Fn.func 98) #[] #[.pointer (some q1)]] w fun e' w' => e' = .returned (.tuple #[]) ∧ (∃ n', J n' (fun _ => False) (run g s (walkU p)).1 w') ∧ Below w0.heap.size w w' := by
  have hz := hb0.size
  have hw := below_2 (below_2 (below_box w (prO p a1 c1 a2 c2)) (below_box _ (.cells #[.func (Fn.func 98) #[] #[.pointer (some q1)]] 81))) (below_box _ (.cells #[.int .i64 0] 3))
  have hst := stepV H (N := w.heap.size + 2) (M := w.heap.size + 1) (by omega) (by omega) (by omega)
  have hJ2 := H.keep 0 _ s w (((w.alloc (prO p a1 c1 a2 c2)).alloc (.cells #[.func (Fn.func 98) #[] #[.pointer (some q1)]] 81)).alloc (.cells #[.int .i64 0] 3)) (H.wide 0 (fun k => k = w.heap.size + 2 ∨ k = w.heap.size + 1) s w hJ (fun k hk => by omega)) hw.size (fun k hk _ => hw.block k hk)
  have hN : Cell1 (w.heap.size + 2) (.int .i64 0) (((w.alloc (prO p a1 c1 a2 c2)).alloc (.cells #[.func (Fn.func 98) #[] #[.pointer (some q1)]] 81)).alloc (.cells #[.int .i64 0] 3)) := cell1_at (by simp)
  have hM : Cell1 (w.heap.size + 1) (.func (Fn.func 98) #[] #[.pointer (some q1)]) (((w.alloc (prO p a1 c1 a2 c2)).alloc (.cells #[.func (Fn.func 98) #[] #[.pointer (some q1)]] 81)).alloc (.cells #[.int .i64 0] 3)) := (cell1_at (by simp)).later (below_box _ _)
  have hB : Below w0.heap.size w _ := hw.mono hz
  have hC := owalkStmts_any hst p.body a2 c2 1 (0, s) _ hok hl hsz hK ⟨hN, hM, 0, rfl, fun _ => by omega, hJ2⟩ (hb0.trans hB)
  have HRW := Lib.hid (run_walk g s p)
  rw [← HRW.out]
  generalize run (cnt g) (0, s) (nB p.body 1) = r at hC ⊢
  have HC := Lib.hid hC
  have HB := Lib.hid hB
  have HNW : Hid (∀ n w2, J n (fun k => k = w.heap.size + 2 ∨ k = w.heap.size + 1) r.1.2 w2 → J n (fun _ => False) r.1.2 w2) := fun n w2 h => H.narrow _ _ _ _ h
  simp only [show ((1 : Nat) : Int) = 1 from rfl] at HC
  unfold prO at HC HB
  unfold prV
  clear hz hw hst hJ2 hN hM hB hC HRW hok hl hsz hK hJ hb0 H
  go_enter Tryz.func58, Tryz.ntmps58
  go_wp2_with fail
  refine HC.out.mono ?_; rintro e' w2 ⟨rfl, ⟨_, _, n3, _, _, hJ3⟩, hb2⟩
  have HJ3 := Lib.hid (HNW.out n3 w2 hJ3)
  have HB2 := Lib.hid (HB.out.trans hb2)
  clear hJ3 hb2
  go_wp2_with fail
  go_end0
  exact ⟨rfl, ⟨n3, HJ3.out⟩, HB2.out⟩
structure VisN {σ : Type} (q1 : Addr) (g : σ → U → σ × Bool) (w0 : World) (J : Nat → (Nat → Prop) → σ → World → Prop) : Prop where
  call : ∀ (n : Nat) (X : Nat → Prop) (s : σ) (u : U) (ps pe : Option Addr) (w : World), n ≤ 400 → (∀ k, X k → w0.heap.size ≤ k ∧ k < w.heap.size) → J n X s w → Below w0.heap.size w0 w → UAt w0 u ps pe → UOk u →
    Calls Tryz.prog 117 #[nodeV ps pe u.d, .pointer (some q1)] w fun e w' => e = .returned (.bool (g s u).2) ∧ J (n + 1) X (g s u).1 w' ∧ Below w0.heap.size w w' ∧ (∀ k, X k → w'.heap[k]? = w.heap[k]?)
  keep : ∀ (n : Nat) (X : Nat → Prop) (s : σ) (w w' : World), J n X s w → w.heap.size ≤ w'.heap.size → (∀ k, k < w.heap.size → ¬ X k → w'.heap[k]? = w.heap[k]?) → J n X s w'
  wide : ∀ (n : Nat) (X : Nat → Prop) (s : σ) (w : World), J n (fun _ => False) s w → (∀ k, X k → w.heap.size ≤ k) → J n X s w
  narrow : ∀ (n : Nat) (X : Nat → Prop) (s : σ) (w : World), J n X s w → J n (fun _ => False) s w
set_option maxHeartbeats 2000000 in
set_option maxRecDepth 100000 in
theorem stepN {σ : Type} {q1 : Addr} {g : σ → U → σ × Bool} {w0 : World} {J : Nat → (Nat → Prop) → σ → World → Prop} (H : VisN q1 g w0 J) {N M : Nat} (hN : w0.heap.size ≤ N) (hM : w0.heap.size ≤ M) (hne : N ≠ M) :
    StepW ⟨N, 0, none⟩ ⟨M, 0, none⟩ (cnt g) w0 (fun b x w => Cell1 N (.int .i64 x.1) w ∧ Cell1 M (.func (Fn.func 117) #[] #[.pointer (some q1)]) w ∧ ∃ n : Nat, x.1 = (n : Int) ∧ (b = true → n ≤ 400) ∧ J n (fun k => k = N ∨ k = M) x.2 w) := by
  refine ⟨fun x u ps pe w hI hb0 hat hok => ?_⟩
  obtain ⟨z, s⟩ := x
  obtain ⟨hN1, hM1, n, hzn, hn, hJ⟩ := hI
  simp only at hN1 hM1 hJ hzn
  have hn4 := hn rfl
  obtain ⟨z2, hz⟩ : ∃ z2, IntKind.i64.wrap (z + 1) = z2 := ⟨_, rfl⟩
  have hz2 : z2 = ((n + 1 : Nat) : Int) := by rw [← hz, hzn, wrap_small (by omega) (by omega)]; rfl
  have hw := below_box w (.cells #[.pointer ps, .pointer pe, .int .i64 (u.d : Int)] 80)
  have hs : ((w.alloc (.cells #[.pointer ps, .pointer pe, .int .i64 (u.d : Int)] 80)).setCell ⟨N, 0, none⟩ (.int .i64 z2)).heap.size = (w.alloc (.cells #[.pointer ps, .pointer pe, .int .i64 (u.d : Int)] 80)).heap.size := by simp
  have hN2 := (hN1.later hw).set (u := .int .i64 z2)
  have hM2 : Cell1 M (.func (Fn.func 117) #[] #[.pointer (some q1)]) ((w.alloc (.cells #[.pointer ps, .pointer pe, .int .i64 (u.d : Int)] 80)).setCell ⟨N, 0, none⟩ (.int .i64 z2)) := by
    have h := hM1.later hw
    have hk : ((w.alloc (.cells #[.pointer ps, .pointer pe, .int .i64 (u.d : Int)] 80)).setCell ⟨N, 0, none⟩ (.int .i64 z2)).heap[M]? = (w.alloc (.cells #[.pointer ps, .pointer pe, .int .i64 (u.d : Int)] 80)).heap[M]? := Below.heap_setCell _ _ _ _ (by exact hne.symm)
    exact h.moved hk
  have hB2 := hb0.trans (((hw.mono hb0.size).setCell (p := ⟨N, 0, none⟩) hN (.int .i64 z2)))
  have hJ2 := H.keep n _ s w ((w.alloc (.cells #[.pointer ps, .pointer pe, .int .i64 (u.d : Int)] 80)).setCell ⟨N, 0, none⟩ (.int .i64 z2)) hJ (by rw [hs]; exact hw.size) (fun k hk hx => (Below.heap_setCell _ _ _ _ (fun e => hx (Or.inl e))).trans (hw.block k hk))
  have hC := H.call n _ s u ps pe _ hn4 (fun k hk => by
    rcases hk with rfl | rfl
    · exact ⟨hN, by rw [hs]; exact (hN1.later hw).lt⟩
    · exact ⟨hM, by rw [hs]; exact (hM1.later hw).lt⟩) hJ2 hB2 hat hok
  have HB : Hid (Below w0.heap.size w ((w.alloc (.cells #[.pointer ps, .pointer pe, .int .i64 (u.d : Int)] 80)).setCell ⟨N, 0, none⟩ (.int .i64 z2))) := (hw.mono hb0.size).setCell (p := ⟨N, 0, none⟩) hN (.int .i64 z2)
  have HV : Hid (cnt g (z, s) u = ((z2, (g s u).1), (g s u).2 && decide (z2 ≤ 400))) := by show _ = _; unfold cnt; simp only [hz]
  rw [HV.out]
  have HN2 := Lib.hid hN2
  have HM2 := Lib.hid hM2
  have HC := Lib.hid hC
  have hNw := hN1.later hw
  obtain ⟨n1, n2, n3⟩ := hNw
  have m2 := hM2.cell
  have n0 := hN1.cell
  have hnw : w.heap.size ≠ N := fun h => Nat.lt_irrefl _ (h ▸ hN1.lt)
  have hblk : ((w.alloc (.cells #[.pointer ps, .pointer pe, .int .i64 (u.d : Int)] 80)).setCell ⟨N, 0, none⟩ (.int .i64 z2)).heap[w.heap.size]? = (w.alloc (.cells #[.pointer ps, .pointer pe, .int .i64 (u.d : Int)] 80)).heap[w.heap.size]? := Below.heap_setCell _ _ _ _ (by exact hnw)
  have d0 := (World.cell?_of_block (a := ⟨w.heap.size, 0, none⟩) hblk).trans (show _ = some (.pointer ps) by go_simp)
  have d1 := (World.cell?_of_block (a := ⟨w.heap.size, 1, none⟩) hblk).trans (show _ = some (.pointer pe) by go_simp)
  have d2 := (World.cell?_of_block (a := ⟨w.heap.size, 2, none⟩) hblk).trans (show _ = some (.int .i64 (u.d : Int)) by go_simp)
  unfold nodeV at *
  generalize g s u = r at HC ⊢
  obtain ⟨s2, y⟩ := r
  simp only at HC ⊢
  have HZ2 := Lib.hid hz2
  clear hw hs hN2 hM2 hB2 hJ2 hC hN1 hM1 hJ hz2 hzn hn HV hat hok hb0 hblk hnw
  cases y
  · go_enter Tryz.func78, Tryz.ntmps78
    go_wp2_with fail
    refine HC.out.mono ?_; rintro e' w2 ⟨rfl, hJ2, hb2, hx⟩
    have HI : Hid (Cell1 N (.int .i64 z2) w2 ∧ Cell1 M (.func (Fn.func 117) #[] #[.pointer (some q1)]) w2 ∧ ∃ n' : Nat, z2 = (n' : Int) ∧ (false = true → n' ≤ 400) ∧ J n' (fun k => k = N ∨ k = M) s2 w2) := ⟨HN2.out.moved2 (hx N (Or.inl rfl)), HM2.out.moved2 (hx M (Or.inr rfl)), n + 1, HZ2.out, (fun hb => by cases hb), hJ2⟩
    have HB2 := Lib.hid (HB.out.trans hb2)
    clear hJ2 hb2 hx
    go_wp2_with fail
    go_ret
    exact ⟨rfl, HI.out, HB2.out⟩
  · obtain ⟨t, ht⟩ : ∃ t, decide (z2 ≤ 400) = t := ⟨_, rfl⟩
    rw [ht]
    have HT := Lib.hid ht
    go_enter Tryz.func78, Tryz.ntmps78
    go_wp2_with fail
    refine HC.out.mono ?_; rintro e' w2 ⟨rfl, hJ2, hb2, hx⟩
    have HI : Hid (Cell1 N (.int .i64 z2) w2 ∧ Cell1 M (.func (Fn.func 117) #[] #[.pointer (some q1)]) w2 ∧ ∃ n' : Nat, z2 = (n' : Int) ∧ ((true && t) = true → n' ≤ 400) ∧ J n' (fun k => k = N ∨ k = M) s2 w2) := ⟨HN2.out.moved2 (hx N (Or.inl rfl)), HM2.out.moved2 (hx M (Or.inr rfl)), n + 1, HZ2.out, (fun hb => by have := HT.out; rw [Bool.true_and] at hb; rw [hb] at this; have h4 := of_decide_eq_true this; have h5 := HZ2.out; omega), hJ2⟩
    have HB2 := Lib.hid (HB.out.trans hb2)
    have n4 := HI.out.1.cell
    clear hJ2 hb2 hx
    go_wp2_with fail
    go_ret
    exact ⟨rfl, HI.out, HB2.out⟩
set_option maxHeartbeats 2000000 in
set_option maxRecDepth 100000 in
theorem owalkN_any {σ : Type} {q1 : Addr} {g : σ → U → σ × Bool} {w0 : World} {J : Nat → (Nat → Prop) → σ → World → Prop} (H : VisN q1 g w0 J) (p : Pr) (a1 : Option Addr) (c1 : Nat) (a2 : Option Addr) (c2 : Nat) (hok : okB p.body) (hl : p.body.length ≤ 1000000000000000) (hsz : 1 + cB p.body ≤ 1000000) (hK : Bodies w0 a2 p.body)
    (s : σ) (w : World) (hJ : J 0 (fun _ => False) s w) (hb0 : Below w0.heap.size w0 w) :
    Calls Tryz.prog 58 #[prV p a1 c1 a2 c2, .func (Fn.func 117) #[] #[.pointer (some q1)]] w fun e' w' => e' = .returned (.tuple #[]) ∧ (∃ n', J n' (fun _ => False) (run g s (walkU p)).1 w') ∧ Below w0.heap.size w w' := by
  have hz := hb0.size
  have hw := below_2 (below_2 (below_box w (prO p a1 c1 a2 c2)) (below_box _ (.cells #[.func (Fn.func 117) #[] #[.pointer (some q1)]] 81))) (below_box _ (.cells #[.int .i64 0] 3))
  have hst := stepN H (N := w.heap.size + 2) (M := w.heap.size + 1) (by omega) (by omega) (by omega)
  have hJ2 := H.keep 0 _ s w (((w.alloc (prO p a1 c1 a2 c2)).alloc (.cells #[.func (Fn.func 117) #[] #[.pointer (some q1)]] 81)).alloc (.cells #[.int .i64 0] 3)) (H.wide 0 (fun k => k = w.heap.size + 2 ∨ k = w.heap.size + 1) s w hJ (fun k hk => by omega)) hw.size (fun k hk _ => hw.block k hk)
  have hN : Cell1 (w.heap.size + 2) (.int .i64 0) (((w.alloc (prO p a1 c1 a2 c2)).alloc (.cells #[.func (Fn.func 117) #[] #[.pointer (some q1)]] 81)).alloc (.cells #[.int .i64 0] 3)) := cell1_at (by simp)
  have hM : Cell1 (w.heap.size + 1) (.func (Fn.func 117) #[] #[.pointer (some q1)]) (((w.alloc (prO p a1 c1 a2 c2)).alloc (.cells #[.func (Fn.func 117) #[] #[.pointer (some q1)]] 81)).alloc (.cells #[.int .i64 0] 3)) := (cell1_at (by simp)).later (below_box _ _)
  have hB : Below w0.heap.size w _ := hw.mono hz
  have hC := owalkStmts_any hst p.body a2 c2 1 (0, s) _ hok hl hsz hK ⟨hN, hM, 0, rfl, fun _ => by omega, hJ2⟩ (hb0.trans hB)
  have HRW := Lib.hid (run_walk g s p)
  rw [← HRW.out]
  generalize run (cnt g) (0, s) (nB p.body 1) = r at hC ⊢
  have HC := Lib.hid hC
  have HB := Lib.hid hB
  have HNW : Hid (∀ n w2, J n (fun k => k = w.heap.size + 2 ∨ k = w.heap.size + 1) r.1.2 w2 → J n (fun _ => False) r.1.2 w2) := fun n w2 h => H.narrow _ _ _ _ h
  simp only [show ((1 : Nat) : Int) = 1 from rfl] at HC
  unfold prO at HC HB
  unfold prV
  clear hz hw hst hJ2 hN hM hB hC HRW hok hl hsz hK hJ hb0 H
  go_enter Tryz.func58, Tryz.ntmps58
  go_wp2_with fail
  refine HC.out.mono ?_; rintro e' w2 ⟨rfl, ⟨_, _, n3, _, _, hJ3⟩, hb2⟩
  have HJ3 := Lib.hid (HNW.out n3 w2 hJ3)
  have HB2 := Lib.hid (HB.out.trans hb2)
  clear hJ3 hb2
  go_wp2_with fail
  go_end0
  exact ⟨rfl, ⟨n3, HJ3.out⟩, HB2.out⟩
end Go.Proofs.YtnelpgeiioflmaaGreatDoor.A
namespace Go.Proofs.YtnelpgeiioflmaaGreatDoor.A
open Go.RowKit
open L (Str isName prt size_len below_2 below_box ret_bool ret_int eql_eq bytes_eq)

def Jb {σ : Type} (B : Nat) (f : σ → Value) (_ : Nat) (X : Nat → Prop) (s : σ) (w : World) : Prop := Cell1 B (f s) w ∧ ¬ X B
theorem Jb.keep {σ : Type} {B : Nat} {f : σ → Value} (n : Nat) (X : Nat → Prop) (s : σ) (w w' : World) (h : Jb B f n X s w) (_ : w.heap.size ≤ w'.heap.size) (hk : ∀ k, k < w.heap.size → ¬ X k → w'.heap[k]? = w.heap[k]?) : Jb B f n X s w' := ⟨h.1.moved (hk B h.1.lt h.2), h.2⟩
theorem Jb.wide {σ : Type} {B : Nat} {f : σ → Value} (n : Nat) (X : Nat → Prop) (s : σ) (w : World) (h : Jb B f n (fun _ => False) s w) (hx : ∀ k, X k → w.heap.size ≤ k) : Jb B f n X s w := ⟨h.1, fun hb => by have := hx B hb; have := h.1.lt; omega⟩
theorem Jb.narrow {σ : Type} {B : Nat} {f : σ → Value} (n : Nat) (X : Nat → Prop) (s : σ) (w : World) (h : Jb B f n X s w) : Jb B f n (fun _ => False) s w := ⟨h.1, fun hf => hf⟩
theorem Jb.store {σ : Type} {n m B : Nat} {f : σ → Value} {X : Nat → Prop} {s s2 : σ} {w0 w w2 : World} (hX : ∀ k, X k → w0.heap.size ≤ k ∧ k < w.heap.size) (hB : w0.heap.size ≤ B) (h : Jb B f n X s w) (hb : Below w.heap.size w w2) (hz : w0.heap.size ≤ w.heap.size) :
    Jb B f m X s2 (w2.setCell ⟨B, 0, none⟩ (f s2)) ∧ Below w0.heap.size w (w2.setCell ⟨B, 0, none⟩ (f s2)) ∧ ∀ k, X k → (w2.setCell ⟨B, 0, none⟩ (f s2)).heap[k]? = w.heap[k]? :=
  ⟨⟨(h.1.later hb).set, h.2⟩, (hb.mono hz).setCell hB _, fun k hk => (Below.heap_setCell _ _ _ _ (fun e => h.2 (by rw [show B = k from e.symm]; exact hk))).trans (hb.block k (hX k hk).2)⟩
theorem Jb.same {σ : Type} {n m B : Nat} {f : σ → Value} {X : Nat → Prop} {s : σ} {w0 w w2 : World} (hX : ∀ k, X k → w0.heap.size ≤ k ∧ k < w.heap.size) (h : Jb B f n X s w) (hb : Below w.heap.size w w2) (hz : w0.heap.size ≤ w.heap.size) :
    Jb B f m X s w2 ∧ Below w0.heap.size w w2 ∧ ∀ k, X k → w2.heap[k]? = w.heap[k]? := ⟨⟨h.1.later hb, h.2⟩, hb.mono hz, fun k hk => hb.block k (hX k hk).2⟩
set_option maxHeartbeats 2000000 in
set_option maxRecDepth 100000 in
theorem visN {w0 : World} {B : Nat} (hB : w0.heap.size ≤ B) : VisN ⟨B, 0, none⟩ gN w0 (Jb B (fun z => .int .i64 z)) := by
  refine ⟨fun n X z u ps pe w _ hX hJ hb0 _ _ => ?_, Jb.keep, Jb.wide, Jb.narrow⟩
  obtain ⟨z2, hz⟩ : ∃ z2, IntKind.i64.wrap (z + 1) = z2 := ⟨_, rfl⟩
  have hw := below_box w (.cells #[.pointer ps, .pointer pe, .int .i64 (u.d : Int)] 80)
  have HP := Lib.hid (Jb.store (m := n + 1) (s2 := z2) hX hB hJ hw hb0.size)
  have HV : Hid (gN z u = (z2, true)) := by show _ = _; unfold gN; rw [hz]
  rw [HV.out]
  obtain ⟨n1, n2, n3⟩ := hJ.1.later hw
  have n0 := hJ.1.cell
  unfold nodeV
  clear hw hJ hb0 HV hX
  go_enter Tryz.func117, Tryz.ntmps117
  go_wp2_with fail
  go_ret
  exact ⟨rfl, HP.out⟩
set_option maxHeartbeats 2000000 in
set_option maxRecDepth 100000 in
theorem onodes_any (p : Pr) (a1 a2 : Option Addr) (c1 c2 : Nat) (hok : okB p.body) (hl : p.body.length ≤ 1000000000000000) (hsz : cB p.body ≤ 900000) (w : World) (hK : Bodies w a2 p.body) :
    Calls Tryz.prog 100 #[prV p a1 c1 a2 c2] w fun e' w' => e' = .returned (.int .i64 (nodes p : Int)) ∧ Below w.heap.size w w' := by
  have hw := below_2 (below_box w (prO p a1 c1 a2 c2)) (below_box _ (.cells #[.int .i64 0] 3))
  have hJ : Jb (w.heap.size + 1) (fun z => .int .i64 z) 0 (fun _ => False) (0 : Int) ((w.alloc (prO p a1 c1 a2 c2)).alloc (.cells #[.int .i64 0] 3)) := ⟨cell1_at (by simp), fun h => h⟩
  have hC := owalkN_any (visN (w0 := w) (B := w.heap.size + 1) (by omega)) p a1 c1 a2 c2 hok hl (by omega) hK 0 _ hJ hw
  rw [nodes_run] at hC
  have HC := Lib.hid hC
  have HW := Lib.hid hw
  generalize nodes p = n at HC ⊢
  unfold prO at HC HW
  unfold prV at *
  clear hw hJ hC hok hl hsz hK
  go_enter Tryz.func100, Tryz.ntmps100
  go_wp2_with fail
  refine HC.out.mono ?_; rintro e' w2 ⟨rfl, ⟨_, hj, _⟩, hb2⟩
  have n0 := hj.cell
  have HB := Lib.hid (HW.out.trans hb2)
  clear hj hb2
  go_wp2_with fail
  go_ret
  exact ⟨rfl, HB.out⟩
end Go.Proofs.YtnelpgeiioflmaaGreatDoor.A
namespace Go.Proofs.YtnelpgeiioflmaaGreatDoor.A
open Go.RowKit
open L (Str isName prt size_len below_2 below_box ret_bool ret_int eql_eq bytes_eq)

set_option maxHeartbeats 2000000 in
set_option maxRecDepth 100000 in
theorem visV {w0 : World} {B : Nat} (hB : w0.heap.size ≤ B) : VisV ⟨B, 0, none⟩ gV w0 (Jb B (fun z => .int .i64 z)) := by
  refine ⟨fun n X z u ps pe w _ hX hJ hb0 hat hok => ?_, Jb.keep, Jb.wide, Jb.narrow⟩
  have hw := below_box w (.cells #[.pointer ps, .pointer pe, .int .i64 (u.d : Int)] 80)
  cases u with
  | st s d =>
    obtain ⟨b, i, rfl, rfl, hat⟩ := hat
    simp only [U.d] at *
    have hs : StAt (w.alloc (.cells #[.pointer (some ⟨b, i, none⟩), .pointer none, .int .i64 (d : Int)] 80)) s b i := (hat.below hb0).below hw
    have hd : d ≤ 1000000 := by have := hok.2; omega
    have hcs : cS s ≤ 1000000 := by have := hok.2; omega
    have HC := Lib.hid (ostmtError_any s b i d hd hok.1 hcs _ hs)
    have HP : Hid (∀ w2, Below (w.alloc (.cells #[.pointer (some ⟨b, i, none⟩), .pointer none, .int .i64 (d : Int)] 80)).heap.size (w.alloc (.cells #[.pointer (some ⟨b, i, none⟩), .pointer none, .int .i64 (d : Int)] 80)) w2 → ∀ z2 : Int,
      Jb B (fun z => .int .i64 z) (n + 1) X z2 (w2.setCell ⟨B, 0, none⟩ (.int .i64 z2)) ∧ Below w0.heap.size w (w2.setCell ⟨B, 0, none⟩ (.int .i64 z2)) ∧ ∀ k, X k → (w2.setCell ⟨B, 0, none⟩ (.int .i64 z2)).heap[k]? = w.heap[k]?) := fun w2 hb z2 => Jb.store (m := n + 1) (s2 := z2) hX hB hJ (below_2 hw hb) hb0.size
    have HJ1 := Lib.hid (hJ.1.later hw)
    have HV : Hid (gV z (.st s d) = (stE s d, (stE s d == 0))) := by
      show (stE s d, decide (stE s d = 0)) = _
      rw [Bool.beq_eq_decide_eq]
    rw [HV.out]
    generalize stE s d = x at HC ⊢
    unfold nodeV
    clear hw hJ hb0 HV hX hok hat hs
    go_enter Tryz.func98, Tryz.ntmps98
    go_wp2_with fail
    refine HC.out.mono ?_; rintro e' w2 ⟨rfl, hb⟩
    obtain ⟨n1, n2, n3⟩ := HJ1.out.later hb
    have HP2 := Lib.hid (HP.out w2 hb x)
    clear hb
    go_wp2_with fail
    go_ret
    exact ⟨rfl, HP2.out⟩
  | ex e d =>
    obtain ⟨b, i, rfl, rfl, _⟩ := hat
    have HP := Lib.hid (Jb.same (m := n + 1) hX hJ hw hb0.size)
    have HV : Hid (gV z (.ex e d) = (z, (z == 0))) := by
      show (z, decide (z = 0)) = _
      rw [Bool.beq_eq_decide_eq]
    rw [HV.out]
    have n0 := hJ.1.cell
    have n2 := (hJ.1.later hw).cell
    unfold nodeV
    simp only [U.d] at *
    clear hw hJ hb0 hX hok HV
    go_enter Tryz.func98, Tryz.ntmps98
    go_wp2_with fail
    go_ret
    exact ⟨rfl, HP.out⟩
theorem val_cases (p : Pr) : valE p = if nam p.name = false then 7 else if parE p.params ≠ 0 then parE p.params else if firstE (walk p) ≠ 0 then firstE (walk p) else if 400 < nodes p then 2 else 0 := rfl
set_option maxHeartbeats 4000000 in
set_option maxRecDepth 100000 in
theorem ovalidate_any (p : Pr) (a1 a2 : Option Addr) (c1 c2 : Nat) (hok : OkP p) (hsz : cB p.body ≤ 900000) (hc1 : p.params.length ≤ c1) (w : World) (hK : PrIn w p a1 a2) :
    Calls Tryz.prog 81 #[prV p a1 c1 a2 c2] w fun e' w' => e' = .returned (.int .i64 (valE p)) ∧ Below w.heap.size w w' := by
  have hw := below_box w (prO p a1 c1 a2 c2)
  have HBL := Lib.hid (fun w' hb => proc_later (w := w) (w' := w') (p := p) (a1 := a1) (a2 := a2) (c1 := c1) (c2 := c2) hb)
  have HI : Hid (∀ w, Calls Tryz.prog 96 #[.string p.name] w fun e' w' => e' = .returned (.bool (nam p.name)) ∧ Below w.heap.size w w') := fun w => L.oname_any p.name w
  have HPE := Lib.hid (fun w' h => oparamsError_any p.params a1 c1 hok.params w' hc1 h)
  have HN := Lib.hid (fun w' h => onodes_any p a1 a2 c1 c2 hok.body hok.bodyLen hsz w' h)
  have HWK := Lib.hid (fun (B : Nat) (hB : (w.alloc (prO p a1 c1 a2 c2)).heap.size ≤ B) (z : Int) (w' : World) (hJ : Jb B (fun z => .int .i64 z) 0 (fun _ => False) z w') (hb : Below (w.alloc (prO p a1 c1 a2 c2)).heap.size (w.alloc (prO p a1 c1 a2 c2)) w') => owalkV_any (visV (w0 := w.alloc (prO p a1 c1 a2 c2)) hB) p a1 c1 a2 c2 hok.body hok.bodyLen (by omega) (hK.below hw).body z w' hJ hb)
  have HK := Lib.hid hK
  have HW := Lib.hid hw
  have hv := val_cases p
  have hfr := first_run p
  generalize valE p = R at hv ⊢
  have HV := Lib.hid hv
  have HFR := Lib.hid hfr
  clear hv hfr hw hK hok hsz hc1
  unfold prO at HBL HW HWK
  unfold prV at *
  generalize nam p.name = nm at HI HV
  cases nm
  · have HR : Hid (R = 7) := by show _ = _; rw [HV.out, if_pos rfl]
    go_enter Tryz.func81, Tryz.ntmps81
    go_wp2_with fail
    refine (HI.out _).mono ?_; rintro e w2 ⟨rfl, hb2⟩
    have HB2 := Lib.hid (below_2 HW.out hb2)
    clear hb2
    go_wp2_with fail
    go_ret
    exact ⟨ret_int HR.out.symm, HB2.out⟩
  · go_enter Tryz.func81, Tryz.ntmps81
    go_wp2_with fail
    refine (HI.out _).mono ?_; rintro e w2 ⟨rfl, hb2⟩
    have HBX := Lib.hid hb2
    clear hb2
    obtain ⟨j0, j1, j2⟩ := HBL.out _ HBX.out
    go_wp2_with fail
    refine (HPE.out _ (HK.out.below (below_2 HW.out HBX.out)).params).mono ?_; rintro e w3 ⟨rfl, hb3⟩
    have HBX := Lib.hid (below_2 HBX.out hb3)
    clear hb3 j0 j1 j2
    by_cases hp : parE p.params = 0
    · rw [hp]
      obtain ⟨j0, j1, j2⟩ := HBL.out _ HBX.out
      have hB := HBX.out.size
      have hC := HWK.out w3.heap.size hB 0 (w3.alloc (.cells #[.int .i64 0] 32)) ⟨cell1_at rfl, fun h => h⟩ (HBX.out.trans ((below_box w3 _).mono hB))
      rw [HFR.out] at hC
      have HC := Lib.hid hC
      have HBA := Lib.hid (below_2 HBX.out (below_box w3 (.cells #[.int .i64 0] 32)))
      obtain ⟨i0, i1, i2⟩ := HBL.out _ HBA.out
      have HR2 : Hid (R = if firstE (walk p) ≠ 0 then firstE (walk p) else if 400 < nodes p then 2 else 0) := by show _ = _; rw [HV.out, if_neg (by decide), if_neg (fun h => h hp)]
      clear hC hp hB j0 j1 j2
      generalize firstE (walk p) = f at HC HR2
      go_wp2_with fail
      refine HC.out.mono ?_; rintro e w4 ⟨rfl, ⟨_, hj, _⟩, hb4⟩
      have n0 := hj.cell
      have HJ4 := Lib.hid hj
      have HB4 := Lib.hid (HBA.out.trans hb4)
      clear hj hb4 i0 i1 i2
      obtain ⟨i0, i1, i2⟩ := HBL.out _ HB4.out
      by_cases hf : f = 0
      · have bf : (f == 0) = true := beq_iff_eq.2 hf
        have HR3 : Hid (R = if 400 < nodes p then 2 else 0) := by show _ = _; rw [HR2.out, if_neg (fun h => h hf)]
        have HF : Hid (f = 0) := hf
        clear hf
        go_wp2_with fail
        refine (HN.out _ (HK.out.below (below_2 HW.out HB4.out)).body).mono ?_; rintro e w5 ⟨rfl, hb5⟩
        have n5 := (HJ4.out.later hb5).cell
        have HB5 := Lib.hid (below_2 HW.out (below_2 HB4.out hb5))
        clear hb5
        by_cases h4 : 400 < nodes p
        · have b4 : decide (400 < (nodes p : Int)) = true := decide_eq_true (by omega)
          have HR : Hid (R = 2) := by show _ = _; rw [HR3.out, if_pos h4]
          clear h4
          go_wp2_with fail
          go_ret
          exact ⟨ret_int HR.out.symm, HB5.out⟩
        · have b4 : decide (400 < (nodes p : Int)) = false := decide_eq_false (by omega)
          have HR : Hid (R = f) := by show _ = _; rw [HR3.out, if_neg h4, HF.out]
          clear h4
          go_wp2_with fail
          go_ret
          exact ⟨ret_int HR.out.symm, HB5.out⟩
      · have bf : (f == 0) = false := beq_eq_false_iff_ne.2 hf
        have HR : Hid (R = f) := by show _ = _; rw [HR2.out, if_pos hf]
        have HB5 := Lib.hid (below_2 HW.out HB4.out)
        clear hf
        go_wp2_with fail
        go_ret
        exact ⟨ret_int HR.out.symm, HB5.out⟩
    · have bp : (parE p.params != 0) = true := bne_iff_ne.2 hp
      have HR : Hid (R = parE p.params) := by show _ = _; rw [HV.out, if_neg (by decide), if_pos hp]
      have HB5 := Lib.hid (below_2 (below_2 HW.out HBX.out) (below_box w3 (.cells #[.int .i64 (parE p.params)] 32)))
      clear hp
      go_wp2_with fail
      go_ret
      exact ⟨ret_int HR.out.symm, HB5.out⟩
end Go.Proofs.YtnelpgeiioflmaaGreatDoor.A
namespace Go.Proofs.YtnelpgeiioflmaaGreatDoor.A
open Go.RowKit
open L (Str isName prt size_len below_2 below_box ret_bool ret_int eql_eq bytes_eq)

def stC (s : St) (a1 : Option Addr) (c1 : Nat) (a2 : Option Addr) (c2 : Nat) (a3 : Option Addr) (c3 : Nat) (a4 : Option Addr) (c4 : Nat) : Value :=
  .agg #[.int .i64 s.op, .string s.name, .int .i64 s.mx, .int .i64 s.a.op, .int .i64 s.a.n, .string s.a.s, .slice a1 s.a.args.length c1, .int .i64 s.b.op, .int .i64 s.b.n, .string s.b.s, .slice a2 s.b.args.length c2, .slice a3 s.body.length c3, .slice a4 s.els.length c4]
end Go.Proofs.YtnelpgeiioflmaaGreatDoor.A
namespace Go.Proofs.YtnelpgeiioflmaaGreatDoor.A
open Go.RowKit
open L (Str isName prt size_len below_2 below_box ret_bool ret_int eql_eq bytes_eq isName_any)

def RStmt : Prop := ∀ (s : St) (a1 : Option Addr) (c1 : Nat) (a2 : Option Addr) (c2 : Nat) (a3 : Option Addr) (c3 : Nat) (a4 : Option Addr) (c4 : Nat) (d : Nat), d ≤ 1000000 → okS s → ∀ w0 : World, StKids w0 s a1 a2 a3 a4 →
    Calls Tryz.prog 66 #[stC s a1 c1 a2 c2 a3 c3 a4 c4, .int .i64 (d : Int)] w0 fun e' w' => e' = .returned (.int .i64 (stE s d)) ∧ Below w0.heap.size w0 w'
def VOk (n : Nat) : V → Prop
  | .st s d => okS s ∧ d ≤ n
  | .ex _ _ => True
mutual
theorem preE_ok (n : Nat) : ∀ (e : Ex) (r : Bool), ∀ v ∈ preE e r, VOk n v
  | .mk o m s l, r, v, h => by
    rw [preE] at h
    rcases List.mem_cons.1 h with rfl | h
    · trivial
    · exact preEs_ok n l v h
theorem preEs_ok (n : Nat) : ∀ (l : List Ex), ∀ v ∈ preEs l, VOk n v
  | [], v, h => by rw [preEs] at h; cases h
  | e :: r, v, h => by
    rw [preEs] at h
    rcases List.mem_append.1 h with h | h
    · exact preE_ok n e false v h
    · exact preEs_ok n r v h
end
theorem preR_ok (n : Nat) (e : Ex) : ∀ v ∈ preR e, VOk n v := by
  intro v h
  unfold preR at h
  split at h
  · cases h
  · exact preE_ok n e true v h
mutual
theorem preS_ok (n : Nat) : ∀ (s : St) (d : Nat), okS s → d + cS s ≤ n → ∀ v ∈ preS s d, VOk n v
  | .mk o nm mx a b bd el, d, hok, hd, v, h => by
    have hp := hok
    rw [okS] at hp
    obtain ⟨_, _, _, _, _, _, h1, _, h2⟩ := hp
    rw [cS] at hd
    rw [preS] at h
    rcases List.mem_cons.1 h with rfl | h
    · exact ⟨hok, by omega⟩
    rcases List.mem_append.1 h with h | h
    · rcases List.mem_append.1 h with h | h
      · rcases List.mem_append.1 h with h | h
        · exact preR_ok n a v h
        · exact preR_ok n b v h
      · exact preB_ok n bd (d + 1) h1 (by omega) v h
    · exact preB_ok n el (d + 1) h2 (by omega) v h
theorem preB_ok (n : Nat) : ∀ (l : List St) (d : Nat), okB l → d + cB l ≤ n → ∀ v ∈ preB l d, VOk n v
  | [], d, _, _, v, h => by rw [preB] at h; cases h
  | s :: r, d, hok, hd, v, h => by
    rw [okB] at hok
    rw [cB] at hd
    rw [preB] at h
    rcases List.mem_append.1 h with h | h
    · exact preS_ok n s d hok.1 (by omega) v h
    · exact preB_ok n r d hok.2 (by omega) v h
end
theorem walk_ok {p : Pr} (hok : okB p.body) (hs : cB p.body ≤ 900000) : ∀ v ∈ walk p, VOk 1000000 v := fun v h =>
  preB_ok 1000000 p.body 1 hok (by omega) v (List.mem_of_mem_take (by unfold walk at h; exact h))
theorem firstE_drop {l : List V} {k : Nat} (h : k < l.length) : firstE (l.drop k) = match l[k] with | .st s d => if stE s d ≠ 0 then stE s d else firstE (l.drop (k + 1)) | .ex _ _ => firstE (l.drop (k + 1)) := by
  rw [List.drop_eq_getElem_cons h]
  cases l[k] <;> rfl
set_option maxHeartbeats 8000000 in
set_option maxRecDepth 100000 in
theorem rvalidate_any (hst : RStmt) (p : Pr) (a1 a2 : Option Addr) (c1 c2 : Nat) (hok : OkP p) (hsz : cB p.body ≤ 900000) (w : World) (hK : PrIn w p a1 a2) :
    Calls Tryz.prog 44 #[prV p a1 c1 a2 c2] w fun e' w' => e' = .returned (.int .i64 (valE p)) ∧ Below w.heap.size w w' := by
  have hw := below_box w (prO p a1 c1 a2 c2)
  have HBL := Lib.hid (fun w' hb => proc_later (w := w) (w' := w') (p := p) (a1 := a1) (a2 := a2) (c1 := c1) (c2 := c2) hb)
  have HI : Hid (∀ w, Calls Tryz.prog 49 #[.string p.name] w fun e' w' => e' = .returned (.bool (nam p.name)) ∧ Below w.heap.size w w') := fun w => isName_any p.name (by have := hok.name; omega) w
  have HPE := Lib.hid (fun w' h => rparams_any p.params a1 c1 hok.params hok.each w' h)
  have HC := Lib.hid (fun w' hK => rwalk_any p a1 a2 c1 c2 hok.body hok.bodyLen w' hK)
  have HVO := Lib.hid (walk_ok hok.body hsz)
  have HST := Lib.hid hst
  have HK := Lib.hid hK
  have HW := Lib.hid hw
  have hv := val_cases p
  have hn : (walk p).length ≤ 401 := by unfold walk; rw [List.length_take]; omega
  have hnn : nodes p = (walk p).length := rfl
  rw [hnn] at hv
  generalize valE p = R at hv ⊢
  have HV := Lib.hid hv
  clear hv hw hK hok hsz hst hnn
  unfold prO at HBL HW
  unfold prV at *
  generalize nam p.name = nm at HI HV
  cases nm
  · have HR : Hid (R = 7) := by show _ = _; rw [HV.out, if_pos rfl]
    go_enter Tryz.func44, Tryz.ntmps44
    go_wp2_with fail
    refine (HI.out _).mono ?_; rintro e w2 ⟨rfl, hb2⟩
    have HB2 := Lib.hid (below_2 HW.out hb2)
    clear hb2
    go_wp2_with fail
    go_ret
    exact ⟨ret_int HR.out.symm, HB2.out⟩
  · go_enter Tryz.func44, Tryz.ntmps44
    go_wp2_with fail
    refine (HI.out _).mono ?_; rintro e w2 ⟨rfl, hb2⟩
    have HBX := Lib.hid hb2
    clear hb2
    obtain ⟨j0, j1, j2⟩ := HBL.out _ HBX.out
    go_wp2_with fail
    refine (HPE.out _ (HK.out.below (below_2 HW.out HBX.out)).params).mono ?_; rintro e w3 ⟨rfl, hb3⟩
    have HBX := Lib.hid (below_2 HBX.out hb3)
    clear hb3 j0 j1 j2
    by_cases hp : parE p.params = 0
    · have bp : (parE p.params != 0) = false := by rw [bne_eq_false_iff_eq]; exact hp
      have HR2 : Hid (R = if firstE (walk p) ≠ 0 then firstE (walk p) else if 400 < (walk p).length then 2 else 0) := by show _ = _; rw [HV.out, if_neg (by decide), if_neg (fun h => h hp)]
      obtain ⟨j0, j1, j2⟩ := HBL.out _ HBX.out
      have HC2 := Lib.hid (HC.out w3 (HK.out.below (below_2 HW.out HBX.out)).body)
      clear hp
      go_wp2_with fail
      refine HC2.out.mono ?_; rintro e w4 ⟨p3, q3, l', rfl, ho, hi, hvv, hb4⟩
      have HO := Lib.hid ho
      have HIn := Lib.hid hi
      have HWK := Lib.hid hvv
      have HB4 := Lib.hid (below_2 (below_2 HW.out HBX.out) hb4)
      have hlw : l'.length = (walk p).length := by rw [← vs_len, hvv]
      have HLW := Lib.hid hlw
      have hln : l'.length ≤ 401 := by rw [hlw]; exact hn
      have hz4 := hb4.size
      have HI4 : Hid (∀ x ∈ l', x.In w4) := fun x hx => (hi x hx).below hb4
      clear ho hi hvv hb4 hlw j0 j1 j2 bp
      go_wp2_with fail
      go_loopw [5] (fun s5 wr => ∃ k : Nat, k ≤ l'.length ∧ s5 = .int .i64 k ∧ Hid (firstE ((walk p).drop k) = firstE (walk p)) ∧ Hid (Below w4.heap.size w4 wr)) (fun s5 _ => l'.length - (intOf s5).toNat)
      case atStart => exact ⟨0, Nat.zero_le _, rfl, rfl, Below.refl _ _⟩
      case round =>
        obtain ⟨k, hk, rfl, HX, HBr⟩ := hrel
        have HBB := Lib.hid (below_2 HB4.out HBr.out)
        by_cases hlt : k < l'.length
        · obtain ⟨g3, rfl, hcell⟩ := visit_cells HO.out hlt
          have hlx : k < (walk p).length := by rw [← HLW.out]; exact hlt
          have hvk : (walk p)[k] = (l'[k]).v := by simp only [← HWK.out, vs, List.getElem_map]
          have hx := HX.out
          rw [firstE_drop hlx, hvk] at hx
          have hin := HI4.out _ (List.getElem_mem hlt)
          have hvo := HVO.out _ (List.getElem_mem hlx)
          rw [hvk] at hvo
          have hg3 : g3 < w4.heap.size := by
            have h := hcell 0 (by omega)
            cases hh : l'[k] with
            | st s d a5 c5 a6 c6 a7 c7 a8 c8 => rw [hh] at h; exact block_lt_of_cell (show w4.cell? ⟨g3, k * 20 + 0, none⟩ = some (.bool true) from h)
            | ex e r a5 c5 => rw [hh] at h; exact block_lt_of_cell (show w4.cell? ⟨g3, k * 20 + 0, none⟩ = some (.bool false) from h)
          have hcr : ∀ r, r < 20 → wr.cell? ⟨g3, k * 20 + r, none⟩ = (l'[k]).cells[r]? := fun r hr => (HBr.out.cell (by exact hg3)).trans (hcell r hr)
          generalize l'[k] = y at hcr hx hin hvo
          clear hvk hcell
          cases y with
          | ex e r a5 c5 =>
            have f0 : wr.cell? ⟨g3, k * 20, none⟩ = some (.bool false) := hcr 0 (by omega)
            have HX2 : Hid (firstE ((walk p).drop (k + 1)) = firstE (walk p)) := hx
            clear hcr hx hin hvo
            go_wp2_with fail
            go_roundw
            case rel => exact ⟨k + 1, by omega, by go_num, HX2.out, HBr.out⟩
            case measure => simp [intOf]; omega
          | st s d a5 c5 a6 c6 a7 c7 a8 c8 =>
            have f0 : wr.cell? ⟨g3, k * 20, none⟩ = some (.bool true) := hcr 0 (by omega)
            have e0 : wr.cell? ⟨g3, k * 20 + 1, none⟩ = some (.int .i64 s.op) := hcr 1 (by omega)
            have e1 : wr.cell? ⟨g3, k * 20 + 1 + 1, none⟩ = some (.string s.name) := hcr 2 (by omega)
            have e2 : wr.cell? ⟨g3, k * 20 + 1 + 2, none⟩ = some (.int .i64 s.mx) := hcr 3 (by omega)
            have e3 : wr.cell? ⟨g3, k * 20 + 1 + 3, none⟩ = some (.int .i64 s.a.op) := hcr 4 (by omega)
            have e4 : wr.cell? ⟨g3, k * 20 + 1 + 4, none⟩ = some (.int .i64 s.a.n) := hcr 5 (by omega)
            have e5 : wr.cell? ⟨g3, k * 20 + 1 + 5, none⟩ = some (.string s.a.s) := hcr 6 (by omega)
            have e6 : wr.cell? ⟨g3, k * 20 + 1 + 6, none⟩ = some (.slice a5 s.a.args.length c5) := hcr 7 (by omega)
            have e7 : wr.cell? ⟨g3, k * 20 + 1 + 7, none⟩ = some (.int .i64 s.b.op) := hcr 8 (by omega)
            have e8 : wr.cell? ⟨g3, k * 20 + 1 + 8, none⟩ = some (.int .i64 s.b.n) := hcr 9 (by omega)
            have e9 : wr.cell? ⟨g3, k * 20 + 1 + 9, none⟩ = some (.string s.b.s) := hcr 10 (by omega)
            have e10 : wr.cell? ⟨g3, k * 20 + 1 + 10, none⟩ = some (.slice a6 s.b.args.length c6) := hcr 11 (by omega)
            have e11 : wr.cell? ⟨g3, k * 20 + 1 + 11, none⟩ = some (.slice a7 s.body.length c7) := hcr 12 (by omega)
            have e12 : wr.cell? ⟨g3, k * 20 + 1 + 12, none⟩ = some (.slice a8 s.els.length c8) := hcr 13 (by omega)
            have f14 : wr.cell? ⟨g3, k * 20 + 14, none⟩ = some (.int .i64 (d : Int)) := hcr 14 (by omega)
            have hkk : StKids wr.drew s a5 a6 a7 a8 := StKids.below (StKids.below hin HBr.out) (L.below_drew wr)
            have HSC := Lib.hid (HST.out s a5 c5 a6 c6 a7 c7 a8 c8 d hvo.2 hvo.1 wr.drew hkk)
            have hxx : (if stE s d ≠ 0 then stE s d else firstE ((walk p).drop (k + 1))) = firstE (walk p) := hx
            generalize stE s d = z at HSC hxx
            unfold stC at HSC
            clear hcr hx hin hvo hkk
            by_cases hz : z = 0
            · have bz : (z != 0) = false := by rw [bne_eq_false_iff_eq]; exact hz
              rw [if_neg (fun h => h hz)] at hxx
              have HX2 := Lib.hid hxx
              clear hz hxx
              go_wp2_with fail
              go_region_law (go_simp; go_at_call 66; refine HSC.out.mono ?_; rintro e' w5 ⟨rfl, hb5⟩; have HB5 := Lib.hid (below_2 (L.below_drew _) hb5); clear hb5)
              all_goals
                go_wp2_with fail
                go_roundw
                case rel => exact ⟨k + 1, by omega, by go_num, HX2.out, below_2 HBr.out HB5.out⟩
                case measure => simp [intOf]; omega
            · have bz : (z != 0) = true := bne_iff_ne.2 hz
              rw [if_pos hz] at hxx
              have HR : Hid (R = z) := by show _ = _; rw [HR2.out, ← hxx, if_pos hz]
              clear hz hxx
              go_wp2_with fail
              go_region_law (go_simp; go_at_call 66; refine HSC.out.mono ?_; rintro e' w5 ⟨rfl, hb5⟩; have HB5 := Lib.hid (below_2 (L.below_drew _) hb5); clear hb5)
              all_goals
                go_wp2_with fail
                go_ret
                exact ⟨ret_int HR.out.symm, below_2 HBB.out HB5.out⟩
        · have hx := HX.out
          rw [List.drop_of_length_le (by have := HLW.out; omega)] at hx
          have hf : firstE (walk p) = 0 := hx.symm
          have HR3 : Hid (R = if 400 < l'.length then 2 else 0) := by show _ = _; rw [HR2.out, if_neg (fun h => h hf), HLW.out]
          clear hx hf
          by_cases h4 : 400 < l'.length
          · have b4 : decide (400 < (l'.length : Int)) = true := decide_eq_true (by omega)
            have HR : Hid (R = 2) := by show _ = _; rw [HR3.out, if_pos h4]
            clear h4
            go_wp2_with fail
            go_ret
            exact ⟨ret_int HR.out.symm, HBB.out⟩
          · have b4 : decide (400 < (l'.length : Int)) = false := decide_eq_false (by omega)
            have HR : Hid (R = 0) := by show _ = _; rw [HR3.out, if_neg h4]
            clear h4
            go_wp2_with fail
            go_ret
            exact ⟨ret_int HR.out.symm, HBB.out⟩
    · have bp : (parE p.params != 0) = true := bne_iff_ne.2 hp
      have HR : Hid (R = parE p.params) := by show _ = _; rw [HV.out, if_neg (by decide), if_pos hp]
      have HB5 := Lib.hid (below_2 HW.out HBX.out)
      clear hp
      go_wp2_with fail
      go_ret
      exact ⟨ret_int HR.out.symm, HB5.out⟩
end Go.Proofs.YtnelpgeiioflmaaGreatDoor.A
