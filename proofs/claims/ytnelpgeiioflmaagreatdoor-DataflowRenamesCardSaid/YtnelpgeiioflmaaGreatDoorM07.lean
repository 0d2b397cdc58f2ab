/-
  The program's function walk of layer 8, for each function value that it is called with: what walk leaves is what the steps leave, node by node.
  What the reference of layer 8 returns: Walk: a contract.
  Visits read back; what the reference of layer 8 returns: Depth: a contract.
  Trees that a call builds: rows that it owns, with what hangs on their elements in blocks of its own.
  What the program's function copiedExpr of layer 8 returns: contracts, one a function value.
-/
import Derived.Test.YtnelpgeiioflmaaGreatDoorM06
import Derived.Test.YtnelpgeiioflmaaGreatDoorM05
import Derived.Laws.OwnMore
import Derived.Test.YtnelpgeiioflmaaGreatDoorM03
import Derived.Deep.AppendLies
namespace Go.Proofs.YtnelpgeiioflmaaGreatDoor.A
open Go.RowKit
open L (Str isName prt size_len below_2 below_box ret_bool ret_int eql_eq bytes_eq)

structure VisM {σ : Type} (q1 : Addr) (g : σ → U → σ × Bool) (w0 : World) (J : Nat → (Nat → Prop) → σ → World → Prop) : Prop where
  call : ∀ (n : Nat) (X : Nat → Prop) (s : σ) (u : U) (ps pe : Option Addr) (w : World), n ≤ 400 → (∀ k, X k → w0.heap.size ≤ k ∧ k < w.heap.size) → J n X s w → Below w0.heap.size w0 w → UAt w0 u ps pe → UOk u →
    Calls Tryz.prog 59 #[nodeV ps pe u.d, .pointer (some q1)] w fun e w' => e = .returned (.bool (g s u).2) ∧ J (n + 1) X (g s u).1 w' ∧ Below w0.heap.size w w' ∧ (∀ k, X k → w'.heap[k]? = w.heap[k]?)
  keep : ∀ (n : Nat) (X : Nat → Prop) (s : σ) (w w' : World), J n X s w → w.heap.size ≤ w'.heap.size → (∀ k, k < w.heap.size → ¬ X k → w'.heap[k]? = w.heap[k]?) → J n X s w'
  wide : ∀ (n : Nat) (X : Nat → Prop) (s : σ) (w : World), J n (fun _ => False) s w → (∀ k, X k → w.heap.size ≤ k) → J n X s w
  narrow : ∀ (n : Nat) (X : Nat → Prop) (s : σ) (w : World), J n X s w → J n (fun _ => False) s w
set_option maxHeartbeats 2000000 in
set_option maxRecDepth 100000 in
theorem stepM {σ : Type} {q1 : Addr} {g : σ → U → σ × Bool} {w0 : World} {J : Nat → (Nat → Prop) → σ → World → Prop} (H : VisM q1 g w0 J) {N M : Nat} (hN : w0.heap.size ≤ N) (hM : w0.heap.size ≤ M) (hne : N ≠ M) :
    StepW ⟨N, 0, none⟩ ⟨M, 0, none⟩ (cnt g) w0 (fun b x w => Cell1 N (.int .i64 x.1) w ∧ Cell1 M (.func (Fn.func 59) #[] #[.pointer (some q1)]) w ∧ ∃ n : Nat, x.1 = (n : Int) ∧ (b = true → n ≤ 400) ∧ J n (fun k => k = N ∨ k = M) x.2 w) := by
  refine ⟨fun x u ps pe w hI hb0 hat hok => ?_⟩
  obtain ⟨z, s⟩ := x
  obtain ⟨hN1, hM1, n, hzn, hn, hJ⟩ := hI
  simp only at hN1 hM1 hJ hzn
  have hn4 := hn rfl
  obtain ⟨z2, hz⟩ : ∃ z2, IntKind.i64.wrap (z + 1) = z2 := ⟨_, rfl⟩
  have hz2 : z2 = ((n + 1 : Nat) : Int) := by rw [← hz, hzn, wrap_small (by omega) (by omega)]; rfl
  have hw := below_box w (.cells #[.pointer ps, .pointer pe, .int .i64 (u.d : Int)] 80)
  have hs : ((w.alloc (.cells #[.pointer ps, .pointer pe, .int .i64 (u.d : Int)] 80)).setCell ⟨N, 0, none⟩ (.int .i64 z2)).heap.size = (w.alloc (.cells #[.pointer ps, .pointer pe, .int .i64 (u.d : Int)] 80)).heap.size := by simp
  have hN2 := (hN1.later hw).set (u := .int .i64 z2)
  have hM2 : Cell1 M (.func (Fn.func 59) #[] #[.pointer (some q1)]) ((w.alloc (.cells #[.pointer ps, .pointer pe, .int .i64 (u.d : Int)] 80)).setCell ⟨N, 0, none⟩ (.int .i64 z2)) := by
    have h := hM1.later hw
    have hk : ((w.alloc (.cells #[.pointer ps, .pointer pe, .int .i64 (u.d : Int)] 80)).setCell ⟨N, 0, none⟩ (.int .i64 z2)).heap[M]? = (w.alloc (.cells #[.pointer ps, .pointer pe, .int .i64 (u.d : Int)] 80)).heap[M]? := Below.heap_setCell _ _ _ _ (by exact hne.symm)
    exact h.moved hk
  have hB2 := hb0.trans (((hw.mono hb0.size).setCell (p := ⟨N, 0, none⟩) hN (.int .i64 z2)))
  have hJ2 := H.keep n _ s w ((w.alloc (.cells #[.pointer ps, .pointer pe, .int .i64 (u.d : Int)] 80)).setCell ⟨N, 0, none⟩ (.int .i64 z2)) hJ (by rw [hs]; exact hw.size) (fun k hk hx => (Below.heap_setCell _ _ _ _ (fun e => hx (Or.inl e))).trans (hw.block k hk))
  have hC := H.call n _ s u ps pe _ hn4 (fun k hk => by
    rcases hk with rfl | rfl
    · exact ⟨hN, by rw [hs]; exact (hN1.later hw).lt⟩
    · exact ⟨hM, by rw [hs]; exact (hM1.later hw).lt⟩) hJ2 hB2 hat hok
  have HB : Hid (Below w0.heap.size w ((w.alloc (.cells #[.pointer ps, .pointer pe, .int .i64 (u.d : Int)] 80)).setCell ⟨N, 0, none⟩ (.int .i64 z2))) := (hw.mono hb0.size).setCell (p := ⟨N, 0, none⟩) hN (.int .i64 z2)
  have HV : Hid (cnt g (z, s) u = ((z2, (g s u).1), (g s u).2 && decide (z2 ≤ 400))) := by show _ = _; unfold cnt; simp only [hz]
  rw [HV.out]
  have HN2 := Lib.hid hN2
  have HM2 := Lib.hid hM2
  have HC := Lib.hid hC
  have hNw := hN1.later hw
  obtain ⟨n1, n2, n3⟩ := hNw
  have m2 := hM2.cell
  have n0 := hN1.cell
  have hnw : w.heap.size ≠ N := fun h => Nat.lt_irrefl _ (h ▸ hN1.lt)
  have hblk : ((w.alloc (.cells #[.pointer ps, .pointer pe, .int .i64 (u.d : Int)] 80)).setCell ⟨N, 0, none⟩ (.int .i64 z2)).heap[w.heap.size]? = (w.alloc (.cells #[.pointer ps, .pointer pe, .int .i64 (u.d : Int)] 80)).heap[w.heap.size]? := Below.heap_setCell _ _ _ _ (by exact hnw)
  have d0 := (World.cell?_of_block (a := ⟨w.heap.size, 0, none⟩) hblk).trans (show _ = some (.pointer ps) by go_simp)
  have d1 := (World.cell?_of_block (a := ⟨w.heap.size, 1, none⟩) hblk).trans (show _ = some (.pointer pe) by go_simp)
  have d2 := (World.cell?_of_block (a := ⟨w.heap.size, 2, none⟩) hblk).trans (show _ = some (.int .i64 (u.d : Int)) by go_simp)
  unfold nodeV at *
  generalize g s u = r at HC ⊢
  obtain ⟨s2, y⟩ := r
  simp only at HC ⊢
  have HZ2 := Lib.hid hz2
  clear hw hs hN2 hM2 hB2 hJ2 hC hN1 hM1 hJ hz2 hzn hn HV hat hok hb0 hblk hnw
  cases y
  · go_enter Tryz.func78, Tryz.ntmps78
    go_wp2_with fail
    refine HC.out.mono ?_; rintro e' w2 ⟨rfl, hJ2, hb2, hx⟩
    have HI : Hid (Cell1 N (.int .i64 z2) w2 ∧ Cell1 M (.func (Fn.func 59) #[] #[.pointer (some q1)]) w2 ∧ ∃ n' : Nat, z2 = (n' : Int) ∧ (false = true → n' ≤ 400) ∧ J n' (fun k => k = N ∨ k = M) s2 w2) := ⟨HN2.out.moved2 (hx N (Or.inl rfl)), HM2.out.moved2 (hx M (Or.inr rfl)), n + 1, HZ2.out, (fun hb => by cases hb), hJ2⟩
    have HB2 := Lib.hid (HB.out.trans hb2)
    clear hJ2 hb2 hx
    go_wp2_with fail
    go_ret
    exact ⟨rfl, HI.out, HB2.out⟩
  · obtain ⟨t, ht⟩ : ∃ t, decide (z2 ≤ 400) = t := ⟨_, rfl⟩
    rw [ht]
    have HT := Lib.hid ht
    go_enter Tryz.func78, Tryz.ntmps78
    go_wp2_with fail
    refine HC.out.mono ?_; rintro e' w2 ⟨rfl, hJ2, hb2, hx⟩
    have HI : Hid (Cell1 N (.int .i64 z2) w2 ∧ Cell1 M (.func (Fn.func 59) #[] #[.pointer (some q1)]) w2 ∧ ∃ n' : Nat, z2 = (n' : Int) ∧ ((true && t) = true → n' ≤ 400) ∧ J n' (fun k => k = N ∨ k = M) s2 w2) := ⟨HN2.out.moved2 (hx N (Or.inl rfl)), HM2.out.moved2 (hx M (Or.inr rfl)), n + 1, HZ2.out, (fun hb => by have := HT.out; rw [Bool.true_and] at hb; rw [hb] at this; have h4 := of_decide_eq_true this; have h5 := HZ2.out; omega), hJ2⟩
    have HB2 := Lib.hid (HB.out.trans hb2)
    have n4 := HI.out.1.cell
    clear hJ2 hb2 hx
    go_wp2_with fail
    go_ret
    exact ⟨rfl, HI.out, HB2.out⟩
set_option maxHeartbeats 2000000 in
set_option maxRecDepth 100000 in
theorem owalkM_any {σ : Type} {q1 : Addr} {g : σ → U → σ × Bool} {w0 : World} {J : Nat → (Nat → Prop) → σ → World → Prop} (H : VisM q1 g w0 J) (p : Pr) (a1 : Option Addr) (c1 : Nat) (a2 : Option Addr) (c2 : Nat) (hok : okB p.body) (hl : p.body.length ≤ 1000000000000000) (hsz : 1 + cB p.body ≤ 1000000) (hK : Bodies w0 a2 p.body)
    (s : σ) (w : World) (hJ : J 0 (fun _ => False) s w) (hb0 : Below w0.heap.size w0 w) :
    Calls Tryz.prog 58 #[prV p a1 c1 a2 c2, .func (Fn.func 59) #[] #[.pointer (some q1)]] w fun e' w' => e' = .returned (.tuple #[]) ∧ (∃ n', J n' (fun _ => False) (run g s (walkU p)).1 w') ∧ Below w0.heap.size w w' := by
  have hz := hb0.size
  have hw := below_2 (below_2 (below_box w (prO p a1 c1 a2 c2)) (below_box _ (.cells #[.func (Fn.func 59) #[] #[.pointer (some q1)]] 81))) (below_box _ (.cells #[.int .i64 0] 3))
  have hst := stepM H (N := w.heap.size + 2) (M := w.heap.size + 1) (by omega) (by omega) (by omega)
  have hJ2 := H.keep 0 _ s w (((w.alloc (prO p a1 c1 a2 c2)).alloc (.cells #[.func (Fn.func 59) #[] #[.pointer (some q1)]] 81)).alloc (.cells #[.int .i64 0] 3)) (H.wide 0 (fun k => k = w.heap.size + 2 ∨ k = w.heap.size + 1) s w hJ (fun k hk => by omega)) hw.size (fun k hk _ => hw.block k hk)
  have hN : Cell1 (w.heap.size + 2) (.int .i64 0) (((w.alloc (prO p a1 c1 a2 c2)).alloc (.cells #[.func (Fn.func 59) #[] #[.pointer (some q1)]] 81)).alloc (.cells #[.int .i64 0] 3)) := cell1_at (by simp)
  have hM : Cell1 (w.heap.size + 1) (.func (Fn.func 59) #[] #[.pointer (some q1)]) (((w.alloc (prO p a1 c1 a2 c2)).alloc (.cells #[.func (Fn.func 59) #[] #[.pointer (some q1)]] 81)).alloc (.cells #[.int .i64 0] 3)) := (cell1_at (by simp)).later (below_box _ _)
  have hB : Below w0.heap.size w _ := hw.mono hz
  have hC := owalkStmts_any hst p.body a2 c2 1 (0, s) _ hok hl hsz hK ⟨hN, hM, 0, rfl, fun _ => by omega, hJ2⟩ (hb0.trans hB)
  have HRW := Lib.hid (run_walk g s p)
  rw [← HRW.out]
  generalize run (cnt g) (0, s) (nB p.body 1) = r at hC ⊢
  have HC := Lib.hid hC
  have HB := Lib.hid hB
  have HNW : Hid (∀ n w2, J n (fun k => k = w.heap.size + 2 ∨ k = w.heap.size + 1) r.1.2 w2 → J n (fun _ => False) r.1.2 w2) := fun n w2 h => H.narrow _ _ _ _ h
  simp only [show ((1 : Nat) : Int) = 1 from rfl] at HC
  unfold prO at HC HB
  unfold prV
  clear hz hw hst hJ2 hN hM hB hC HRW hok hl hsz hK hJ hb0 H
  go_enter Tryz.func58, Tryz.ntmps58
  go_wp2_with fail
  refine HC.out.mono ?_; rintro e' w2 ⟨rfl, ⟨_, _, n3, _, _, hJ3⟩, hb2⟩
  have HJ3 := Lib.hid (HNW.out n3 w2 hJ3)
  have HB2 := Lib.hid (HB.out.trans hb2)
  clear hJ3 hb2
  go_wp2_with fail
  go_end0
  exact ⟨rfl, ⟨n3, HJ3.out⟩, HB2.out⟩
end Go.Proofs.YtnelpgeiioflmaaGreatDoor.A
namespace Go.Proofs.YtnelpgeiioflmaaGreatDoor.A
open Go.RowKit
open L (Str isName prt size_len below_2 below_box ret_bool ret_int)

def GivesV (w0 w : World) (X : List V) (e' : Ending) (w' : World) : Prop :=
  ∃ p q l, e' = .returned (.slice p l.length q) ∧ w'.ownsRow w0.heap.size 46 20 (.slice p l.length q) l.length (vcs l) ∧ (∀ x ∈ l, x.In w0) ∧ vs l = X ∧ Below w.heap.size w w'
set_option maxHeartbeats 4000000 in
set_option maxRecDepth 100000 in
theorem rwalk_any (p : Pr) (a1 a2 : Option Addr) (c1 c2 : Nat) (hok : okB p.body) (hl : p.body.length ≤ 1000000000000000) (w : World) (hK : Bodies w a2 p.body) :
    Calls Tryz.prog 26 #[prV p a1 c1 a2 c2] w fun e' w' => GivesV w w (walk p) e' w' := by
  have hb := below_box w (prO p a1 c1 a2 c2)
  have HC := Lib.hid (rwalkBody_any p.body w (.slice none 0 0) [] a2 c2 1 (w.alloc (prO p a1 c1 a2 c2)) hok hl hK hb ⟨by simp [vcs], Or.inl ⟨rfl, rfl⟩⟩ (fun x hx => by cases hx) (by simp) (by simp))
  have HB := Lib.hid hb
  unfold prO at HC HB
  unfold prV
  clear hok hK hb
  go_enter Tryz.func26, Tryz.ntmps26
  go_wp2_with fail
  refine HC.out.mono ?_; rintro e w2 ⟨v', l', rfl, ho, hi, hv, hg, -⟩
  obtain ⟨p3, q3, rfl⟩ : ∃ p q, v' = .slice p l'.length q := by
    rcases ho.2 with ⟨hv, h0⟩ | ⟨g, cap, cur, hv, _⟩
    · exact ⟨none, 0, by rw [hv, h0]⟩
    · exact ⟨_, cap, hv⟩
  have HV : Hid (GivesV w w (walk p) (.returned (.slice p3 l'.length q3)) w2) := ⟨p3, q3, l', rfl, ho, hi, hv, HB.out.trans (((Below.refl _ _).grown hg (Nat.le_refl _) (fun k hk => by cases hk)).mono HB.out.size)⟩
  clear ho hi hv hg
  go_wp2_with fail
  go_ret
  exact HV.out
end Go.Proofs.YtnelpgeiioflmaaGreatDoor.A
namespace Go.Proofs.YtnelpgeiioflmaaGreatDoor.A
open Go.RowKit
open L (Str isName prt size_len below_2 below_box ret_bool ret_int)

theorem vcs_get : ∀ (l : List VT) (j : Nat) (hj : j < l.length) (r : Nat), r < 20 → (vcs l)[j * 20 + r]? = (l[j]).cells[r]?
  | x :: l, 0, _, r, hr => by
    show (List.flatMap VT.cells (x :: l))[_]? = _
    rw [List.flatMap_cons, List.getElem?_append_left (by rw [VT.cells_len]; omega)]
    simp
  | x :: l, j + 1, hj, r, hr => by
    show (List.flatMap VT.cells (x :: l))[_]? = _
    rw [List.flatMap_cons, List.getElem?_append_right (by rw [VT.cells_len]; omega), VT.cells_len, show (j + 1) * 20 + r - 20 = j * 20 + r by omega]
    exact vcs_get l j (by simpa using hj) r hr
theorem visit_cells {w : World} {B q : Nat} {p : Option Addr} {l : List VT} (h : w.ownsRow B 46 20 (.slice p l.length q) l.length (vcs l)) {j : Nat} (hj : j < l.length) :
    ∃ g, p = some ⟨g, 0, none⟩ ∧ ∀ r, r < 20 → w.cell? ⟨g, j * 20 + r, none⟩ = (l[j]).cells[r]? := by
  rcases h.2 with ⟨hv, h0⟩ | ⟨g, cap, cur, hv, _⟩
  · omega
  · injection hv with h1 h2 h3
    subst h1
    refine ⟨g, rfl, fun r hr => ?_⟩
    rw [World.ownsRow.cellAt h (j * 20 + r) (by omega)]
    exact vcs_get l j hj r hr
end Go.Proofs.YtnelpgeiioflmaaGreatDoor.A
namespace Go.Proofs.YtnelpgeiioflmaaGreatDoor.A
open Go.RowKit
open L (Str isName prt size_len below_2 below_box ret_bool ret_int)

/-! ### a world without some of its blocks -/

open Classical in
noncomputable def hollow (Z : Nat → Prop) (w : World) : World := { w with heap := w.heap.mapIdx fun k o => if Z k then .cells #[] 0 else o }
theorem hollow_cell (Z : Nat → Prop) (w : World) (b i : Nat) (v : Value) : (hollow Z w).cell? ⟨b, i, none⟩ = some v ↔ ¬ Z b ∧ w.cell? ⟨b, i, none⟩ = some v := by
  unfold World.cell? hollow
  simp only [Array.getElem?_mapIdx]
  by_cases hz : Z b
  · cases h : w.heap[b]? with
    | none => simp
    | some o => simp [hz]
  · cases h : w.heap[b]? with
    | none => simp
    | some o => simp [hz]
def Sub (w w' : World) : Prop := ∀ b i v, w.cell? ⟨b, i, none⟩ = some v → w'.cell? ⟨b, i, none⟩ = some v
mutual
theorem ExAt.sub {w w' : World} (h : Sub w w') : ∀ (e : Ex) {b i : Nat}, ExAt w e b i → ExAt w' e b i
  | .mk o n s l, b, i, hh => by
    rw [ExAt] at hh ⊢
    obtain ⟨h0, h1, h2, a, c, h3, h4⟩ := hh
    refine ⟨h _ _ _ h0, h _ _ _ h1, h _ _ _ h2, a, c, h _ _ _ h3, ?_⟩
    rcases h4 with h4 | ⟨b2, i2, ha, h5⟩
    · exact Or.inl h4
    · exact Or.inr ⟨b2, i2, ha, ExsAt.sub h l h5⟩
theorem ExsAt.sub {w w' : World} (h : Sub w w') : ∀ (l : List Ex) {b i : Nat}, ExsAt w l b i → ExsAt w' l b i
  | [], _, _, _ => by rw [ExsAt]; trivial
  | e :: r, b, i, hh => by
    rw [ExsAt] at hh ⊢
    exact ⟨ExAt.sub h e hh.1, ExsAt.sub h r hh.2⟩
end
theorem Kids.sub {w w' : World} (h : Sub w w') {a : Option Addr} {l : List Ex} (hk : Kids w a l) : Kids w' a l := by
  rcases hk with hk | ⟨b, i, ha, hk⟩
  · exact Or.inl hk
  · exact Or.inr ⟨b, i, ha, hk.sub h⟩
mutual
theorem StAt.sub {w w' : World} (h : Sub w w') : ∀ (s : St) {b i : Nat}, StAt w s b i → StAt w' s b i
  | .mk o nm mx a b bd el, blk, i, hh => by
    rw [StAt] at hh ⊢
    obtain ⟨h0, h1, h2, h3, h4, ⟨a5, c5, h5, g5⟩, ⟨a6, c6, h6, g6⟩⟩ := hh
    refine ⟨h _ _ _ h0, h _ _ _ h1, h _ _ _ h2, h3.sub h, h4.sub h, ⟨a5, c5, h _ _ _ h5, ?_⟩, ⟨a6, c6, h _ _ _ h6, ?_⟩⟩
    · rcases g5 with g | ⟨b2, i2, ha, g⟩
      · exact Or.inl g
      · exact Or.inr ⟨b2, i2, ha, StsAt.sub h bd g⟩
    · rcases g6 with g | ⟨b2, i2, ha, g⟩
      · exact Or.inl g
      · exact Or.inr ⟨b2, i2, ha, StsAt.sub h el g⟩
theorem StsAt.sub {w w' : World} (h : Sub w w') : ∀ (l : List St) {b i : Nat}, StsAt w l b i → StsAt w' l b i
  | [], _, _, _ => by rw [StsAt]; trivial
  | e :: r, b, i, hh => by
    rw [StsAt] at hh ⊢
    exact ⟨StAt.sub h e hh.1, StsAt.sub h r hh.2⟩
end
theorem Bodies.sub {w w' : World} (h : Sub w w') {a : Option Addr} {l : List St} (hk : Bodies w a l) : Bodies w' a l := by
  rcases hk with hk | ⟨b, i, ha, hk⟩
  · exact Or.inl hk
  · exact Or.inr ⟨b, i, ha, hk.sub h⟩
theorem hollow_now (Z : Nat → Prop) (w : World) : Sub (hollow Z w) w := fun b i v h => ((hollow_cell Z w b i v).1 h).2
structure Stays (Z Z' : Nat → Prop) (w w' : World) : Prop where
  block : ∀ k, k < w.heap.size → ¬ Z k → w'.heap[k]? = w.heap[k]?
  out : ∀ k, Z' k → Z k ∨ w.heap.size ≤ k
theorem hollow_next {Z Z' : Nat → Prop} {w w' : World} (h : Stays Z Z' w w') : Sub (hollow Z w) (hollow Z' w') := by
  intro b i v hh
  obtain ⟨hz, hc⟩ := (hollow_cell Z w b i v).1 hh
  have hlt := block_lt_of_cell hc
  have hnz : ¬ Z' b := fun h2 => by
    rcases h.out b h2 with h3 | h3
    · exact hz h3
    · have h4 : b < w.heap.size := hlt
      omega
  exact (hollow_cell Z' w' b i v).2 ⟨hnz, (World.cell?_of_block (w := w) (h.block b hlt hz)).trans hc⟩
theorem Stays.below {Z Z' : Nat → Prop} {w w' : World} (hb : Below w.heap.size w w') (h : ∀ k, Z' k → Z k ∨ w.heap.size ≤ k) : Stays Z Z' w w' := ⟨fun k hk _ => hb.block k hk, h⟩
def KidsF (Z : Nat → Prop) (w : World) (a : Option Addr) (l : List Ex) : Prop := Kids (hollow Z w) a l
def BodiesF (Z : Nat → Prop) (w : World) (a : Option Addr) (l : List St) : Prop := Bodies (hollow Z w) a l
theorem BodiesF.now {Z : Nat → Prop} {w : World} {a : Option Addr} {l : List St} (h : BodiesF Z w a l) : Bodies w a l := Bodies.sub (hollow_now Z w) h
theorem KidsF.next {Z Z' : Nat → Prop} {w w' : World} {a : Option Addr} {l : List Ex} (h : KidsF Z w a l) (hs : Stays Z Z' w w') : KidsF Z' w' a l := Kids.sub (hollow_next hs) h
theorem BodiesF.next {Z Z' : Nat → Prop} {w w' : World} {a : Option Addr} {l : List St} (h : BodiesF Z w a l) (hs : Stays Z Z' w w') : BodiesF Z' w' a l := Bodies.sub (hollow_next hs) h

/-! ### rows -/

structure RowK (α : Type) where
  f : α → List Value
  size : Nat
  bytes : Nat
  t : TypeId
  e : TypeId
  z : Value
  inn : (Nat → Prop) → World → α → Prop
  und : Tryz.prog.underlying t = some (.slice e)
  info : (Tryz.prog.info? e).map (fun i => (i.zero, i.size, i.bytes)) = some (some z, size, bytes)
  len : ∀ x, (f x).length = size
  one : ∀ x, ∀ u ∈ f x, u.oneCell' = true
  pos : 0 < size
  zs : z.cells.size = size
  small : bytes ≤ 1000
  next : ∀ {Z Z' : Nat → Prop} {w w' : World} {x : α}, inn Z w x → Stays Z Z' w w' → inn Z' w' x
namespace RowK
variable {α : Type} (K : RowK α)
def cs (l : List α) : List Value := l.flatMap K.f
theorem cs_len : ∀ l : List α, (K.cs l).length = l.length * K.size
  | [] => by unfold cs; simp
  | x :: l => by
    have := cs_len l
    unfold cs at *
    rw [List.flatMap_cons, List.length_append, List.length_cons, this, K.len, Nat.add_one_mul]
    omega
theorem cs_app (a b : List α) : K.cs (a ++ b) = K.cs a ++ K.cs b := List.flatMap_append
theorem cs_one (x : α) : K.cs [x] = K.f x := by unfold cs; simp
theorem cs_get : ∀ (l : List α) (j : Nat) (hj : j < l.length) (r : Nat), r < K.size → (K.cs l)[j * K.size + r]? = (K.f l[j])[r]?
  | x :: l, 0, _, r, hr => by
    show (List.flatMap K.f (x :: l))[_]? = _
    rw [List.flatMap_cons, List.getElem?_append_left (by rw [K.len]; omega)]
    simp
  | x :: l, j + 1, hj, r, hr => by
    show (List.flatMap K.f (x :: l))[_]? = _
    rw [List.flatMap_cons, List.getElem?_append_right (by rw [K.len, Nat.add_one_mul]; omega), K.len, show (j + 1) * K.size + r - K.size = j * K.size + r by rw [Nat.add_one_mul]; omega]
    exact cs_get l j (by simpa using hj) r hr
theorem wpList {w : World} {ops : Array Oper} {rest : List Oper} {o : Oper} {a : Act} {Q : Exit → Act → World → Prop} (hgd : o.guard = none) (s x : Operand)
    (ho : o.op = .call { callee := .builtin .append, args := #[s, x], argTypes := #[K.t, K.t] })
    (base : Nat) (v : Value) (l : List α) (hs : a.eval s = v) (hown : w.ownsRow base K.e K.size v l.length (K.cs l)) (y : α) (cs : List Value) (hcs : cs = K.f y)
    (g : Nat) (hx : a.eval x = .slice (some ⟨g, 0, none⟩) 1 1) (hg : g = w.heap.size) (hn : l.length ≤ 1000000) (hbase : base ≤ w.heap.size)
    (h : ∀ g' cap w', w'.ownsRow base K.e K.size (.slice (some ⟨g', 0, none⟩) (l.length + 1) cap) (l ++ [y]).length (K.cs (l ++ [y])) → (w.alloc (.cells cs.toArray K.e)).grownBy w' v.ownBlock → (v.ownBlock = some g' ∨ g' = w.heap.size + 1) → Go.wpList Tryz.prog ops Q rest (a.put o.dst (.slice (some ⟨g', 0, none⟩) (l.length + 1) cap)) w') :
    Go.wpList Tryz.prog ops Q (o :: rest) a (w.alloc (.cells cs.toArray K.e)) := by
  subst hg
  obtain ⟨i0, hi, hz0, hz1, hz2⟩ := info_parts3 K.info
  have hb : (l.length + 1) * K.bytes ≤ 140737488355328 := Nat.le_trans (Nat.mul_le_mul (show l.length + 1 ≤ 1000001 by omega) K.small) (by decide)
  refine wpList_append_lies _ hgd s x K.t ho base K.e i0 _ K.size K.bytes K.und hi hz0 hz1 hz2 K.zs K.pos v l.length (K.cs l) hs (hown.alloc _) ⟨w.heap.size, 0, none⟩ 1 1 cs hx (by rw [hcs, K.len]; omega) (cells_row _ _ _) (by rw [hcs]; exact K.one y) (by decide) (by unfold maxLen; omega) hb (by simp; omega) (w.heap.size + 1) (by simp) ?_
  intro g' cap w' h1 h2 h3 _
  refine h g' cap w' ?_ h2 h3
  rw [List.length_append, K.cs_app, K.cs_one, ← hcs]
  exact h1
theorem step {w : World} {ops : Array Oper} {o : Oper} {a : Act} {Kk : Act → World → Prop} {Q : Exit → Act → World → Prop} {E : Prop} (hgd : o.guard = none) (s x : Operand)
    (ho : o.op = .call { callee := .builtin .append, args := #[s, x], argTypes := #[K.t, K.t] })
    (base : Nat) (v : Value) (l : List α) (hs : a.eval s = v) (hown : w.ownsRow base K.e K.size v l.length (K.cs l)) (y : α) (cs : List Value) (hcs : cs = K.f y)
    (g : Nat) (hx : a.eval x = .slice (some ⟨g, 0, none⟩) 1 1) (hg : g = w.heap.size) (hn : l.length ≤ 1000000) (hbase : base ≤ w.heap.size)
    (h : ∀ g' cap w', w'.ownsRow base K.e K.size (.slice (some ⟨g', 0, none⟩) (l.length + 1) cap) (l ++ [y]).length (K.cs (l ++ [y])) → (w.alloc (.cells cs.toArray K.e)).grownBy w' v.ownBlock → (v.ownBlock = some g' ∨ g' = w.heap.size + 1) → Kk (a.put o.dst (.slice (some ⟨g', 0, none⟩) (l.length + 1) cap)) w') :
    if Region.wanted o (yielded ops a.tmps) = true then Oper.wp Tryz.prog o a (w.alloc (.cells cs.toArray K.e)) Kk Q else E := by
  subst hg
  obtain ⟨i0, hi, hz0, hz1, hz2⟩ := info_parts3 K.info
  have hb : (l.length + 1) * K.bytes ≤ 140737488355328 := Nat.le_trans (Nat.mul_le_mul (show l.length + 1 ≤ 1000001 by omega) K.small) (by decide)
  refine step_append_lies _ hgd s x K.t ho base K.e i0 _ K.size K.bytes K.und hi hz0 hz1 hz2 K.zs K.pos v l.length (K.cs l) hs (hown.alloc _) ⟨w.heap.size, 0, none⟩ 1 1 cs hx (by rw [hcs, K.len]; omega) (cells_row _ _ _) (by rw [hcs]; exact K.one y) (by decide) (by unfold maxLen; omega) hb (by simp; omega) (w.heap.size + 1) (by simp) ?_
  intro g' cap w' h1 h2 h3 _
  refine h g' cap w' ?_ h2 h3
  rw [List.length_append, K.cs_app, K.cs_one, ← hcs]
  exact h1
end RowK
structure Own1 {α : Type} (K : RowK α) (w : World) (b0 : Nat) (Z : Nat → Prop) (v : Value) (l : List α) : Prop where
  row : w.ownsRow b0 K.e K.size v l.length (K.cs l)
  off : ∀ g, v.ownBlock = some g → ¬ Z g
  each : ∀ x ∈ l, K.inn (fun k => Z k ∨ v.ownBlock = some k) w x
namespace Own1
variable {α : Type} {K : RowK α} {w w' : World} {b0 : Nat} {Z Z' : Nat → Prop} {v : Value} {l : List α}
theorem nil : Own1 K w b0 Z (.slice none 0 0) [] := ⟨⟨by simp [RowK.cs], Or.inl ⟨rfl, rfl⟩⟩, (fun g h => by cases h), (fun x h => by cases h)⟩
theorem shape (h : Own1 K w b0 Z v l) : ∃ p q, v = .slice p l.length q ∧ l.length ≤ q := by
  rcases h.row.2 with ⟨hv, h0⟩ | ⟨g, cap, cur, hv, _, _, hc, _⟩
  · exact ⟨none, 0, by rw [hv, h0], by omega⟩
  · exact ⟨_, cap, hv, hc⟩
theorem lt (h : Own1 K w b0 Z v l) : ∀ g, v.ownBlock = some g → b0 ≤ g ∧ g < w.heap.size := fun g hg => World.ownsRow.lt h.row g hg
theorem next (h : Own1 K w b0 Z v l) (hs : Stays Z Z' w w') : Own1 K w' b0 Z' v l := by
  have hZ : ∀ g, v.ownBlock = some g → ¬ Z' g := fun g hg hz => by
    rcases hs.out g hz with h1 | h1
    · exact h.off g hg h1
    · have := (h.lt g hg).2; omega
  refine ⟨⟨h.row.1, ?_⟩, hZ, fun x hx => K.next (h.each x hx) ⟨fun k hk hz => hs.block k hk (fun h2 => hz (Or.inl h2)), fun k hk => ?_⟩⟩
  · rcases h.row.2 with h0 | ⟨g, cap, cur, hv, hB, hg, r⟩
    · exact Or.inl h0
    · exact Or.inr ⟨g, cap, cur, hv, hB, (hs.block g (Array.getElem?_eq_some_iff.1 hg).1 (h.off g (by rw [hv]; rfl))).trans hg, r⟩
  · rcases hk with hk | hk
    · rcases hs.out k hk with h1 | h1
      · exact Or.inl (Or.inl h1)
      · exact Or.inr h1
    · exact Or.inl (Or.inr hk)
theorem below (h : Own1 K w b0 Z v l) (hb : Below w.heap.size w w') : Own1 K w' b0 Z v l := h.next (Stays.below hb fun _ hk => Or.inl hk)
theorem push {o : Obj} {y : α} {g' cap : Nat} (h : Own1 K w b0 Z v l) (hy : K.inn (fun k => Z k ∨ v.ownBlock = some k) w y) (hZ : ∀ k, Z k → k < w.heap.size)
    (h1 : w'.ownsRow b0 K.e K.size (.slice (some ⟨g', 0, none⟩) (l.length + 1) cap) (l ++ [y]).length (K.cs (l ++ [y]))) (h2 : (w.alloc o).grownBy w' v.ownBlock) (h3 : v.ownBlock = some g' ∨ g' = w.heap.size + 1) :
    Own1 K w' b0 Z (.slice (some ⟨g', 0, none⟩) (l.length + 1) cap) (l ++ [y]) := by
  have hblk : ∀ k, k < w.heap.size → ¬ (Z k ∨ v.ownBlock = some k) → w'.heap[k]? = w.heap[k]? := fun k hk hz =>
    (h2.block k (by simp; omega) (fun e => hz (Or.inr e.symm))).trans (Below.heap_alloc w o k hk)
  have hout : ∀ k, (Z k ∨ (Value.slice (some ⟨g', 0, none⟩) (l.length + 1) cap).ownBlock = some k) → (Z k ∨ v.ownBlock = some k) ∨ w.heap.size ≤ k := by
    intro k hk
    rcases hk with hk | hk
    · exact Or.inl (Or.inl hk)
    · have hk2 : g' = k := by injection hk
      rcases h3 with h3 | h3
      · exact Or.inl (Or.inr (by rw [h3, hk2]))
      · exact Or.inr (by omega)
  refine ⟨h1, fun g hg hz => ?_, fun x hx => ?_⟩
  · have hk2 : g' = g := by injection hg
    rcases h3 with h3 | h3
    · exact h.off g (by rw [h3, hk2]) hz
    · have := hZ g hz; omega
  · rcases List.mem_append.1 hx with hx | hx
    · exact K.next (h.each x hx) ⟨hblk, hout⟩
    · rw [List.mem_singleton] at hx
      rw [hx]
      exact K.next hy ⟨hblk, hout⟩
theorem cell {p : Option Addr} {q : Nat} (h : Own1 K w b0 Z (.slice p l.length q) l) {j : Nat} (hj : j < l.length) : ∃ g, p = some ⟨g, 0, none⟩ ∧ ¬ Z g ∧ ∀ r, r < K.size → w.cell? ⟨g, j * K.size + r, none⟩ = (K.f l[j])[r]? := by
  rcases h.row.2 with ⟨hv, h0⟩ | ⟨g, cap, cur, hv, _⟩
  · omega
  · injection hv with h1 h2 h3
    subst h1
    refine ⟨g, rfl, h.off g rfl, fun r hr => ?_⟩
    have hlt : j * K.size + r < l.length * K.size := Nat.lt_of_lt_of_le (show j * K.size + r < (j + 1) * K.size by rw [Nat.add_one_mul]; omega) (Nat.mul_le_mul_right _ hj)
    rw [World.ownsRow.cellAt h.row (j * K.size + r) hlt]
    exact K.cs_get l j hj r hr
theorem frame {w0 : World} {o : Obj} (h : Own1 K w b0 Z v l) (hb : Below b0 w0 w) (hz : b0 ≤ w.heap.size) (h2 : (w.alloc o).grownBy w' v.ownBlock) : Below b0 w0 w' :=
  (hb.alloc hz o).grown h2 (by simp; omega) (fun g hg => (h.lt g hg).1)
end Own1

/-! ### expressions in rows -/

structure ET where
  e : Ex
  a : Option Addr
  c : Nat
theorem info_e : (Tryz.prog.info? 42).map (fun i => (i.zero, i.size, i.bytes)) = some (some (.agg #[.int .i64 0, .int .i64 0, .string ⟨#[]⟩, .slice none 0 0]), 4, 56) := by kernel_rfl
def kE : RowK ET where
  f := fun x => [.int .i64 x.e.op, .int .i64 x.e.n, .string x.e.s, .slice x.a x.e.args.length x.c]
  size := 4
  bytes := 56
  t := 40
  e := 42
  z := .agg #[.int .i64 0, .int .i64 0, .string ⟨#[]⟩, .slice none 0 0]
  inn := fun Z w x => KidsF Z w x.a x.e.args
  und := Tryz.underlying40
  info := info_e
  len := fun _ => rfl
  one := fun x u hu => by simp at hu; rcases hu with rfl | rfl | rfl | rfl <;> rfl
  pos := by decide
  zs := rfl
  small := by decide
  next := fun h hs => KidsF.next h hs
theorem exs_of {W : World} {b : Nat} : ∀ (l : List ET) (i : Nat), (∀ j (h : j < l.length) r, r < 4 → W.cell? ⟨b, i + j * 4 + r, none⟩ = (kE.f l[j])[r]?) → (∀ x ∈ l, Kids W x.a x.e.args) → ExsAt W (l.map ET.e) b i
  | [], _, _, _ => by rw [List.map_nil, ExsAt]; trivial
  | x :: l, i, hc, hk => by
    rw [List.map_cons, ExsAt]
    refine ⟨?_, exs_of l (i + 4) (fun j hj r hr => ?_) fun y hy => hk y (List.mem_cons_of_mem _ hy)⟩
    · have h0 := hc 0 (by simp) 0 (by decide)
      have h1 := hc 0 (by simp) 1 (by decide)
      have h2 := hc 0 (by simp) 2 (by decide)
      have h3 := hc 0 (by simp) 3 (by decide)
      simp only [Nat.zero_mul, Nat.add_zero, List.getElem_cons_zero] at h0 h1 h2 h3
      have hk0 := hk x List.mem_cons_self
      obtain ⟨⟨o, n, s, args⟩, a, c⟩ := x
      rw [ExAt]
      exact ⟨h0, h1, h2, a, c, h3, hk0⟩
    · have := hc (j + 1) (by simpa using hj) r hr
      rw [show i + 4 + j * 4 + r = i + (j + 1) * 4 + r by omega]
      simpa using this
theorem Own1.kids {w : World} {b0 : Nat} {Z : Nat → Prop} {p : Option Addr} {q : Nat} {l : List ET} (h : Own1 kE w b0 Z (.slice p l.length q) l) : KidsF Z w p (l.map ET.e) := by
  by_cases h0 : l = []
  · left; rw [h0]; rfl
  · have hpos : 0 < l.length := List.length_pos_iff.2 h0
    obtain ⟨g, rfl, hz, _⟩ := h.cell hpos
    refine Or.inr ⟨g, 0, rfl, exs_of l 0 (fun j hj r hr => ?_) fun x hx => ?_⟩
    · obtain ⟨g2, hg, hz2, hc⟩ := h.cell hj
      cases hg
      have hr2 : r < (kE.f l[j]).length := by rw [kE.len]; exact hr
      have hcr := hc r hr
      rw [List.getElem?_eq_getElem hr2] at hcr ⊢
      rw [Nat.zero_add]
      exact (hollow_cell Z w _ _ _).2 ⟨hz, hcr⟩
    · exact KidsF.next (Z' := Z) (h.each x hx) ⟨fun _ _ _ => rfl, fun k hk => Or.inl (Or.inl hk)⟩
end Go.Proofs.YtnelpgeiioflmaaGreatDoor.A
namespace Go.Proofs.YtnelpgeiioflmaaGreatDoor.A
open Go.RowKit
open L (Str isName prt size_len below_2 below_box ret_bool ret_int eql_eq bytes_eq)

def Bx (w : World) (b : Nat) (cs : Array Value) (t : TypeId) : Prop := w.heap[b]? = some (.cells cs t)
namespace Bx
variable {w w' : World} {b : Nat} {cs : Array Value} {t : TypeId}
theorem new (w : World) (cs : Array Value) (t : TypeId) : Bx (w.alloc (.cells cs t)) w.heap.size cs t := by
  show (w.heap.push _)[w.heap.size]? = _
  simp
theorem lt (h : Bx w b cs t) : b < w.heap.size := (Array.getElem?_eq_some_iff.1 h).1
theorem keep (h : Bx w b cs t) (hk : w'.heap[b]? = w.heap[b]?) : Bx w' b cs t := hk.trans h
theorem below (h : Bx w b cs t) (hb : Below w.heap.size w w') : Bx w' b cs t := (hb.block b h.lt).trans h
theorem cell (h : Bx w b cs t) (i : Nat) : w.cell? ⟨b, i, none⟩ = cs[i]? := by
  have h' : w.heap[b]? = some (.cells cs t) := h
  simp [World.cell?, h']
theorem free (h : Bx w b cs t) (i : Nat) : w.frozen? ⟨b, i, none⟩ = false := by
  have h' : w.heap[b]? = some (.cells cs t) := h
  simp [World.frozen?, h']
theorem set (h : Bx w b cs t) (i : Nat) {u : Value} : Bx (w.setCell ⟨b, i, none⟩ u) b (cs.setIfInBounds i u) t := by
  have h' : w.heap[b]? = some (.cells cs t) := h
  show (w.setCell ⟨b, i, none⟩ u).heap[b]? = _
  simp [World.setCell, Array.getElem?_modify, h']
end Bx
theorem cEs_len : ∀ l : List Ex, l.length ≤ cEs l
  | [] => Nat.zero_le _
  | e :: r => by
    have := cEs_len r
    have h := cE_parts e
    rw [cEs, List.length_cons]
    omega
theorem renEs_map (f t : ByteArray) : ∀ l : List Ex, renEs f t l = l.map (renE f t)
  | [] => rfl
  | e :: r => by rw [renEs, List.map_cons, renEs_map f t r]
def GivesE (w : World) (x : Ex) (e' : Ending) (w' : World) : Prop := ∃ p q, e' = .returned (exV x p q) ∧ KidsF (fun k => k < w.heap.size) w' p x.args ∧ Below w.heap.size w w'
end Go.Proofs.YtnelpgeiioflmaaGreatDoor.A
