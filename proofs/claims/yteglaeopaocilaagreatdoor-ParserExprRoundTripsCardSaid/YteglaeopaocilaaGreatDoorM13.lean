/-
  What the reference of layer 8 returns: walkBody, Walk: contracts.
  What the program's functions of layer 8 return: isAbsent, isMaxValid, isContents, exprError: contracts.
  What the program's function exprError of layer 8 returns: its contract.
  Plain mathematics of layer 8: the walk as the program makes it: nodes with their depths, visited by a step that may end the walk; what each of the program's steps leaves.
  The program's walk of layer 8: what a step does that is called for each node; walkExpr of the program, as ValidExpr calls it; ValidExpr.
-/
import Derived.Test.YteglaeopaocilaaGreatDoorM12
import Derived.Test.YteglaeopaocilaaGreatDoorM11
import Derived.Test.YteglaeopaocilaaGreatDoorM07
import Derived.Test.YteglaeopaocilaaGreatDoorAFacts
import Derived.Laws.BitsLemmas
namespace Go.Proofs.YteglaeopaocilaaGreatDoor.A
open Go.RowKit
open L (Str isName prt size_len below_2 below_box ret_bool ret_int)

theorem grown_below {w w' : World} (r : Option Nat) (h : Below w.heap.size w w') : w.grownBy w' r := ⟨h.os, h.tape, h.output, h.size, fun k hk _ => h.block k hk⟩
theorem ownV_below {w w' : World} {B n size : Nat} {e : TypeId} {v : Value} {xs : List Value} (h : w.ownsRow B e size v n xs) (hb : Below w.heap.size w w') : w'.ownsRow B e size v n xs := by
  refine ⟨h.1, ?_⟩
  rcases h.2 with h0 | ⟨g, cap, cur, hv, hB, hg, r⟩
  · exact Or.inl h0
  · exact Or.inr ⟨g, cap, cur, hv, hB, (hb.block g (Array.getElem?_eq_some_iff.1 hg).1).trans hg, r⟩
/-- the visits so far: a row that the call owns -/
structure Cur (w0 W wr : World) (v0 v : Value) (l : List VT) (X : List V) : Prop where
  own : wr.ownsRow w0.heap.size 141 20 v l.length (vcs l)
  each : ∀ x ∈ l, x.In w0
  eq : vs l = X.take 401
  grown : W.grownBy wr v0.ownBlock
  blk : ∀ g, v.ownBlock = some g → v0.ownBlock = some g ∨ W.heap.size ≤ g
namespace Cur
variable {w0 W wr : World} {v0 v : Value} {l : List VT} {X : List V}
theorem len (h : Cur w0 W wr v0 v l X) : l.length ≤ 401 := by
  have := congrArg List.length h.eq
  rw [vs_len, List.length_take] at this
  omega
theorem shape (h : Cur w0 W wr v0 v l X) : ∃ p q, v = .slice p l.length q := by
  rcases h.own.2 with ⟨hv, h0⟩ | ⟨g, cap, cur, hv, _⟩
  · exact ⟨none, 0, by rw [hv, h0]⟩
  · exact ⟨_, cap, hv⟩
theorem below (h : Cur w0 W wr v0 v l X) (hb0 : Below w0.heap.size w0 W) (hv : ∀ g, v0.ownBlock = some g → w0.heap.size ≤ g) : Below w0.heap.size w0 wr := hb0.grown h.grown hb0.size hv
theorem later {w' : World} (h : Cur w0 W wr v0 v l X) (hb : Below wr.heap.size wr w') : Cur w0 W w' v0 v l X := ⟨ownV_below h.own hb, h.each, h.eq, grown_2 (r2 := none) h.grown (grown_below _ hb) (fun g hg => by cases hg), h.blk⟩
theorem step {w' : World} {Y : List V} {e' : Ending} (h : Cur w0 W wr v0 v l X) (g : GivesW w0 wr v (vs l ++ Y) e' w') : ∃ p q l', e' = .returned (.slice p l'.length q) ∧ l.length ≤ l'.length ∧ Cur w0 W w' v0 (.slice p l'.length q) l' (X ++ Y) := by
  obtain ⟨v', l', rfl, ho, hi, hv, hg, hl⟩ := g
  have hc : Cur w0 W w' v0 v' l' (X ++ Y) := ⟨ho, hi, by rw [hv, h.eq, take_take_app], grown_2 h.grown hg h.blk, fun g hg => by
    rcases hl g hg with h2 | h2
    · exact h.blk g h2
    · exact Or.inr (Nat.le_trans h.grown.size h2)⟩
  obtain ⟨p, q, rfl⟩ := hc.shape
  refine ⟨p, q, l', rfl, ?_, hc⟩
  have h1 := congrArg List.length hv
  rw [vs_len, List.length_take, List.length_append, vs_len] at h1
  have := h.len
  omega
theorem push {w1 : World} {o : Obj} {y : VT} {g1 cap : Nat} (h : Cur w0 W wr v0 v l X) (h4 : l.length ≤ 400) (hy : y.In w0)
    (h1 : w1.ownsRow w0.heap.size 141 20 (.slice (some ⟨g1, 0, none⟩) (l.length + 1) cap) (l ++ [y]).length (vcs (l ++ [y]))) (h2 : (wr.alloc o).grownBy w1 v.ownBlock) (h3 : v.ownBlock = some g1 ∨ g1 = wr.heap.size + 1) :
    ∃ l', l'.length = l.length + 1 ∧ Cur w0 W w1 v0 (.slice (some ⟨g1, 0, none⟩) l'.length cap) l' (X ++ [y.v]) := by
  have hX := congrArg List.length h.eq
  rw [vs_len, List.length_take] at hX
  have hll : (l ++ [y]).length = l.length + 1 := by simp
  refine ⟨l ++ [y], hll, ?_, ?_, ?_, ?_, ?_⟩
  · rw [← hll] at h1; exact h1
  · intro x hx
    rcases List.mem_append.1 hx with hx | hx
    · exact h.each x hx
    · rw [List.mem_singleton] at hx; rw [hx]; exact hy
  · rw [vs_app, h.eq, List.take_of_length_le (by omega), List.take_of_length_le (by rw [List.length_append]; simp; omega)]
    rfl
  · exact grown_2 (grown_2 h.grown (World.grownBy_alloc _ o v.ownBlock) h.blk) h2 h.blk
  · intro g hg
    cases hg
    rcases h3 with h3 | h3
    · exact h.blk _ h3
    · refine Or.inr ?_
      show _ ≤ g1
      have := h.grown.size
      omega
theorem same {Y : List V} {e : Ex} {x : Prop} [Decidable x] (h : Cur w0 W wr v0 v l X) (hx : preR e = if x then [] else Y) (ht : x := by exact rfl) : Cur w0 W wr v0 v l (X ++ preR e) := by
  rw [hx, if_pos ht, List.append_nil]
  exact h
end Cur
structure Four (w : World) (e : Ex) (b i : Nat) (a : Option Addr) (c : Nat) : Prop where
  k0 : w.cell? ⟨b, i, none⟩ = some (.int .i64 e.op)
  k1 : w.cell? ⟨b, i + 1, none⟩ = some (.int .i64 e.n)
  k2 : w.cell? ⟨b, i + 2, none⟩ = some (.string e.s)
  k3 : w.cell? ⟨b, i + 3, none⟩ = some (.slice a e.args.length c)
theorem StCells.fourA {w : World} {s : St} {b i : Nat} {a1 a2 a3 a4 : Option Addr} {c1 c2 c3 c4 : Nat} (h : StCells w s b i a1 c1 a2 c2 a3 c3 a4 c4) : Four w s.a b (i + 3) a1 c1 := ⟨h.k3, h.k4, h.k5, h.k6⟩
theorem StCells.fourB {w : World} {s : St} {b i : Nat} {a1 a2 a3 a4 : Option Addr} {c1 c2 c3 c4 : Nat} (h : StCells w s b i a1 c1 a2 c2 a3 c3 a4 c4) : Four w s.b b (i + 7) a2 c2 := ⟨h.k7, h.k8, h.k9, h.k10⟩
end Go.Proofs.YteglaeopaocilaaGreatDoor.A
namespace Go.Proofs.YteglaeopaocilaaGreatDoor.A
open Go.RowKit
open L (Str isName prt size_len below_2 below_box ret_bool ret_int eql_eq bytes_eq qt qt_long qt_bad qt_ok pairS)

theorem Four.below {w w' : World} {e : Ex} {b i : Nat} {a : Option Addr} {c : Nat} (h : Four w e b i a c) (hb : Below w.heap.size w w') : Four w' e b i a c := by
  have hlt : b < w.heap.size := block_lt_of_cell h.k0
  exact ⟨(hb.cell hlt).trans h.k0, (hb.cell hlt).trans h.k1, (hb.cell hlt).trans h.k2, (hb.cell hlt).trans h.k3⟩
theorem ExAt.four {w : World} {e : Ex} {b i : Nat} (h : ExAt w e b i) : ∃ a c, Four w e b i a c ∧ Kids w a e.args := by
  obtain ⟨d0, d1, d2, a, c, d3, hk⟩ := h.open
  exact ⟨a, c, ⟨d0, d1, d2, d3⟩, hk⟩
set_option maxHeartbeats 2000000 in
set_option maxRecDepth 100000 in
theorem oabsent_any (e : Ex) (b i : Nat) (a : Option Addr) (c : Nat) (w : World) (h : Four w e b i a c) : Calls Tryz.prog 132 #[.pointer (some ⟨b, i, none⟩)] w fun e' w' => e' = .returned (.bool (absent e)) ∧ w' = w := by
  obtain ⟨k0, k1, k2, k3⟩ := h
  have hv : absent e = ((e.op == 0) && (e.n == 0) && (e.s.toList == []) && ((e.args.length : Int) == 0)) := by
    unfold absent
    rw [nil_of, Bool.beq_eq_decide_eq, Bool.beq_eq_decide_eq, Bool.beq_eq_decide_eq]
    congr 1
    cases e.args with
    | nil => rfl
    | cons x l => rw [decide_eq_false (by simp; omega)]; rfl
  have he : e.s.toList.isEmpty = (e.s.toList == []) := by cases e.s.toList <;> rfl
  rw [hv]
  clear hv
  generalize (e.s.toList == []) = b3 at he ⊢
  obtain ⟨b1, h1⟩ : ∃ b, (e.op == 0) = b := ⟨_, rfl⟩
  obtain ⟨b2, h2⟩ : ∃ b, (e.n == 0) = b := ⟨_, rfl⟩
  obtain ⟨b4, h4⟩ : ∃ b, ((e.args.length : Int) == 0) = b := ⟨_, rfl⟩
  rw [h1, h2, h4]
  cases b1 <;> cases b2 <;> cases b3 <;> cases b4
  all_goals
    go_enter Tryz.func132, Tryz.ntmps132
    go_wp2_with fail
    go_ret
    exact ⟨rfl, rfl⟩
theorem ocontents_any (s : ByteArray) (w : World) : Calls Tryz.prog 110 #[.string s] w fun e w' => e = .returned (.bool (plain s)) ∧ Below w.heap.size w w' := by
  have HC := Lib.hid (L.oquote_any s w)
  have HV : Hid (((qt s.data.toList).2 == 0) = plain s) := by
    show _ = _
    unfold plain
    by_cases h : 64 < s.size
    · rw [qt_long h, decide_eq_false (by omega)]; rfl
    · rw [decide_eq_true (by omega), Bool.true_and]
      cases h2 : s.data.toList.all prt
      · rw [qt_bad h h2]; rfl
      · rw [qt_ok h h2]; rfl
  obtain ⟨⟨q, x⟩, hq⟩ : ∃ r, qt s.data.toList = r := ⟨_, rfl⟩
  unfold pairS at HC
  rw [hq] at HC HV
  simp only at HC HV
  clear hq
  generalize plain s = P at HV ⊢
  go_enter Tryz.func110, Tryz.ntmps110
  go_wp2_with fail
  refine HC.out.mono ?_; rintro e w1 ⟨rfl, hb⟩
  go_wp2_with fail
  go_ret
  exact ⟨ret_bool HV.out, hb⟩
set_option maxHeartbeats 4000000 in
set_option maxRecDepth 100000 in
theorem omax_any (s : St) (b i : Nat) (w : World) (k0 : w.cell? ⟨b, i, none⟩ = some (.int .i64 s.op)) (k2 : w.cell? ⟨b, i + 2, none⟩ = some (.int .i64 s.mx)) :
    Calls Tryz.prog 76 #[.pointer (some ⟨b, i, none⟩)] w fun e' w' => e' = .returned (.bool (!badM s)) ∧ w' = w := by
  obtain ⟨b6, h6⟩ : ∃ b, (s.op == 6) = b := ⟨_, rfl⟩
  obtain ⟨b8, h8⟩ : ∃ b, (s.op == 8) = b := ⟨_, rfl⟩
  obtain ⟨c1, g1⟩ : ∃ b, decide (1 ≤ s.mx) = b := ⟨_, rfl⟩
  obtain ⟨c2, g2⟩ : ∃ b, decide (s.mx ≤ 16) = b := ⟨_, rfl⟩
  obtain ⟨c3, g3⟩ : ∃ b, decide (0 ≤ s.mx) = b := ⟨_, rfl⟩
  obtain ⟨c4, g4⟩ : ∃ b, decide (s.mx ≤ 999) = b := ⟨_, rfl⟩
  have HV : Hid ((!badM s) = if b6 = true then c1 && c2 else if b8 = true then c3 && c4 else true) := by
    show _ = _
    subst h6 h8 g1 g2 g3 g4
    unfold badM
    rw [Bool.eq_iff_iff]
    by_cases h6 : s.op = 6
    · have h8 : ¬ s.op = 8 := by omega
      simp [h6]
    · by_cases h8 : s.op = 8
      · simp [h8]
      · simp [h6, h8]
  rw [HV.out]
  clear HV
  cases b6
  · cases b8
    · go_enter Tryz.func76, Tryz.ntmps76
      go_wp2_with fail
      go_ret
      exact ⟨rfl, rfl⟩
    · cases c3 <;> cases c4
      all_goals
        go_enter Tryz.func76, Tryz.ntmps76
        go_wp2_with fail
        go_ret
        exact ⟨rfl, rfl⟩
  · cases c1 <;> cases c2
    all_goals
      go_enter Tryz.func76, Tryz.ntmps76
      go_wp2_with fail
      go_ret
      exact ⟨rfl, rfl⟩
end Go.Proofs.YteglaeopaocilaaGreatDoor.A
namespace Go.Proofs.YteglaeopaocilaaGreatDoor.A
open Go.RowKit
open L (Str isName prt size_len below_2 below_box ret_bool ret_int eql_eq bytes_eq)

theorem nodeE_bools {e : Ex} {d : Nat} : nodeE e d =
    if (decide (arity e.op < 0) || ((e.n != 0) && (e.op != 1)) || (!decide (e.s.size = 0) && !(e.op == 3) && !(e.op == 2))) = true then 1
    else if ((e.op == 3) && !nam e.s) = true then 7
    else if (decide (e.n < 0) || ((e.op == 2) && !plain e.s) || ((e.args.length : Int) != arity e.op)) = true then 1
    else if decide (12 < d) = true then 2 else 0 := by
  unfold nodeE
  simp only [Bool.or_eq_true, Bool.and_eq_true, decide_eq_true_eq, bne_iff_ne, beq_iff_eq, Bool.not_eq_true', beq_eq_false_iff_ne, decide_eq_false_iff_not]
  congr 1
  · exact propext ⟨fun h => by omega, fun h => by omega⟩
  · congr 1
    congr 1
    rw [or_assoc]
theorem below_dn (w : World) (n : Nat) : Below w.heap.size w (w.drewN n) := ⟨rfl, rfl, rfl, Nat.le_refl _, fun _ _ => rfl⟩
set_option maxHeartbeats 8000000 in
set_option maxRecDepth 100000 in
theorem oexprError_any (e : Ex) (b i : Nat) (a : Option Addr) (c d : Nat) (hd : d ≤ 1000000) (w : World) (h : Four w e b i a c) :
    Calls Tryz.prog 59 #[.pointer (some ⟨b, i, none⟩), .int .i64 (d : Int)] w fun e' w' => e' = .returned (.int .i64 (nodeE e d)) ∧ Below w.heap.size w w' := by
  have HA := Lib.hid (fun w => oarity_any e.op w)
  have HI := Lib.hid (fun w => L.oname_any e.s w)
  have HP := Lib.hid (fun w => ocontents_any e.s w)
  have HF := Lib.hid h
  obtain ⟨k0, k1, k2, k3⟩ := h
  have hV := nodeE_bools (e := e) (d := d)
  have he2 := nil_of (s := e.s)
  have he3 := empty_of (s := e.s)
  have bd : decide (12 < (d : Int)) = decide (12 < d) := decide_eq_decide.2 (by omega)
  change Hid (∀ w, Calls Tryz.prog 32 #[.string e.s] w fun e' w' => e' = .returned (.bool (nam e.s)) ∧ Below w.heap.size w w') at HI
  obtain ⟨v1, h1⟩ : ∃ v, decide (arity e.op < 0) = v := ⟨_, rfl⟩
  obtain ⟨v2, h2⟩ : ∃ v, (e.n != 0) = v := ⟨_, rfl⟩
  obtain ⟨v3, h3⟩ : ∃ v, (e.op != 1) = v := ⟨_, rfl⟩
  obtain ⟨v4, h4⟩ : ∃ v, decide (e.s.size = 0) = v := ⟨_, rfl⟩
  obtain ⟨v5, h5⟩ : ∃ v, (e.op == 3) = v := ⟨_, rfl⟩
  obtain ⟨v6, h6⟩ : ∃ v, (e.op == 2) = v := ⟨_, rfl⟩
  obtain ⟨v7, h7⟩ : ∃ v, nam e.s = v := ⟨_, rfl⟩
  obtain ⟨v8, h8⟩ : ∃ v, decide (e.n < 0) = v := ⟨_, rfl⟩
  obtain ⟨v9, h9⟩ : ∃ v, plain e.s = v := ⟨_, rfl⟩
  obtain ⟨v10, h10⟩ : ∃ v, ((e.args.length : Int) != arity e.op) = v := ⟨_, rfl⟩
  obtain ⟨v11, h11⟩ : ∃ v, decide (12 < d) = v := ⟨_, rfl⟩
  rw [h4] at he2 he3
  rw [h11] at bd
  rw [h7] at HI
  rw [h9] at HP
  rw [h1, h2, h3, h4, h5, h6, h7, h8, h9, h10, h11] at hV
  have HV := Lib.hid hV
  generalize arity e.op = A at HA h1 h10
  clear hV h4 h7 h9 h11
  go_enter Tryz.func59, Tryz.ntmps59
  go_wp2_with fail
  refine (HA.out _).mono ?_; rintro e' w1 ⟨rfl, rfl⟩
  go_wp2_with fail
  go_quiet (fail)
  all_goals go_wp2_with fail
  all_goals try (first
    | (refine (HI.out _).mono ?_; rintro e' w2 ⟨rfl, hb⟩; have HB := Lib.hid (below_2 (below_dn _ _) hb); obtain ⟨j0, j1, j2, j3⟩ := HF.out.below HB.out; clear hb; go_wp2_with fail)
    | (refine (HP.out _).mono ?_; rintro e' w2 ⟨rfl, hb⟩; have HB := Lib.hid (below_2 (below_dn _ _) hb); obtain ⟨j0, j1, j2, j3⟩ := HF.out.below HB.out; clear hb; go_wp2_with fail))
  all_goals try (refine (HP.out _).mono ?_; rintro e' w3 ⟨rfl, hb⟩; have HB2 := Lib.hid (below_2 HB.out hb); obtain ⟨l0, l1, l2, l3⟩ := HF.out.below HB2.out; clear hb; go_wp2_with fail)
  all_goals (go_ret; refine ⟨ret_int ?_, ?_⟩)
  all_goals first
    | exact below_dn _ _
    | exact HB2.out
    | exact HB.out
    | (rw [HV.out]; clear HV HF HI HP HA k0 k1 k2 k3 h1 h2 h3 h5 h6 h8 h10 bd he2 he3; (try clear HB2); (try clear HB); (try clear j0 j1 j2 j3); (try clear l0 l1 l2 l3); simp_all)
end Go.Proofs.YteglaeopaocilaaGreatDoor.A
namespace Go.Proofs.YteglaeopaocilaaGreatDoor.A
open L (Str isName prt)

/-- a node, as the program visits it -/
inductive U where
  | st (s : St) (d : Nat)
  | ex (e : Ex) (d : Nat)
mutual
def nE : Ex → Nat → List U
  | .mk o n s l, d => .ex (.mk o n s l) d :: nEs l (d + 1)
def nEs : List Ex → Nat → List U
  | [], _ => []
  | e :: r, d => nE e d ++ nEs r d
end
def nR (e : Ex) : List U := if absent e then [] else nE e 1
mutual
def nS : St → Nat → List U
  | .mk o nm mx a b bd el, d => .st (.mk o nm mx a b bd el) d :: (nR a ++ (nR b ++ (nB bd (d + 1) ++ nB el (d + 1))))
def nB : List St → Nat → List U
  | [], _ => []
  | s :: r, d => nS s d ++ nB r d
end
def U.v : U → V | .st s d => .st s d | .ex e d => .ex e (decide (d = 1))
mutual
theorem nE_v : ∀ (e : Ex) (d : Nat), 1 ≤ d → (nE e d).map U.v = preE e (decide (d = 1))
  | .mk o n s l, d, h => by rw [nE, preE, List.map_cons, nEs_v l (d + 1) (by omega)]; rfl
theorem nEs_v : ∀ (l : List Ex) (d : Nat), 2 ≤ d → (nEs l d).map U.v = preEs l
  | [], _, _ => rfl
  | e :: r, d, h => by rw [nEs, preEs, List.map_append, nE_v e d (by omega), nEs_v r d h, decide_eq_false (by omega)]
end
theorem nR_v (e : Ex) : (nR e).map U.v = preR e := by
  unfold nR preR
  split
  · rfl
  · exact nE_v e 1 (Nat.le_refl _)
mutual
theorem nS_v : ∀ (s : St) (d : Nat), (nS s d).map U.v = preS s d
  | .mk o nm mx a b bd el, d => by
    rw [nS, preS, List.map_cons, List.map_append, List.map_append, List.map_append, nR_v, nR_v, nB_v bd, nB_v el]
    simp only [List.append_assoc, U.v]
theorem nB_v : ∀ (l : List St) (d : Nat), (nB l d).map U.v = preB l d
  | [], _ => rfl
  | s :: r, d => by rw [nB, preB, List.map_append, nS_v s d, nB_v r d]
end
theorem nS_parts (s : St) (d : Nat) : nS s d = .st s d :: (nR s.a ++ (nR s.b ++ (nB s.body (d + 1) ++ nB s.els (d + 1)))) := by
  obtain ⟨o, nm, mx, a, b, bd, el⟩ := s
  rw [nS]; rfl
/-- the walk of a procedure, as the program visits it -/
def walkU (p : Pr) : List U := (nB p.body 1).take 401
theorem walkU_v (p : Pr) : (walkU p).map U.v = walk p := by
  unfold walkU walk
  rw [List.map_take, nB_v]
theorem walkU_len (p : Pr) : (walkU p).length ≤ 401 := by unfold walkU; rw [List.length_take]; omega

/-! ### visiting -/

section
variable {σ : Type}
def run (g : σ → U → σ × Bool) : σ → List U → σ × Bool
  | s, [] => (s, true)
  | s, u :: r => if (g s u).2 = true then run g (g s u).1 r else ((g s u).1, false)
theorem run_nil (g : σ → U → σ × Bool) (s : σ) : run g s [] = (s, true) := rfl
theorem run_cons (g : σ → U → σ × Bool) (s : σ) (u : U) (r : List U) : run g s (u :: r) = if (g s u).2 = true then run g (g s u).1 r else ((g s u).1, false) := rfl
theorem run_true {g : σ → U → σ × Bool} {s : σ} {u : U} (h : (g s u).2 = true) (r : List U) : run g s (u :: r) = run g (g s u).1 r := by rw [run_cons, if_pos h]
theorem run_app (g : σ → U → σ × Bool) : ∀ (a b : List U) (s : σ), run g s (a ++ b) = if (run g s a).2 = true then run g (run g s a).1 b else ((run g s a).1, false)
  | [], b, s => by simp [run]
  | u :: r, b, s => by
    rw [List.cons_append, run, run]
    by_cases h : (g s u).2 = true
    · rw [if_pos h, if_pos h, run_app g r b]
    · rw [if_neg h, if_neg h]
      simp
/-- the program counts the nodes that it visits, and stops behind the limit -/
def cnt (g : σ → U → σ × Bool) (x : Int × σ) (u : U) : (Int × σ) × Bool := ((IntKind.i64.wrap (x.1 + 1), (g x.2 u).1), (g x.2 u).2 && decide (IntKind.i64.wrap (x.1 + 1) ≤ 400))
theorem wrap_small {n : Int} (h0 : 0 ≤ n) (h1 : n ≤ 1000000) : IntKind.i64.wrap n = n := by
  rw [IntKind.wrap_i64]
  omega
theorem run_cnt (g : σ → U → σ × Bool) : ∀ (l : List U) (k : Nat) (s : σ), k ≤ 400 → (run (cnt g) ((k : Int), s) l).1.2 = (run g s (l.take (401 - k))).1
  | [], k, s, _ => by simp [run]
  | u :: r, k, s, hk => by
    have hw : IntKind.i64.wrap ((k : Int) + 1) = ((k + 1 : Nat) : Int) := by rw [wrap_small (by omega) (by omega)]; rfl
    obtain ⟨m, hm⟩ : ∃ m, 401 - k = m + 1 := ⟨400 - k, by omega⟩
    rw [hm, List.take_succ_cons, run, run]
    cases hg : (g s u).2
    · rw [if_neg (by unfold cnt; simp [hg]), if_neg (by simp)]
      rfl
    · rw [if_pos rfl]
      by_cases h4 : k + 1 ≤ 400
      · rw [if_pos (by unfold cnt; simp only [hg, hw, Bool.true_and, decide_eq_true_eq]; omega)]
        have := run_cnt g r (k + 1) (g s u).1 h4
        rw [show 401 - (k + 1) = m by omega] at this
        rw [← this]
        unfold cnt
        simp only [hw]
      · rw [if_neg (by unfold cnt; simp only [hg, hw, Bool.true_and, decide_eq_true_eq]; omega)]
        obtain rfl : m = 0 := by omega
        rfl
end
theorem run_walk {σ : Type} (g : σ → U → σ × Bool) (s : σ) (p : Pr) : (run (cnt g) (0, s) (nB p.body 1)).1.2 = (run g s (walkU p)).1 := run_cnt g _ 0 s (by omega)

/-! ### a count that bounds the depth -/
section
variable {σ : Type}
/-- a count that a step raises by one, and that it lets grow to 400 at most -/
structure Cn (m : σ → Int) (g : σ → U → σ × Bool) : Prop where
  step : ∀ s u, 0 ≤ m s → m s ≤ 400 → (g s u).2 = true → m (g s u).1 = m s + 1 ∧ m (g s u).1 ≤ 400
/-- a node at depth d can be visited: so many were visited before it -/
def DB (m : σ → Int) (s : σ) (d : Nat) : Prop := 0 ≤ m s ∧ m s ≤ 400 ∧ (d : Int) ≤ m s + 1
theorem DB.lt {m : σ → Int} {s : σ} {d : Nat} (h : DB m s d) : d ≤ 1000000 := by obtain ⟨_, h2, h3⟩ := h; omega
theorem Cn.run {m : σ → Int} {g : σ → U → σ × Bool} (C : Cn m g) : ∀ (l : List U) (s : σ), 0 ≤ m s → m s ≤ 400 → (A.run g s l).2 = true → m s ≤ m (A.run g s l).1 ∧ m (A.run g s l).1 ≤ 400
  | [], s, _, h4, _ => ⟨Int.le_refl _, h4⟩
  | u :: r, s, h0, h4, h => by
    rw [run_cons] at h ⊢
    cases hg : (g s u).2
    · rw [hg] at h; simp at h
    · rw [hg] at h
      simp only [if_true] at h ⊢
      obtain ⟨h1, h2⟩ := C.step s u h0 h4 hg
      have := Cn.run C r (g s u).1 (by omega) h2 h
      omega
theorem Cn.down {m : σ → Int} {g : σ → U → σ × Bool} (C : Cn m g) {s : σ} {u : U} {d : Nat} (h : DB m s d) (hg : (g s u).2 = true) : DB m (g s u).1 (d + 1) := by
  obtain ⟨h0, h4, hd⟩ := h
  obtain ⟨h1, h2⟩ := C.step s u h0 h4 hg
  exact ⟨by omega, h2, by omega⟩
theorem Cn.on {m : σ → Int} {g : σ → U → σ × Bool} (C : Cn m g) {s : σ} {l : List U} {d : Nat} (h : DB m s d) (hg : (A.run g s l).2 = true) : DB m (A.run g s l).1 d := by
  obtain ⟨h0, h4, hd⟩ := h
  obtain ⟨h1, h2⟩ := C.run l s h0 h4 hg
  exact ⟨by omega, h2, by omega⟩
theorem DB.up {m : σ → Int} {s : σ} {d e : Nat} (h : DB m s d) (he : e ≤ d) : DB m s e := by obtain ⟨h0, h4, hd⟩ := h; exact ⟨h0, h4, by omega⟩
theorem cn_cnt (g : σ → U → σ × Bool) : Cn (fun x : Int × σ => x.1) (cnt g) := by
  refine ⟨fun s u h0 h4 h => ?_⟩
  have hw : IntKind.i64.wrap (s.1 + 1) = s.1 + 1 := wrap_small (by have h : 0 ≤ s.1 := h0; omega) (by have h : s.1 ≤ 400 := h4; omega)
  unfold cnt at h ⊢
  simp only [Bool.and_eq_true, decide_eq_true_eq] at h
  exact ⟨hw, h.2⟩
end
/-! ### the steps -/

def gN (z : Int) (_ : U) : Int × Bool := (IntKind.i64.wrap (z + 1), true)
theorem run_N : ∀ (l : List U) (n : Nat), n + l.length ≤ 1000000 → (run gN (n : Int) l).1 = ((n + l.length : Nat) : Int)
  | [], n, _ => rfl
  | u :: r, n, h => by
    rw [List.length_cons] at h ⊢
    rw [run_true rfl]
    show (run gN (IntKind.i64.wrap ((n : Int) + 1)) r).1 = _
    rw [wrap_small (by omega) (by omega), show (n : Int) + 1 = ((n + 1 : Nat) : Int) by omega, run_N r (n + 1) (by omega)]
    congr 1; omega
theorem nodes_run (p : Pr) : (run gN 0 (walkU p)).1 = (nodes p : Int) := by
  have := run_N (walkU p) 0 (by have := walkU_len p; omega)
  rw [Nat.zero_add] at this
  unfold nodes
  rw [← walkU_v, List.length_map]
  exact this
def gV (z : Int) (u : U) : Int × Bool := match u with | .st s d => (stE s d, decide (stE s d = 0)) | .ex _ _ => (z, decide (z = 0))
theorem run_V : ∀ l : List U, (run gV 0 l).1 = firstE (l.map U.v)
  | [] => rfl
  | .st s d :: r => by
    rw [run, List.map_cons, U.v, firstE]
    show (if decide (stE s d = 0) = true then run gV (stE s d) r else (stE s d, false)).1 = _
    by_cases h : stE s d = 0
    · rw [if_pos (decide_eq_true h), if_neg (fun x => x h), h]
      exact run_V r
    · rw [if_neg (by rw [decide_eq_false h]; decide), if_pos h]
  | .ex e d :: r => by
    rw [run, List.map_cons, U.v, firstE]
    exact run_V r
theorem first_run (p : Pr) : (run gV 0 (walkU p)).1 = firstE (walk p) := by rw [run_V, walkU_v]
def rootU (u : U) : List Ex := match u with | .st _ _ => [] | .ex e d => if d = 1 then [e] else []
def gX (l : List Ex) (u : U) : List Ex × Bool := (l ++ rootU u, true)
def gE (z : Int) (u : U) : Int × Bool := match u with | .st _ _ => (z, false) | .ex e d => (nodeE e d, decide (nodeE e d = 0))
mutual
theorem run_E : ∀ (e : Ex) (d : Nat) (z : Int), run gE z (nE e d) = (vE e d, decide (vE e d = 0))
  | .mk o n s l, d, z => by
    rw [nE, run, vE]
    show (if decide (nodeE (.mk o n s l) d = 0) = true then run gE (nodeE (.mk o n s l) d) (nEs l (d + 1)) else (nodeE (.mk o n s l) d, false)) = _
    by_cases h : nodeE (.mk o n s l) d = 0
    · rw [if_pos (decide_eq_true h), if_neg (fun x => x h), h, run_Es l (d + 1)]
    · rw [if_neg (by rw [decide_eq_false h]; decide), if_pos h, decide_eq_false h]
theorem run_Es : ∀ (l : List Ex) (d : Nat), run gE 0 (nEs l d) = (vEs l d, decide (vEs l d = 0))
  | [], _ => rfl
  | e :: r, d => by
    rw [nEs, run_app, run_E e d, vEs]
    by_cases h : vE e d = 0
    · simp only [h, decide_true, if_true]
      rw [if_neg (by simp), run_Es r d]
    · rw [if_neg (by simp only [decide_eq_false h]; decide), if_pos h, decide_eq_false h]
end
/-! ### lists of nodes, from an index on -/
theorem nEs_drop {l : List Ex} {k : Nat} (h : k < l.length) (d : Nat) : nEs (l.drop k) d = nE l[k] d ++ nEs (l.drop (k + 1)) d := by
  rw [List.drop_eq_getElem_cons h, nEs]
theorem nB_drop {l : List St} {k : Nat} (h : k < l.length) (d : Nat) : nB (l.drop k) d = nS l[k] d ++ nB (l.drop (k + 1)) d := by
  rw [List.drop_eq_getElem_cons h, nB]
end Go.Proofs.YteglaeopaocilaaGreatDoor.A
namespace Go.Proofs.YteglaeopaocilaaGreatDoor.A
open Go.RowKit
open L (Str isName prt size_len below_2 below_box ret_bool ret_int eql_eq bytes_eq)

/-- a node as the program hands it to a step -/
def nodeV (ps pe : Option Addr) (d : Nat) : Value := .agg #[.pointer ps, .pointer pe, .int .i64 (d : Int)]
def U.d : U → Nat | .st _ d => d | .ex _ d => d
/-- where a node lies -/
def UAt (w : World) : U → Option Addr → Option Addr → Prop
  | .st s _, ps, pe => ∃ b i, ps = some ⟨b, i, none⟩ ∧ pe = none ∧ StAt w s b i
  | .ex e _, ps, pe => ∃ b i, ps = none ∧ pe = some ⟨b, i, none⟩ ∧ ExAt w e b i
/-- what the reach gives of a node -/
def UOk : U → Prop
  | .st s d => okS s ∧ d ≤ 1000000
  | .ex e d => okE e ∧ d ≤ 1000000
/-- the step of ValidExpr -/
structure StepA {σ : Type} (p1 : Addr) (g : σ → U → σ × Bool) (w0 : World) (I : σ → World → Prop) : Prop where
  call : ∀ (s : σ) (e : Ex) (d b i : Nat) (w : World), I s w → Below w0.heap.size w0 w → ExAt w0 e b i → okE e → d ≤ 1000000 →
    Calls Tryz.prog 58 #[nodeV none (some ⟨b, i, none⟩) d, .pointer (some p1)] w fun e' w' => e' = .returned (.bool (g s (.ex e d)).2) ∧ I (g s (.ex e d)).1 w' ∧ Below w0.heap.size w w'
/-- what a call leaves that visits nodes -/
def GivesR {σ : Type} (w0 : World) (I : σ → World → Prop) (r : σ × Bool) (w : World) (e' : Ending) (w' : World) : Prop := e' = .returned (.bool r.2) ∧ I r.1 w' ∧ Below w0.heap.size w w'
section
variable {σ : Type} {g : σ → U → σ × Bool} {w0 : World} {I : σ → World → Prop}
def QA (p1 : Addr) (g : σ → U → σ × Bool) (w0 : World) (I : σ → World → Prop) (e : Ex) : Prop := ∀ (d b i : Nat) (s : σ) (w : World), okE e → d ≤ 13 → ExAt w0 e b i → I s w → Below w0.heap.size w0 w →
  Calls Tryz.prog 57 #[.pointer (some ⟨b, i, none⟩), .int .i64 (d : Int), .func (Fn.func 58) #[] #[.pointer (some p1)]] w fun e' w' => GivesR w0 I (run g s (nE e d)) w e' w'
set_option maxHeartbeats 4000000 in
set_option maxRecDepth 100000 in
theorem owalkExprA_any {p1 : Addr} (H : StepA p1 g w0 I) (hstop : ∀ s e d, (g s (.ex e d)).2 = true → d ≤ 12) : ∀ e, QA p1 g w0 I e := by
  refine Ex.ind (P := QA p1 g w0 I) ?_
  intro o n t l ih d b i s w hok hsz hat hI hb0
  have HC := Lib.hid (H.call s (.mk o n t l) d b i w hI hb0 hat hok (by omega))
  have hst := hstop s (.mk o n t l) d
  have hd : d ≤ 1000000 := by omega
  obtain ⟨_, hl, hoks⟩ := okE_open hok
  obtain ⟨a, c, hf, hK⟩ := hat.four
  have HK : Hid (Kids w0 a l) := hK
  have HF : Hid (w0.cell? ⟨b, i + 3, none⟩ = some (.slice a l.length c)) := hf.k3
  have hblt := hat.lt
  have HIH := Lib.hid ih
  have HOK := Lib.hid hoks
  have HB0 := Lib.hid hb0
  rw [nE, run_cons]
  obtain ⟨⟨s1, y⟩, hg⟩ : ∃ r, g s (.ex (.mk o n t l) d) = r := ⟨_, rfl⟩
  rw [hg] at HC hst ⊢
  simp only [nodeV] at HC
  clear hg hok hsz hat hf hK ih hoks hb0 hI
  cases y
  · clear hst
    simp only [Bool.false_eq_true, if_false]
    go_enter Tryz.func57, Tryz.ntmps57
    go_wp2_with fail
    refine HC.out.mono ?_; rintro e w1 ⟨rfl, hI1, hb1⟩
    have HI1 := Lib.hid hI1
    have HB1 := Lib.hid hb1
    clear hI1 hb1
    go_wp2_with fail
    go_ret
    exact ⟨rfl, HI1.out, HB1.out⟩
  · have hd12 : d ≤ 12 := hst rfl
    clear hst
    simp only [if_true]
    obtain ⟨R, hR⟩ : ∃ R, run g s1 (nEs l (d + 1)) = R := ⟨_, rfl⟩
    rw [hR]
    have HR : Hid (run g s1 (nEs (l.drop 0) (d + 1)) = R) := hR
    obtain ⟨m, hm⟩ : ∃ m, l.length = m := ⟨_, rfl⟩
    have HL := Lib.hid hm
    rw [hm] at HF hl
    clear hR hm
    go_enter Tryz.func57, Tryz.ntmps57
    go_wp2_with fail
    refine HC.out.mono ?_; rintro e w1 ⟨rfl, hI1, hb1⟩
    have HI1 := Lib.hid hI1
    have HB1 := Lib.hid hb1
    have k3 := ((HB0.out.trans hb1).cell hblt).trans HF.out
    clear hI1 hb1
    go_wp2_with fail
    go_loopw [19] (fun s19 wr => ∃ (k : Nat) (sk : σ), k ≤ m ∧ s19 = .int .i64 k ∧ Hid (run g sk (nEs (l.drop k) (d + 1)) = R) ∧ Hid (I sk wr) ∧ Hid (Below w0.heap.size w wr)) (fun s19 _ => m - (intOf s19).toNat)
    case atStart => exact ⟨0, s1, Nat.zero_le _, rfl, HR, HI1, HB1⟩
    case round =>
      obtain ⟨k, sk, hk, rfl, HX, HI, HB⟩ := hrel
      have hbr := HB0.out.trans HB.out
      by_cases hlt : k < m
      · have hlx : k < l.length := by rw [HL.out]; exact hlt
        have hx := HX.out
        rw [nEs_drop hlx, run_app] at hx
        have f3 := (hbr.cell hblt).trans HF.out
        obtain ⟨b2, i2, rfl, hat⟩ := HK.out.open hlx
        have HY := Lib.hid (HIH.out k hlx (d + 1) b2 (i2 + k * 4) sk wr (HOK.out.get k hlx) (by omega) hat HI.out hbr)
        simp only [Int.natCast_add, Int.natCast_one] at HY
        generalize run g sk (nE l[k] (d + 1)) = r at HY hx
        obtain ⟨s2, y⟩ := r
        clear hat hbr
        cases y
        · simp only [Bool.false_eq_true, if_false] at hx
          have HV := Lib.hid hx
          clear hx
          go_wp2_with fail
          refine HY.out.mono ?_; rintro e w2 ⟨rfl, hI2, hb2⟩
          have HI2 := Lib.hid hI2
          have HB2 := Lib.hid (HB.out.trans hb2)
          clear hI2 hb2
          go_wp2_with fail
          go_ret
          exact ⟨ret_bool (by rw [← HV.out]), by rw [← HV.out]; exact HI2.out, HB2.out⟩
        · simp only [if_true] at hx
          have HN := Lib.hid hx
          clear hx
          go_wp2_with fail
          refine HY.out.mono ?_; rintro e w2 ⟨rfl, hI2, hb2⟩
          have HI2 := Lib.hid hI2
          have HB2 := Lib.hid (HB.out.trans hb2)
          clear hI2 hb2
          go_wp2_with fail
          go_roundw
          case rel => exact ⟨k + 1, s2, by omega, by go_num, HN, HI2, HB2⟩
          case measure => simp [intOf]; omega
      · have HV : Hid (R = (sk, true)) := by
          show _ = _
          rw [← HX.out, List.drop_of_length_le (by rw [HL.out]; omega), nEs, run_nil]
        go_wp2_with fail
        go_ret
        exact ⟨ret_bool (by rw [HV.out]), by rw [HV.out]; exact HI.out, HB.out⟩
end

/-! ### ValidExpr -/

/-- block N holds a variable that may be written -/
structure Cell1 (N : Nat) (v : Value) (w : World) : Prop where
  lt : N < w.heap.size
  cell : w.cell? ⟨N, 0, none⟩ = some v
  free : w.frozen? ⟨N, 0, none⟩ = false
theorem Cell1.below {N B : Nat} {v : Value} {w w' : World} (h : Cell1 N v w) (hb : Below B w w') (hB : N < B) : Cell1 N v w' :=
  ⟨Nat.lt_of_lt_of_le h.lt hb.size, (hb.cell (by exact hB)).trans h.cell, (hb.frozen (by exact hB)).trans h.free⟩
theorem Cell1.later {N : Nat} {v : Value} {w w' : World} (h : Cell1 N v w) (hb : Below w.heap.size w w') : Cell1 N v w' := h.below hb h.lt
theorem Cell1.set {N : Nat} {v u : Value} {w : World} (h : Cell1 N v w) : Cell1 N u (w.setCell ⟨N, 0, none⟩ u) := by
  obtain ⟨h1, h2, h3⟩ := h
  exact ⟨by simpa using h1, by go_simp, by go_simp⟩
theorem cell1_at {N : Nat} {v : Value} {t : TypeId} {w : World} (h : w.heap.size = N) : Cell1 N v (w.alloc (.cells #[v] t)) := by
  subst h
  exact ⟨by simp, by go_simp, by go_simp⟩
theorem below_b {w w1 w2 w3 : World} (h : Below w.heap.size w w1) (h2 : Below w1.heap.size w1 w2) (h3 : Below w1.heap.size w2 w3) : Below w.heap.size w w3 := (below_2 h h2).trans (h3.mono h.size)
theorem node_deep {e : Ex} {d : Nat} (h : nodeE e d = 0) : d ≤ 12 := by
  apply Decidable.byContradiction
  intro h12
  unfold nodeE at h
  repeat' split at h
  all_goals first | omega | cases h
theorem stopE (z : Int) (e : Ex) (d : Nat) (h : (gE z (.ex e d)).2 = true) : d ≤ 12 := node_deep (of_decide_eq_true (show decide (nodeE e d = 0) = true from h))
theorem exAt_box {w : World} {e : Ex} {a : Option Addr} {c : Nat} (hK : Kids w a e.args) : ExAt (w.alloc (exO e a c)) e w.heap.size 0 := by
  obtain ⟨h0, h1, h2, h3⟩ := exO_cells w e a c
  have hk := hK.below (below_box w (exO e a c))
  obtain ⟨o, n, s, l⟩ := e
  rw [ExAt]
  exact ⟨h0, h1, h2, a, c, h3, hk⟩
set_option maxHeartbeats 2000000 in
set_option maxRecDepth 100000 in
theorem stepE {w0 : World} {N : Nat} (hN : w0.heap.size ≤ N) : StepA ⟨N, 0, none⟩ gE w0 (fun z w => Cell1 N (.int .i64 z) w) := by
  refine ⟨fun z e d b i w hI hb0 hat hok hsz => ?_⟩
  obtain ⟨a, c, hf, _⟩ := hat.four
  have hat2 := hat.below hb0
  obtain ⟨a, c, hf, _⟩ := hat2.four
  have hd : d ≤ 1000000 := hsz
  have hw := below_box w (.cells #[.pointer none, .pointer (some ⟨b, i, none⟩), .int .i64 (d : Int)] 65)
  have HC := Lib.hid (oexprError_any e b i a c d hd _ (hf.below hw))
  have HI := Lib.hid (hI.later hw)
  have HW := Lib.hid hw
  have HZ := Lib.hid hb0.size
  have HV : Hid (gE z (.ex e d) = (nodeE e d, (nodeE e d == 0))) := by
    show (nodeE e d, decide (nodeE e d = 0)) = _
    rw [Bool.beq_eq_decide_eq]
  rw [HV.out]
  unfold nodeV
  generalize nodeE e d = x at HC ⊢
  clear hI hf hat hat2 hok hsz hw HV hb0
  go_enter Tryz.func58, Tryz.ntmps58
  go_wp2_with fail
  refine HC.out.mono ?_; rintro e' w2 ⟨rfl, hb⟩
  have HI2 := Lib.hid (HI.out.later hb)
  have HB : Hid (Below w0.heap.size w w2) := (below_2 HW.out hb).mono HZ.out
  obtain ⟨j1, j2, j3⟩ := HI2.out
  clear hb
  go_wp2_with fail
  go_ret
  exact ⟨rfl, HI2.out.set, HB.out.setCell hN _⟩
set_option maxHeartbeats 2000000 in
set_option maxRecDepth 100000 in
theorem ovalidExpr_any (e : Ex) (a : Option Addr) (c : Nat) (hok : okE e) (w : World) (hK : Kids w a e.args) :
    Calls Tryz.prog 26 #[exV e a c] w fun e' w' => e' = .returned (.int .i64 (vE e 1)) ∧ Below w.heap.size w w' := by
  have hw := below_box w (exO e a c)
  have hat := exAt_box (c := c) hK
  have HA := Lib.hid hat
  have HW := Lib.hid hw
  have hz : (w.alloc (exO e a c)).heap.size = w.heap.size + 1 := by simp
  have HR := Lib.hid (run_E e 1 0)
  have hst : StepA ⟨w.heap.size + 1, 0, none⟩ gE (w.alloc (exO e a c)) (fun z w' => Cell1 (w.heap.size + 1) (.int .i64 z) w') := stepE (by omega)
  have HC := Lib.hid (fun w2 h1 h2 => owalkExprA_any hst stopE e 1 w.heap.size 0 0 w2 hok (by omega) hat h1 h2)
  rw [HR.out] at HC
  generalize vE e 1 = x at HC ⊢
  unfold exV
  unfold exO at *
  simp only [show ((1 : Nat) : Int) = 1 from rfl] at HC
  have HZ := Lib.hid hz
  clear hw hat hst hz
  go_enter Tryz.func26, Tryz.ntmps26
  go_wp2_with fail
  refine (HC.out _ (cell1_at HZ.out) (below_box _ _)).mono ?_; rintro e' w2 ⟨rfl, hI2, hb2⟩
  obtain ⟨j1, j2, j3⟩ := hI2
  have HB := Lib.hid (below_b HW.out (below_box _ _) hb2)
  clear hb2
  go_wp2_with fail
  go_ret
  exact ⟨rfl, HB.out⟩
end Go.Proofs.YteglaeopaocilaaGreatDoor.A
