/-
  Plain mathematics of layer 8: the walk that stops at its limit. Visits as the reference keeps them, in rows that a call owns.
  Visits appended; what walkExpr of the reference of layer 8 returns.
  What the reference of layer 8 returns: countExpr, SmallExpr, EqualExpr: contracts by induction on the tree.
  What the reference of layer 8 returns: EqualExpr: its contract, by induction on the tree.
-/
import Derived.Test.YtkjefigebdbkaaaDoorN03
import Derived.Test.YtkjefigebdbkaaaDoorN04
import Derived.Laws.AppendOwn
import Derived.OwnWalk
import Derived.Deep.AppendLies
namespace Go.Proofs.YtkjefigebdbkaaaDoor.A
open Go.RowKit
open L (Str isName prt size_len below_2 below_box ret_bool ret_int)

theorem take_full {α : Type} {X Y : List α} {n : Nat} (h : n ≤ (X.take n).length) : (X ++ Y).take n = X.take n := by
  rw [List.length_take] at h
  rw [List.take_append_of_le_length (by omega)]
theorem take_take_app {α : Type} (X Y : List α) (n : Nat) : (X.take n ++ Y).take n = (X ++ Y).take n := by
  rcases Nat.lt_or_ge X.length n with h | h
  · rw [List.take_of_length_le (Nat.le_of_lt h)]
  · rw [List.take_append_of_le_length (by rw [List.length_take]; omega), List.take_append_of_le_length h, List.take_take, Nat.min_self]
theorem preEs_take {l : List Ex} {k : Nat} (h : k < l.length) : preEs (l.take (k + 1)) = preEs (l.take k) ++ preE l[k] false := by
  induction l generalizing k with
  | nil => cases h
  | cons e l ih =>
    cases k with
    | zero => simp [preEs]
    | succ k =>
      have := ih (k := k) (by simpa using h)
      simp only [List.take_succ_cons, preEs, List.getElem_cons_succ] at this ⊢
      rw [this, List.append_assoc]
theorem preEs_split (l : List Ex) (k : Nat) : preEs l = preEs (l.take k) ++ preEs (l.drop k) := by
  induction l generalizing k with
  | nil => simp [preEs]
  | cons e l ih =>
    cases k with
    | zero => simp [preEs]
    | succ k =>
      simp only [List.take_succ_cons, List.drop_succ_cons, preEs]
      rw [ih k, List.append_assoc]
theorem preB_take {l : List St} {k : Nat} (h : k < l.length) (d : Nat) : preB (l.take (k + 1)) d = preB (l.take k) d ++ preS l[k] d := by
  induction l generalizing k with
  | nil => cases h
  | cons e l ih =>
    cases k with
    | zero => simp [preB]
    | succ k =>
      have := ih (k := k) (by simpa using h)
      simp only [List.take_succ_cons, preB, List.getElem_cons_succ] at this ⊢
      rw [this, List.append_assoc]
theorem preB_split (l : List St) (k : Nat) (d : Nat) : preB l d = preB (l.take k) d ++ preB (l.drop k) d := by
  induction l generalizing k with
  | nil => simp [preB]
  | cons e l ih =>
    cases k with
    | zero => simp [preB]
    | succ k =>
      simp only [List.take_succ_cons, List.drop_succ_cons, preB]
      rw [ih k, List.append_assoc]

/-! ### visits -/

/-- a visit, with where its parts lie -/
inductive VT where
  | st (s : St) (d : Nat) (a1 : Option Addr) (c1 : Nat) (a2 : Option Addr) (c2 : Nat) (a3 : Option Addr) (c3 : Nat) (a4 : Option Addr) (c4 : Nat)
  | ex (e : Ex) (root : Bool) (a : Option Addr) (c : Nat)
namespace VT
def v : VT → V
  | .st s d _ _ _ _ _ _ _ _ => .st s d
  | .ex e r _ _ => .ex e r
def cells : VT → List Value
  | .st s d a1 c1 a2 c2 a3 c3 a4 c4 => [.bool true, .int .i64 s.op, .string s.name, .int .i64 s.mx, .int .i64 s.a.op, .int .i64 s.a.n, .string s.a.s, .slice a1 s.a.args.length c1, .int .i64 s.b.op, .int .i64 s.b.n, .string s.b.s, .slice a2 s.b.args.length c2, .slice a3 s.body.length c3, .slice a4 s.els.length c4, .int .i64 (d : Int), .int .i64 0, .int .i64 0, .string ⟨#[]⟩, .slice none 0 0, .bool false]
  | .ex e r a c => [.bool false, .int .i64 0, .string ⟨#[]⟩, .int .i64 0, .int .i64 0, .int .i64 0, .string ⟨#[]⟩, .slice none 0 0, .int .i64 0, .int .i64 0, .string ⟨#[]⟩, .slice none 0 0, .slice none 0 0, .slice none 0 0, .int .i64 0, .int .i64 e.op, .int .i64 e.n, .string e.s, .slice a e.args.length c, .bool r]
def In (w : World) : VT → Prop
  | .st s _ a1 _ a2 _ a3 _ a4 _ => StKids w s a1 a2 a3 a4
  | .ex e _ a _ => Kids w a e.args
theorem In.below {w w' : World} {x : VT} (h : x.In w) (hb : Below w.heap.size w w') : x.In w' := by
  cases x with
  | st s d a1 c1 a2 c2 a3 c3 a4 c4 => exact StKids.below h hb
  | ex e r a c => exact Kids.below h hb
theorem cells_len (x : VT) : x.cells.length = 20 := by cases x <;> rfl
end VT
def vs (l : List VT) : List V := l.map VT.v
def vcs (l : List VT) : List Value := l.flatMap VT.cells
theorem vcs_app (a b : List VT) : vcs (a ++ b) = vcs a ++ vcs b := List.flatMap_append
theorem vcs_one (x : VT) : vcs [x] = x.cells := by unfold vcs; simp
/-- the call owns these visits -/
structure OwnV (w : World) (B : Nat) (v : Value) (l : List VT) : Prop where
  row : w.ownsRow B 66 20 v l.length (vcs l)
  each : ∀ x ∈ l, x.In w
theorem one_cellsV (x : VT) : ∀ u ∈ x.cells, u.oneCell' = true := by
  cases x with
  | st s d a1 c1 a2 c2 a3 c3 a4 c4 =>
    intro u hu
    simp [VT.cells] at hu
    rcases hu with rfl | rfl | rfl | rfl | rfl | rfl | rfl | rfl | rfl | rfl | rfl | rfl | rfl | rfl | rfl | rfl | rfl | rfl | rfl | rfl <;> rfl
  | ex e r a c =>
    intro u hu
    simp [VT.cells] at hu
    rcases hu with rfl | rfl | rfl | rfl | rfl | rfl | rfl | rfl | rfl | rfl | rfl | rfl | rfl | rfl | rfl | rfl | rfl | rfl | rfl | rfl <;> rfl
end Go.Proofs.YtkjefigebdbkaaaDoor.A
namespace Go.Proofs.YtkjefigebdbkaaaDoor.A
open Go.RowKit
open L (Str isName prt size_len below_2 below_box ret_bool ret_int)

theorem info_v : (Tryd.prog.info? 66).map (fun i => (i.zero, i.size, i.bytes)) = some (some (.agg #[.bool false, .int .i64 0, .string ⟨#[]⟩, .int .i64 0, .int .i64 0, .int .i64 0, .string ⟨#[]⟩, .slice none 0 0, .int .i64 0, .int .i64 0, .string ⟨#[]⟩, .slice none 0 0, .slice none 0 0, .slice none 0 0, .int .i64 0, .int .i64 0, .int .i64 0, .string ⟨#[]⟩, .slice none 0 0, .bool false]), 20, 272) := by kernel_rfl
theorem info_parts3 {o : Option TypeInfo} {a : Option Value} {b c : Nat} (h : o.map (fun i => (i.zero, i.size, i.bytes)) = some (a, b, c)) : ∃ i, o = some i ∧ i.zero = a ∧ i.size = b ∧ i.bytes = c := by
  cases o with
  | none => cases h
  | some i =>
    simp only [Option.map_some, Option.some.injEq, Prod.mk.injEq] at h
    exact ⟨i, rfl, h.1, h.2.1, h.2.2⟩
theorem cells_row (w : World) (t : TypeId) (cs : List Value) : ∀ j u, cs[j]? = some u → (w.alloc (.cells cs.toArray t)).cell? ((⟨w.heap.size, 0, none⟩ : Addr).add j) = some u := by
  intro j u hu
  rw [Addr.add_lit, Nat.zero_add]
  have h1 : (w.alloc (.cells cs.toArray t)).heap[w.heap.size]? = some (.cells cs.toArray t) := by
    show (w.heap.push _)[w.heap.size]? = _
    simp
  rw [cell_of_row _ _ _ _ _ _ h1, ← Array.getElem?_toList]
  exact hu
/-- a visit appended -/
theorem wpList_append_visit {w : World} {ops : Array Oper} {rest : List Oper} {o : Oper} {a : Act} {Q : Exit → Act → World → Prop} (hgd : o.guard = none) (s x : Operand)
    (ho : o.op = .call { callee := .builtin .append, args := #[s, x], argTypes := #[63, 63] })
    (base : Nat) (v : Value) (l : List VT) (hs : a.eval s = v) (hown : w.ownsRow base 66 20 v l.length (vcs l)) (y : VT) (cs : List Value) (hcs : cs = y.cells)
    (g : Nat) (hx : a.eval x = .slice (some ⟨g, 0, none⟩) 1 1) (hg : g = w.heap.size) (hn : l.length ≤ 1000000) (hbase : base ≤ w.heap.size)
    (h : ∀ g' cap w', w'.ownsRow base 66 20 (.slice (some ⟨g', 0, none⟩) (l.length + 1) cap) (l ++ [y]).length (vcs (l ++ [y])) → (w.alloc (.cells cs.toArray 66)).grownBy w' v.ownBlock → (v.ownBlock = some g' ∨ g' = w.heap.size + 1) → wpList Tryd.prog ops Q rest (a.put o.dst (.slice (some ⟨g', 0, none⟩) (l.length + 1) cap)) w') :
    wpList Tryd.prog ops Q (o :: rest) a (w.alloc (.cells cs.toArray 66)) := by
  subst hg
  obtain ⟨i0, hi, hz0, hz1, hz2⟩ := info_parts3 info_v
  refine wpList_append_lies _ hgd s x 63 ho base 66 i0 _ 20 272 Tryd.underlying63 hi hz0 hz1 hz2 rfl (by decide) v l.length (vcs l) hs (hown.alloc _) ⟨w.heap.size, 0, none⟩ 1 1 cs hx (by rw [hcs, VT.cells_len]) (cells_row _ _ _) (by rw [hcs]; exact one_cellsV y) (by decide) (by unfold maxLen; omega) (by omega) (by simp; omega) (w.heap.size + 1) (by simp) ?_
  intro g' cap w' h1 h2 h3 _
  refine h g' cap w' ?_ h2 h3
  rw [List.length_append, vcs_app, vcs_one, ← hcs]
  exact h1
theorem grown_2 {w w1 w2 : World} {r1 r2 : Option Nat} (h : w.grownBy w1 r1) (h2 : w1.grownBy w2 r2) (hr : ∀ g, r2 = some g → r1 = some g ∨ w.heap.size ≤ g) : w.grownBy w2 r1 :=
  ⟨h2.os.trans h.os, h2.tape.trans h.tape, h2.output.trans h.output, Nat.le_trans h.size h2.size, fun k hk hne => (h2.block k (Nat.lt_of_lt_of_le hk h.size) (fun e => by
    rcases hr k e.symm with h3 | h3
    · exact hne h3.symm
    · omega)).trans (h.block k hk hne)⟩
/-- what walkExpr leaves: a row of visits that the call owns, what it was and the nodes, cut at the limit -/
def GivesW (w0 w : World) (v : Value) (X : List V) (e' : Ending) (w' : World) : Prop :=
  ∃ v' l', e' = .returned v' ∧ w'.ownsRow w0.heap.size 66 20 v' l'.length (vcs l') ∧ (∀ x ∈ l', x.In w0) ∧ vs l' = X.take 401 ∧ w.grownBy w' v.ownBlock ∧ (∀ g, v'.ownBlock = some g → v.ownBlock = some g ∨ w.heap.size ≤ g)
def QW (e : Ex) : Prop := ∀ (w0 : World) (v : Value) (l : List VT) (a : Option Addr) (c : Nat) (root : Bool) (w : World), okE e → Kids w0 a e.args → Below w0.heap.size w0 w → w.ownsRow w0.heap.size 66 20 v l.length (vcs l) → (∀ x ∈ l, x.In w0) → l.length ≤ 401 →
    Calls Tryd.prog 94 #[v, exV e a c, .bool root] w fun e' w' => GivesW w0 w v (vs l ++ preE e root) e' w'
theorem vs_len (l : List VT) : (vs l).length = l.length := List.length_map _
theorem vs_app (a b : List VT) : vs (a ++ b) = vs a ++ vs b := List.map_append
set_option maxHeartbeats 4000000 in
set_option maxRecDepth 100000 in
theorem rwalkExpr_any : ∀ e, QW e := by
  refine Ex.ind (P := QW) ?_
  intro o n s t ih w0 v l a c root w hok hK hb0 hown hin hlen
  obtain ⟨hs, hl, hoks⟩ := okE_open hok
  have hz0 := hb0.size
  obtain ⟨p, q, hv⟩ : ∃ p q, v = .slice p l.length q := by
    rcases hown.2 with ⟨hv, h0⟩ | ⟨g, cap, cur, hv, _⟩
    · exact ⟨none, 0, by rw [hv, h0]⟩
    · exact ⟨_, cap, hv⟩
  by_cases hfull : 400 < l.length
  · have HV : Hid (vs l = (vs l ++ preE (.mk o n s t) root).take 401) := by
      show _ = _
      rw [List.take_append_of_le_length (by rw [vs_len]; omega), List.take_of_length_le (by rw [vs_len]; omega)]
    have HO := Lib.hid hown
    have HI := Lib.hid hin
    subst hv
    simp only [exV_mk]
    clear hown hin ih hoks hok hK
    go_enter Tryd.func94, Tryd.ntmps94
    go_wp2_with fail
    go_ret
    exact ⟨_, l, rfl, HO.out.alloc _, HI.out, HV.out, World.grownBy_alloc _ _ _, fun g h => Or.inl h⟩
  · have HO := Lib.hid hown
    have HI := Lib.hid hin
    have HIH := Lib.hid ih
    have HOK := Lib.hid hoks
    have HK : Hid (Kids w0 a t) := hK
    have HB0 := Lib.hid hb0
    have HBL := Lib.hid (exO_cells w (.mk o n s t) a c)
    have HIn : Hid (VT.In w0 (.ex (.mk o n s t) root a c)) := hK
    have HLt := Lib.hid (fun g h => (World.ownsRow.lt hown g h).2)
    subst hv
    simp only [exV_mk, exO_mk, op_mk, n_mk, s_mk, args_mk] at HBL ⊢
    clear hown hin ih hoks hok hK
    go_enter Tryd.func94, Tryd.ntmps94
    go_wp2_with (at_builtin; refine wpList_append_visit rfl (.tmp 12) (.tmp 16) rfl w0.heap.size (.slice p l.length q) l rfl (HO.out.alloc _) (.ex (.mk o n s t) root a c) _ rfl (w.heap.size + 1) rfl (by simp) (by omega) (by simp; omega) ?_; intro g1 cap1 w1 hown1 hgrow1 hlie1)
    have HO1 := Lib.hid hown1
    have hsz1 := hgrow1.size
    have HG1 : Hid (w.grownBy w1 (Value.slice p l.length q).ownBlock) := grown_2 (grown_2 (World.grownBy_alloc w _ _) (World.grownBy_alloc _ _ (Value.slice p l.length q).ownBlock) (fun g h => Or.inl h)) hgrow1 (fun g h => Or.inl h)
    have hne0 : (Value.slice p l.length q).ownBlock ≠ some w.heap.size := fun h => Nat.lt_irrefl _ (HLt.out _ h)
    have HC1 : Hid (w1.cell? ⟨w.heap.size, 3, none⟩ = some (.slice a t.length c)) := by
      have h3 := HBL.out.2.2.2
      have h4 := (World.grownBy_alloc _ (.cells (VT.ex (.mk o n s t) root a c).cells.toArray 66) (Value.slice p l.length q).ownBlock).cell h3 (fun h => hne0 h.symm)
      exact hgrow1.cell h4 (fun h => hne0 h.symm)
    have HL1 : Hid ((Value.slice p l.length q).ownBlock = some g1 ∨ w.heap.size ≤ g1) := by
      rcases hlie1 with h | h
      · exact Or.inl h
      · right; rw [h]; exact Nat.le_succ_of_le (below_box w _).size
    have HN1 : Hid (g1 ≠ w.heap.size) := by
      rcases hlie1 with h | h
      · exact fun e => hne0 (by rw [h, e])
      · rw [h]; exact Nat.ne_of_gt (Nat.lt_succ_of_le (below_box w _).size)
    have HV1 : Hid (vs (l ++ [VT.ex (.mk o n s t) root a c]) = (vs l ++ (.ex (.mk o n s t) root :: preEs (t.take 0))).take 401) := by
      show _ = _
      rw [vs_app, List.take_zero, preEs, List.take_of_length_le]
      · rfl
      · rw [List.length_append, vs_len]; simp; omega
    have HIn1 : Hid (∀ x ∈ l ++ [VT.ex (.mk o n s t) root a c], x.In w0) := by
      intro x hx
      rcases List.mem_append.1 hx with h | h
      · exact HI.out x h
      · rw [List.mem_singleton] at h; rw [h]; exact HIn.out
    have hl1 : (l ++ [VT.ex (.mk o n s t) root a c]).length = l.length + 1 := by simp
    obtain ⟨l1, hl1e⟩ : ∃ l1, l ++ [VT.ex (.mk o n s t) root a c] = l1 := ⟨_, rfl⟩
    rw [hl1e] at hl1 HO1 HV1 HIn1
    have HPre : Hid (preE (.mk o n s t) root = .ex (.mk o n s t) root :: preEs t) := by show _ = _; rw [preE]
    have HBv : Hid (∀ g, (Value.slice p l.length q).ownBlock = some g → w0.heap.size ≤ g) := fun g h => (World.ownsRow.lt HO.out g h).1
    rw [← hl1]
    clear hown1 hgrow1 hlie1 hl1e hne0 HBL
    go_wp2_with fail
    go_loopw [0, 7] (fun v0 i wr => ∃ (k : Nat) (l2 : List VT) (p2 : Option Addr) (q2 : Nat), k ≤ t.length ∧ i = .int .i64 k ∧ v0 = .slice p2 l2.length q2 ∧ l2.length ≤ 401 ∧ Hid (wr.ownsRow w0.heap.size 66 20 (.slice p2 l2.length q2) l2.length (vcs l2)) ∧ Hid (∀ x ∈ l2, x.In w0) ∧ Hid (vs l2 = (vs l ++ (.ex (.mk o n s t) root :: preEs (t.take k))).take 401) ∧ Hid (w.grownBy wr (Value.slice p l.length q).ownBlock) ∧ wr.cell? ⟨w.heap.size, 3, none⟩ = some (.slice a t.length c) ∧ Hid (∀ g, (Value.slice p2 l2.length q2).ownBlock = some g → g ≠ w.heap.size ∧ ((Value.slice p l.length q).ownBlock = some g ∨ w.heap.size ≤ g))) (fun _ i _ => t.length - (intOf i).toNat)
    case atStart => exact ⟨0, l1, some ⟨g1, 0, none⟩, cap1, Nat.zero_le _, rfl, rfl, by omega, (by rw [hl1]; rw [hl1] at HO1; exact HO1.out), HIn1.out, HV1.out, HG1.out, HC1.out, fun g h => by cases h; exact ⟨HN1.out, HL1.out⟩⟩
    case round =>
      obtain ⟨k, l2, p2, q2, hk, rfl, rfl, hl2, HO2, HI2, HX, HG, c3, HLi⟩ := hrel
      have HBB : Hid (Below w0.heap.size w0 wr) := HB0.out.grown HG.out hz0 HBv.out
      by_cases hlx : k < t.length
      · by_cases h400 : l2.length ≤ 400
        · have b4 : decide ((l2.length : Int) ≤ 400) = true := decide_eq_true (by omega)
          obtain ⟨b2, i2, rfl, hat⟩ := HK.out.open hlx
          obtain ⟨d0, d1, d2, a2, cc, d3, hk2⟩ := hat.open
          have hblt := hat.lt
          have f0 := (HBB.out.cell hblt).trans d0
          have f1 := (HBB.out.cell hblt).trans d1
          have f2 := (HBB.out.cell hblt).trans d2
          have f3 := (HBB.out.cell hblt).trans d3
          have HC := Lib.hid (HIH.out k hlx w0 (.slice p2 l2.length q2) l2 a2 cc false wr (HOK.out.get k hlx) hk2 HBB.out HO2.out HI2.out hl2)
          have HT := Lib.hid (preEs_take hlx)
          clear hat hk2 d0 d1 d2 d3 hblt
          generalize preE t[k] false = Y at HC HT
          unfold exV at HC
          generalize t[k].args.length = m2 at f3 HC
          generalize t[k].op = o2 at f0 HC
          generalize t[k].n = n2 at f1 HC
          generalize t[k].s = s2 at f2 HC
          go_wp2_with fail
          refine HC.out.mono ?_; rintro e w2 ⟨v', l', rfl, ho', hi', hv', hg', hlie'⟩
          obtain ⟨p3, q3, rfl⟩ : ∃ p q, v' = .slice p l'.length q := by
            rcases ho'.2 with ⟨hv, h0⟩ | ⟨g, cap, cur, hv, _⟩
            · exact ⟨none, 0, by rw [hv, h0]⟩
            · exact ⟨_, cap, hv⟩
          have hl' : l'.length ≤ 401 := by
            have := congrArg List.length hv'
            rw [vs_len, List.length_take] at this
            omega
          have HO3 := Lib.hid ho'
          have HI3 := Lib.hid hi'
          have HX3 : Hid (vs l' = (vs l ++ (.ex (.mk o n s t) root :: preEs (t.take (k + 1)))).take 401) := by
            show _ = _
            rw [hv', HX.out, take_take_app, HT.out, List.append_assoc, List.cons_append]
          have HG3 : Hid (w.grownBy w2 (Value.slice p l.length q).ownBlock) := grown_2 HG.out hg' (fun g h => (HLi.out g h).2)
          have c3' : w2.cell? ⟨w.heap.size, 3, none⟩ = some (.slice (some ⟨b2, i2, none⟩) t.length c) := hg'.cell c3 (fun h => (HLi.out _ h.symm).1 rfl)
          have hwr : w.heap.size < wr.heap.size := block_lt_of_cell c3
          have HL3 : Hid (∀ g, (Value.slice p3 l'.length q3).ownBlock = some g → g ≠ w.heap.size ∧ ((Value.slice p l.length q).ownBlock = some g ∨ w.heap.size ≤ g)) := by
            intro g h
            rcases hlie' g h with h2 | h2
            · exact HLi.out g h2
            · exact ⟨by omega, Or.inr (by omega)⟩
          clear ho' hi' hv' hg' hlie' c3
          go_wp2_with fail
          go_roundw
          case rel =>
            repeat' apply Exists.intro
            refine ⟨⟨k + 1, l', p3, q3, by omega, by go_num, rfl, hl', HO3.out, HI3.out, HX3.out, HG3.out, c3', HL3.out⟩, ?_⟩
            rw [hl1]
            exact rfl
          case measure => simp [intOf]; omega
        · have b4 : decide ((l2.length : Int) ≤ 400) = false := decide_eq_false (by omega)
          have HV : Hid (vs l2 = (vs l ++ preE (.mk o n s t) root).take 401) := by
            show _ = _
            have hx := HX.out
            rw [HPre.out, preEs_split t k, ← List.cons_append, ← List.append_assoc, take_full (by rw [← hx, vs_len]; omega)]
            exact hx
          go_wp2_with fail
          go_ret
          exact ⟨_, l2, rfl, HO2.out, HI2.out, HV.out, HG.out, fun g h => (HLi.out g h).2⟩
      · have HV : Hid (vs l2 = (vs l ++ preE (.mk o n s t) root).take 401) := by
          show _ = _
          have hx := HX.out
          rw [show t.take k = t from List.take_of_length_le (by omega)] at hx
          rw [HPre.out]
          exact hx
        go_wp2_with fail
        go_ret
        exact ⟨_, l2, rfl, HO2.out, HI2.out, HV.out, HG.out, fun g h => (HLi.out g h).2⟩
end Go.Proofs.YtkjefigebdbkaaaDoor.A
namespace Go.Proofs.YtkjefigebdbkaaaDoor.A
open Go.RowKit
open L (Str isName prt size_len below_2 below_box ret_bool ret_int eql_eq bytes_eq)

/-- a number counted up to a bound: exact up to it, beyond it if there are more -/
structure Cnt (x : Nat) (m r : Int) : Prop where
  pos : 0 ≤ r
  le : r ≤ x
  eq : (x : Int) ≤ m → r = x
  gt : m < x → m < r
  top : r ≤ max m 0 + 100000000000000
theorem cEs_take {l : List Ex} {k : Nat} (h : k < l.length) : cEs (l.take (k + 1)) = cEs (l.take k) + cE l[k] := by
  induction l generalizing k with
  | nil => cases h
  | cons e l ih =>
    cases k with
    | zero => simp [cEs]
    | succ k =>
      have := ih (k := k) (by simpa using h)
      simp only [List.take_succ_cons, cEs, List.getElem_cons_succ] at this ⊢
      omega
theorem cEs_le (l : List Ex) (k : Nat) : cEs (l.take k) ≤ cEs l := by
  induction l generalizing k with
  | nil => simp
  | cons e l ih =>
    cases k with
    | zero => simp [cEs]
    | succ k =>
      have := ih k
      simp only [List.take_succ_cons, cEs] at this ⊢
      omega
set_option maxHeartbeats 4000000 in
set_option maxRecDepth 100000 in
theorem rcount_any : ∀ (e : Ex) (a : Option Addr) (c : Nat) (m : Int), -100000000000000000 ≤ m → m ≤ 1000000 → okE e → ∀ w : World, Kids w a e.args →
    Calls Tryd.prog 45 #[exV e a c, .int .i64 m] w fun e' w' => (∃ r : Int, e' = .returned (.int .i64 r) ∧ Cnt (cE e) m r) ∧ Below w.heap.size w w' := by
  refine Ex.ind (P := fun e => ∀ (a : Option Addr) (c : Nat) (m : Int), -100000000000000000 ≤ m → m ≤ 1000000 → okE e → ∀ w : World, Kids w a e.args →
    Calls Tryd.prog 45 #[exV e a c, .int .i64 m] w fun e' w' => (∃ r : Int, e' = .returned (.int .i64 r) ∧ Cnt (cE e) m r) ∧ Below w.heap.size w w') ?_
  intro o n s l ih a c m hm0 hm1 hok w hK
  obtain ⟨hs, hl, hoks⟩ := okE_open hok
  have HW := Lib.hid (below_box w (exO (.mk o n s l) a c))
  have HBL := Lib.hid (fun w' hb => box_later (w := w) (w' := w') (e := .mk o n s l) (a := a) (c := c) hb)
  have HKK : Hid (Kids w a l) := hK
  have HIH := Lib.hid ih
  have HOK := Lib.hid hoks
  simp only [exV_mk, exO_mk, op_mk, n_mk, s_mk, args_mk] at HW HBL ⊢
  obtain ⟨g, hg⟩ : ∃ g, l.length = g := ⟨_, rfl⟩
  have HL := Lib.hid hg
  have HC : Hid (cE (.mk o n s l) = 1 + s.size / 64 + cEs l) := by show _ = _; rw [cE]
  rw [hg] at HW HBL hl ⊢
  obtain ⟨q, hq⟩ : ∃ q, s.size / 64 = q := ⟨_, rfl⟩
  have hq2 : q ≤ 20000000000000 := by omega
  have hdiv : (s.size : Int).tdiv 64 = (q : Int) := by rw [← hq]; rfl
  have hdiv2 : (s.size : Int) / 64 = (q : Int) := by omega
  rw [hq] at HC
  have HC0 : Hid (Cnt (1 + q + cEs (l.take 0)) m (1 + (q : Int))) := by
    rw [List.take_zero, cEs]
    exact ⟨by omega, by omega, fun _ => by omega, fun h => by omega, by omega⟩
  clear hg hK ih hoks hok hq
  go_enter Tryd.func45, Tryd.ntmps45
  go_wp2_with fail
  go_loopw [5, 6] (fun s5 s6 wr => ∃ (k : Nat) (x : Int), k ≤ g ∧ s6 = .int .i64 k ∧ s5 = .int .i64 x ∧ 0 ≤ x ∧ x ≤ 200000000000000 ∧ Hid (Cnt (1 + q + cEs (l.take k)) m x) ∧ Hid (Below (w.alloc (.cells #[.int .i64 o, .int .i64 n, .string s, .slice a g c] 46)).heap.size (w.alloc (.cells #[.int .i64 o, .int .i64 n, .string s, .slice a g c] 46)) wr)) (fun _ s6 _ => g - (intOf s6).toNat)
  case atStart => exact ⟨0, 1 + (q : Int), Nat.zero_le _, rfl, by go_num, by omega, by omega, HC0, Below.refl _ _⟩
  case round =>
    obtain ⟨k, x, hk, rfl, rfl, hx0, hx1, HX, HB⟩ := hrel
    obtain ⟨c0, c1, c2, c3⟩ := HBL.out _ HB.out
    have HBB := Lib.hid (below_2 HW.out HB.out)
    have hcl := cEs_le l k
    by_cases hlt : k < g
    · by_cases hxm : x ≤ m
      · have hlx : k < l.length := by rw [HL.out]; exact hlt
        have hT := cEs_take hlx
        obtain ⟨b2, i2, rfl, hat⟩ := (HKK.out.below HBB.out).open hlx
        obtain ⟨d0, d1, d2, a2, cc, d3, hk2⟩ := hat.open
        have HCC := Lib.hid (HIH.out k hlx a2 cc (m - x) (by omega) (by omega) (HOK.out.get k hlx) _ hk2)
        have HT := Lib.hid hT
        clear hat hk2 hT hcl
        unfold exV at HCC
        generalize cE l[k] = y at HCC HT
        generalize l[k].args.length = m2 at d3 HCC
        generalize l[k].op = o2 at d0 HCC
        generalize l[k].n = n2 at d1 HCC
        generalize l[k].s = s2 at d2 HCC
        have bx : decide (x ≤ m) = true := decide_eq_true hxm
        go_wp2_with fail
        refine HCC.out.mono ?_; rintro e w2 ⟨⟨r, rfl, hr⟩, hb2⟩
        have h1 := hr.pos
        have h2 := hr.top
        have HN : Hid (Cnt (1 + q + cEs (l.take (k + 1))) m (x + r)) := by
          have hc := HX.out
          have hs := hc.eq (by apply Decidable.byContradiction; intro h; have := hc.gt (by omega); omega)
          have g1 := hr.le
          have g2 := hr.eq
          have g3 := hr.gt
          rw [HT.out]
          exact ⟨by omega, by omega, fun h => by have := g2 (by omega); omega, fun h => by have := g3 (by omega); omega, by omega⟩
        have hxr : x + r ≤ 200000000000000 := by omega
        clear hr
        go_wp2_with fail
        go_roundw
        case rel => exact ⟨k + 1, x + r, by omega, by go_num, by go_num, by omega, hxr, HN, below_2 HB.out hb2⟩
        case measure => simp [intOf]; omega
      · have HV : Hid (Cnt (cE (.mk o n s l)) m x) := by
          have hc := HX.out
          have h1 := hc.le
          have h2 := hc.top
          rw [HC.out]
          exact ⟨hx0, by omega, fun h => by omega, fun _ => by omega, h2⟩
        have bx : decide (x ≤ m) = false := decide_eq_false hxm
        clear hcl
        go_wp2_with fail
        go_ret
        exact ⟨⟨x, rfl, HV.out⟩, HBB.out⟩
    · have HV : Hid (Cnt (cE (.mk o n s l)) m x) := by
        have hc := HX.out
        rw [List.take_of_length_le (by rw [HL.out]; omega), ← HC.out] at hc
        exact hc
      clear hcl
      go_wp2_with fail
      go_ret
      exact ⟨⟨x, rfl, HV.out⟩, HBB.out⟩
end Go.Proofs.YtkjefigebdbkaaaDoor.A
namespace Go.Proofs.YtkjefigebdbkaaaDoor.A
open Go.RowKit
open L (Str isName prt size_len below_2 below_box ret_bool ret_int eql_eq bytes_eq)

theorem bytes_dec (a b : ByteArray) : (a.toList == b.toList) = decide (a = b) := by
  rw [eql_eq]
  exact decide_eq_decide.2 ⟨fun h => bytes_eq h, fun h => by rw [h]⟩
end Go.Proofs.YtkjefigebdbkaaaDoor.A
