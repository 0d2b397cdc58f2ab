/-
  Visits appended; what walkExpr of the reference of layer 8 returns.
  What the reference of layer 8 returns: countExpr, SmallExpr, EqualExpr: contracts by induction on the tree.
  What the reference of layer 8 returns: EqualExpr: its contract, by induction on the tree.
  What the reference of layer 8 returns: countBody, Small: contracts.
  What the reference of layer 8 returns: walkBody, Walk: contracts.
-/
import Derived.Test.YtnelpgeiioflmaaGreatDoorM04
import Derived.Deep.AppendLies
import Derived.Test.YtnelpgeiioflmaaGreatDoorM03
namespace Go.Proofs.YtnelpgeiioflmaaGreatDoor.A
open Go.RowKit
open L (Str isName prt size_len below_2 below_box ret_bool ret_int)

theorem info_v : (Tryz.prog.info? 46).map (fun i => (i.zero, i.size, i.bytes)) = some (some (.agg #[.bool false, .int .i64 0, .string ⟨#[]⟩, .int .i64 0, .int .i64 0, .int .i64 0, .string ⟨#[]⟩, .slice none 0 0, .int .i64 0, .int .i64 0, .string ⟨#[]⟩, .slice none 0 0, .slice none 0 0, .slice none 0 0, .int .i64 0, .int .i64 0, .int .i64 0, .string ⟨#[]⟩, .slice none 0 0, .bool false]), 20, 272) := by kernel_rfl
theorem info_parts3 {o : Option TypeInfo} {a : Option Value} {b c : Nat} (h : o.map (fun i => (i.zero, i.size, i.bytes)) = some (a, b, c)) : ∃ i, o = some i ∧ i.zero = a ∧ i.size = b ∧ i.bytes = c := by
  cases o with
  | none => cases h
  | some i =>
    simp only [Option.map_some, Option.some.injEq, Prod.mk.injEq] at h
    exact ⟨i, rfl, h.1, h.2.1, h.2.2⟩
theorem cells_row (w : World) (t : TypeId) (cs : List Value) : ∀ j u, cs[j]? = some u → (w.alloc (.cells cs.toArray t)).cell? ((⟨w.heap.size, 0, none⟩ : Addr).add j) = some u := by
  intro j u hu
  rw [Addr.add_lit, Nat.zero_add]
  have h1 : (w.alloc (.cells cs.toArray t)).heap[w.heap.size]? = some (.cells cs.toArray t) := by
    show (w.heap.push _)[w.heap.size]? = _
    simp
  rw [cell_of_row _ _ _ _ _ _ h1, ← Array.getElem?_toList]
  exact hu
theorem wpList_append_visit {w : World} {ops : Array Oper} {rest : List Oper} {o : Oper} {a : Act} {Q : Exit → Act → World → Prop} (hgd : o.guard = none) (s x : Operand)
    (ho : o.op = .call { callee := .builtin .append, args := #[s, x], argTypes := #[38, 38] })
    (base : Nat) (v : Value) (l : List VT) (hs : a.eval s = v) (hown : w.ownsRow base 46 20 v l.length (vcs l)) (y : VT) (cs : List Value) (hcs : cs = y.cells)
    (g : Nat) (hx : a.eval x = .slice (some ⟨g, 0, none⟩) 1 1) (hg : g = w.heap.size) (hn : l.length ≤ 1000000) (hbase : base ≤ w.heap.size)
    (h : ∀ g' cap w', w'.ownsRow base 46 20 (.slice (some ⟨g', 0, none⟩) (l.length + 1) cap) (l ++ [y]).length (vcs (l ++ [y])) → (w.alloc (.cells cs.toArray 46)).grownBy w' v.ownBlock → (v.ownBlock = some g' ∨ g' = w.heap.size + 1) → wpList Tryz.prog ops Q rest (a.put o.dst (.slice (some ⟨g', 0, none⟩) (l.length + 1) cap)) w') :
    wpList Tryz.prog ops Q (o :: rest) a (w.alloc (.cells cs.toArray 46)) := by
  subst hg
  obtain ⟨i0, hi, hz0, hz1, hz2⟩ := info_parts3 info_v
  refine wpList_append_lies _ hgd s x 38 ho base 46 i0 _ 20 272 Tryz.underlying38 hi hz0 hz1 hz2 rfl (by decide) v l.length (vcs l) hs (hown.alloc _) ⟨w.heap.size, 0, none⟩ 1 1 cs hx (by rw [hcs, VT.cells_len]) (cells_row _ _ _) (by rw [hcs]; exact one_cellsV y) (by decide) (by unfold maxLen; omega) (by omega) (by simp; omega) (w.heap.size + 1) (by simp) ?_
  intro g' cap w' h1 h2 h3 _
  refine h g' cap w' ?_ h2 h3
  rw [List.length_append, vcs_app, vcs_one, ← hcs]
  exact h1
theorem grown_2 {w w1 w2 : World} {r1 r2 : Option Nat} (h : w.grownBy w1 r1) (h2 : w1.grownBy w2 r2) (hr : ∀ g, r2 = some g → r1 = some g ∨ w.heap.size ≤ g) : w.grownBy w2 r1 :=
  ⟨h2.os.trans h.os, h2.tape.trans h.tape, h2.output.trans h.output, Nat.le_trans h.size h2.size, fun k hk hne => (h2.block k (Nat.lt_of_lt_of_le hk h.size) (fun e => by
    rcases hr k e.symm with h3 | h3
    · exact hne h3.symm
    · omega)).trans (h.block k hk hne)⟩
def GivesW (w0 w : World) (v : Value) (X : List V) (e' : Ending) (w' : World) : Prop :=
  ∃ v' l', e' = .returned v' ∧ w'.ownsRow w0.heap.size 46 20 v' l'.length (vcs l') ∧ (∀ x ∈ l', x.In w0) ∧ vs l' = X.take 401 ∧ w.grownBy w' v.ownBlock ∧ (∀ g, v'.ownBlock = some g → v.ownBlock = some g ∨ w.heap.size ≤ g)
def QW (e : Ex) : Prop := ∀ (w0 : World) (v : Value) (l : List VT) (a : Option Addr) (c : Nat) (root : Bool) (w : World), okE e → Kids w0 a e.args → Below w0.heap.size w0 w → w.ownsRow w0.heap.size 46 20 v l.length (vcs l) → (∀ x ∈ l, x.In w0) → l.length ≤ 401 →
    Calls Tryz.prog 75 #[v, exV e a c, .bool root] w fun e' w' => GivesW w0 w v (vs l ++ preE e root) e' w'
theorem vs_len (l : List VT) : (vs l).length = l.length := List.length_map _
theorem vs_app (a b : List VT) : vs (a ++ b) = vs a ++ vs b := List.map_append
set_option maxHeartbeats 4000000 in
set_option maxRecDepth 100000 in
theorem rwalkExpr_any : ∀ e, QW e := by
  refine Ex.ind (P := QW) ?_
  intro o n s t ih w0 v l a c root w hok hK hb0 hown hin hlen
  obtain ⟨hs, hl, hoks⟩ := okE_open hok
  have hz0 := hb0.size
  obtain ⟨p, q, hv⟩ : ∃ p q, v = .slice p l.length q := by
    rcases hown.2 with ⟨hv, h0⟩ | ⟨g, cap, cur, hv, _⟩
    · exact ⟨none, 0, by rw [hv, h0]⟩
    · exact ⟨_, cap, hv⟩
  by_cases hfull : 400 < l.length
  · have HV : Hid (vs l = (vs l ++ preE (.mk o n s t) root).take 401) := by
      show _ = _
      rw [List.take_append_of_le_length (by rw [vs_len]; omega), List.take_of_length_le (by rw [vs_len]; omega)]
    have HO := Lib.hid hown
    have HI := Lib.hid hin
    subst hv
    simp only [exV_mk]
    clear hown hin ih hoks hok hK
    go_enter Tryz.func75, Tryz.ntmps75
    go_wp2_with fail
    go_ret
    exact ⟨_, l, rfl, HO.out.alloc _, HI.out, HV.out, World.grownBy_alloc _ _ _, fun g h => Or.inl h⟩
  · have HO := Lib.hid hown
    have HI := Lib.hid hin
    have HIH := Lib.hid ih
    have HOK := Lib.hid hoks
    have HK : Hid (Kids w0 a t) := hK
    have HB0 := Lib.hid hb0
    have HBL := Lib.hid (exO_cells w (.mk o n s t) a c)
    have HIn : Hid (VT.In w0 (.ex (.mk o n s t) root a c)) := hK
    have HLt := Lib.hid (fun g h => (World.ownsRow.lt hown g h).2)
    subst hv
    simp only [exV_mk, exO_mk, op_mk, n_mk, s_mk, args_mk] at HBL ⊢
    clear hown hin ih hoks hok hK
    go_enter Tryz.func75, Tryz.ntmps75
    go_wp2_with (at_builtin; refine wpList_append_visit rfl (.tmp 12) (.tmp 16) rfl w0.heap.size (.slice p l.length q) l rfl (HO.out.alloc _) (.ex (.mk o n s t) root a c) _ rfl (w.heap.size + 1) rfl (by simp) (by omega) (by simp; omega) ?_; intro g1 cap1 w1 hown1 hgrow1 hlie1)
    have HO1 := Lib.hid hown1
    have hsz1 := hgrow1.size
    have HG1 : Hid (w.grownBy w1 (Value.slice p l.length q).ownBlock) := grown_2 (grown_2 (World.grownBy_alloc w _ _) (World.grownBy_alloc _ _ (Value.slice p l.length q).ownBlock) (fun g h => Or.inl h)) hgrow1 (fun g h => Or.inl h)
    have hne0 : (Value.slice p l.length q).ownBlock ≠ some w.heap.size := fun h => Nat.lt_irrefl _ (HLt.out _ h)
    have HC1 : Hid (w1.cell? ⟨w.heap.size, 3, none⟩ = some (.slice a t.length c)) := by
      have h3 := HBL.out.2.2.2
      have h4 := (World.grownBy_alloc _ (.cells (VT.ex (.mk o n s t) root a c).cells.toArray 46) (Value.slice p l.length q).ownBlock).cell h3 (fun h => hne0 h.symm)
      exact hgrow1.cell h4 (fun h => hne0 h.symm)
    have HL1 : Hid ((Value.slice p l.length q).ownBlock = some g1 ∨ w.heap.size ≤ g1) := by
      rcases hlie1 with h | h
      · exact Or.inl h
      · right; rw [h]; exact Nat.le_succ_of_le (below_box w _).size
    have HN1 : Hid (g1 ≠ w.heap.size) := by
      rcases hlie1 with h | h
      · exact fun e => hne0 (by rw [h, e])
      · rw [h]; exact Nat.ne_of_gt (Nat.lt_succ_of_le (below_box w _).size)
    have HV1 : Hid (vs (l ++ [VT.ex (.mk o n s t) root a c]) = (vs l ++ (.ex (.mk o n s t) root :: preEs (t.take 0))).take 401) := by
      show _ = _
      rw [vs_app, List.take_zero, preEs, List.take_of_length_le]
      · rfl
      · rw [List.length_append, vs_len]; simp; omega
    have HIn1 : Hid (∀ x ∈ l ++ [VT.ex (.mk o n s t) root a c], x.In w0) := by
      intro x hx
      rcases List.mem_append.1 hx with h | h
      · exact HI.out x h
      · rw [List.mem_singleton] at h; rw [h]; exact HIn.out
    have hl1 : (l ++ [VT.ex (.mk o n s t) root a c]).length = l.length + 1 := by simp
    obtain ⟨l1, hl1e⟩ : ∃ l1, l ++ [VT.ex (.mk o n s t) root a c] = l1 := ⟨_, rfl⟩
    rw [hl1e] at hl1 HO1 HV1 HIn1
    have HPre : Hid (preE (.mk o n s t) root = .ex (.mk o n s t) root :: preEs t) := by show _ = _; rw [preE]
    have HBv : Hid (∀ g, (Value.slice p l.length q).ownBlock = some g → w0.heap.size ≤ g) := fun g h => (World.ownsRow.lt HO.out g h).1
    rw [← hl1]
    clear hown1 hgrow1 hlie1 hl1e hne0 HBL
    go_wp2_with fail
    go_loopw [0, 7] (fun v0 i wr => ∃ (k : Nat) (l2 : List VT) (p2 : Option Addr) (q2 : Nat), k ≤ t.length ∧ i = .int .i64 k ∧ v0 = .slice p2 l2.length q2 ∧ l2.length ≤ 401 ∧ Hid (wr.ownsRow w0.heap.size 46 20 (.slice p2 l2.length q2) l2.length (vcs l2)) ∧ Hid (∀ x ∈ l2, x.In w0) ∧ Hid (vs l2 = (vs l ++ (.ex (.mk o n s t) root :: preEs (t.take k))).take 401) ∧ Hid (w.grownBy wr (Value.slice p l.length q).ownBlock) ∧ wr.cell? ⟨w.heap.size, 3, none⟩ = some (.slice a t.length c) ∧ Hid (∀ g, (Value.slice p2 l2.length q2).ownBlock = some g → g ≠ w.heap.size ∧ ((Value.slice p l.length q).ownBlock = some g ∨ w.heap.size ≤ g))) (fun _ i _ => t.length - (intOf i).toNat)
    case atStart => exact ⟨0, l1, some ⟨g1, 0, none⟩, cap1, Nat.zero_le _, rfl, rfl, by omega, (by rw [hl1]; rw [hl1] at HO1; exact HO1.out), HIn1.out, HV1.out, HG1.out, HC1.out, fun g h => by cases h; exact ⟨HN1.out, HL1.out⟩⟩
    case round =>
      obtain ⟨k, l2, p2, q2, hk, rfl, rfl, hl2, HO2, HI2, HX, HG, c3, HLi⟩ := hrel
      have HBB : Hid (Below w0.heap.size w0 wr) := HB0.out.grown HG.out hz0 HBv.out
      by_cases hlx : k < t.length
      · by_cases h400 : l2.length ≤ 400
        · have b4 : decide ((l2.length : Int) ≤ 400) = true := decide_eq_true (by omega)
          obtain ⟨b2, i2, rfl, hat⟩ := HK.out.open hlx
          obtain ⟨d0, d1, d2, a2, cc, d3, hk2⟩ := hat.open
          have hblt := hat.lt
          have f0 := (HBB.out.cell hblt).trans d0
          have f1 := (HBB.out.cell hblt).trans d1
          have f2 := (HBB.out.cell hblt).trans d2
          have f3 := (HBB.out.cell hblt).trans d3
          have HC := Lib.hid (HIH.out k hlx w0 (.slice p2 l2.length q2) l2 a2 cc false wr (HOK.out.get k hlx) hk2 HBB.out HO2.out HI2.out hl2)
          have HT := Lib.hid (preEs_take hlx)
          clear hat hk2 d0 d1 d2 d3 hblt
          generalize preE t[k] false = Y at HC HT
          unfold exV at HC
          generalize t[k].args.length = m2 at f3 HC
          generalize t[k].op = o2 at f0 HC
          generalize t[k].n = n2 at f1 HC
          generalize t[k].s = s2 at f2 HC
          go_wp2_with fail
          refine HC.out.mono ?_; rintro e w2 ⟨v', l', rfl, ho', hi', hv', hg', hlie'⟩
          obtain ⟨p3, q3, rfl⟩ : ∃ p q, v' = .slice p l'.length q := by
            rcases ho'.2 with ⟨hv, h0⟩ | ⟨g, cap, cur, hv, _⟩
            · exact ⟨none, 0, by rw [hv, h0]⟩
            · exact ⟨_, cap, hv⟩
          have hl' : l'.length ≤ 401 := by
            have := congrArg List.length hv'
            rw [vs_len, List.length_take] at this
            omega
          have HO3 := Lib.hid ho'
          have HI3 := Lib.hid hi'
          have HX3 : Hid (vs l' = (vs l ++ (.ex (.mk o n s t) root :: preEs (t.take (k + 1)))).take 401) := by
            show _ = _
            rw [hv', HX.out, take_take_app, HT.out, List.append_assoc, List.cons_append]
          have HG3 : Hid (w.grownBy w2 (Value.slice p l.length q).ownBlock) := grown_2 HG.out hg' (fun g h => (HLi.out g h).2)
          have c3' : w2.cell? ⟨w.heap.size, 3, none⟩ = some (.slice (some ⟨b2, i2, none⟩) t.length c) := hg'.cell c3 (fun h => (HLi.out _ h.symm).1 rfl)
          have hwr : w.heap.size < wr.heap.size := block_lt_of_cell c3
          have HL3 : Hid (∀ g, (Value.slice p3 l'.length q3).ownBlock = some g → g ≠ w.heap.size ∧ ((Value.slice p l.length q).ownBlock = some g ∨ w.heap.size ≤ g)) := by
            intro g h
            rcases hlie' g h with h2 | h2
            · exact HLi.out g h2
            · exact ⟨by omega, Or.inr (by omega)⟩
          clear ho' hi' hv' hg' hlie' c3
          go_wp2_with fail
          go_roundw
          case rel =>
            repeat' apply Exists.intro
            refine ⟨⟨k + 1, l', p3, q3, by omega, by go_num, rfl, hl', HO3.out, HI3.out, HX3.out, HG3.out, c3', HL3.out⟩, ?_⟩
            rw [hl1]
            exact rfl
          case measure => simp [intOf]; omega
        · have b4 : decide ((l2.length : Int) ≤ 400) = false := decide_eq_false (by omega)
          have HV : Hid (vs l2 = (vs l ++ preE (.mk o n s t) root).take 401) := by
            show _ = _
            have hx := HX.out
            rw [HPre.out, preEs_split t k, ← List.cons_append, ← List.append_assoc, take_full (by rw [← hx, vs_len]; omega)]
            exact hx
          go_wp2_with fail
          go_ret
          exact ⟨_, l2, rfl, HO2.out, HI2.out, HV.out, HG.out, fun g h => (HLi.out g h).2⟩
      · have HV : Hid (vs l2 = (vs l ++ preE (.mk o n s t) root).take 401) := by
          show _ = _
          have hx := HX.out
          rw [show t.take k = t from List.take_of_length_le (by omega)] at hx
          rw [HPre.out]
          exact hx
        go_wp2_with fail
        go_ret
        exact ⟨_, l2, rfl, HO2.out, HI2.out, HV.out, HG.out, fun g h => (HLi.out g h).2⟩
end Go.Proofs.YtnelpgeiioflmaaGreatDoor.A
namespace Go.Proofs.YtnelpgeiioflmaaGreatDoor.A
open Go.RowKit
open L (Str isName prt size_len below_2 below_box ret_bool ret_int eql_eq bytes_eq)

structure Cnt (x : Nat) (m r : Int) : Prop where
  pos : 0 ≤ r
  le : r ≤ x
  eq : (x : Int) ≤ m → r = x
  gt : m < x → m < r
  top : r ≤ max m 0 + 100000000000000
theorem cEs_take {l : List Ex} {k : Nat} (h : k < l.length) : cEs (l.take (k + 1)) = cEs (l.take k) + cE l[k] := by
  induction l generalizing k with
  | nil => cases h
  | cons e l ih =>
    cases k with
    | zero => simp [cEs]
    | succ k =>
      have := ih (k := k) (by simpa using h)
      simp only [List.take_succ_cons, cEs, List.getElem_cons_succ] at this ⊢
      omega
theorem cEs_le (l : List Ex) (k : Nat) : cEs (l.take k) ≤ cEs l := by
  induction l generalizing k with
  | nil => simp
  | cons e l ih =>
    cases k with
    | zero => simp [cEs]
    | succ k =>
      have := ih k
      simp only [List.take_succ_cons, cEs] at this ⊢
      omega
set_option maxHeartbeats 4000000 in
set_option maxRecDepth 100000 in
theorem rcount_any : ∀ (e : Ex) (a : Option Addr) (c : Nat) (m : Int), -100000000000000000 ≤ m → m ≤ 1000000 → okE e → ∀ w : World, Kids w a e.args →
    Calls Tryz.prog 54 #[exV e a c, .int .i64 m] w fun e' w' => (∃ r : Int, e' = .returned (.int .i64 r) ∧ Cnt (cE e) m r) ∧ Below w.heap.size w w' := by
  refine Ex.ind (P := fun e => ∀ (a : Option Addr) (c : Nat) (m : Int), -100000000000000000 ≤ m → m ≤ 1000000 → okE e → ∀ w : World, Kids w a e.args →
    Calls Tryz.prog 54 #[exV e a c, .int .i64 m] w fun e' w' => (∃ r : Int, e' = .returned (.int .i64 r) ∧ Cnt (cE e) m r) ∧ Below w.heap.size w w') ?_
  intro o n s l ih a c m hm0 hm1 hok w hK
  obtain ⟨hs, hl, hoks⟩ := okE_open hok
  have HW := Lib.hid (below_box w (exO (.mk o n s l) a c))
  have HBL := Lib.hid (fun w' hb => box_later (w := w) (w' := w') (e := .mk o n s l) (a := a) (c := c) hb)
  have HKK : Hid (Kids w a l) := hK
  have HIH := Lib.hid ih
  have HOK := Lib.hid hoks
  simp only [exV_mk, exO_mk, op_mk, n_mk, s_mk, args_mk] at HW HBL ⊢
  obtain ⟨g, hg⟩ : ∃ g, l.length = g := ⟨_, rfl⟩
  have HL := Lib.hid hg
  have HC : Hid (cE (.mk o n s l) = 1 + s.size / 64 + cEs l) := by show _ = _; rw [cE]
  rw [hg] at HW HBL hl ⊢
  obtain ⟨q, hq⟩ : ∃ q, s.size / 64 = q := ⟨_, rfl⟩
  have hq2 : q ≤ 20000000000000 := by omega
  have hdiv : (s.size : Int).tdiv 64 = (q : Int) := by rw [← hq]; rfl
  have hdiv2 : (s.size : Int) / 64 = (q : Int) := by omega
  rw [hq] at HC
  have HC0 : Hid (Cnt (1 + q + cEs (l.take 0)) m (1 + (q : Int))) := by
    rw [List.take_zero, cEs]
    exact ⟨by omega, by omega, fun _ => by omega, fun h => by omega, by omega⟩
  clear hg hK ih hoks hok hq
  go_enter Tryz.func54, Tryz.ntmps54
  go_wp2_with fail
  go_loopw [5, 6] (fun s5 s6 wr => ∃ (k : Nat) (x : Int), k ≤ g ∧ s6 = .int .i64 k ∧ s5 = .int .i64 x ∧ 0 ≤ x ∧ x ≤ 200000000000000 ∧ Hid (Cnt (1 + q + cEs (l.take k)) m x) ∧ Hid (Below (w.alloc (.cells #[.int .i64 o, .int .i64 n, .string s, .slice a g c] 42)).heap.size (w.alloc (.cells #[.int .i64 o, .int .i64 n, .string s, .slice a g c] 42)) wr)) (fun _ s6 _ => g - (intOf s6).toNat)
  case atStart => exact ⟨0, 1 + (q : Int), Nat.zero_le _, rfl, by go_num, by omega, by omega, HC0, Below.refl _ _⟩
  case round =>
    obtain ⟨k, x, hk, rfl, rfl, hx0, hx1, HX, HB⟩ := hrel
    obtain ⟨c0, c1, c2, c3⟩ := HBL.out _ HB.out
    have HBB := Lib.hid (below_2 HW.out HB.out)
    have hcl := cEs_le l k
    by_cases hlt : k < g
    · by_cases hxm : x ≤ m
      · have hlx : k < l.length := by rw [HL.out]; exact hlt
        have hT := cEs_take hlx
        obtain ⟨b2, i2, rfl, hat⟩ := (HKK.out.below HBB.out).open hlx
        obtain ⟨d0, d1, d2, a2, cc, d3, hk2⟩ := hat.open
        have HCC := Lib.hid (HIH.out k hlx a2 cc (m - x) (by omega) (by omega) (HOK.out.get k hlx) _ hk2)
        have HT := Lib.hid hT
        clear hat hk2 hT hcl
        unfold exV at HCC
        generalize cE l[k] = y at HCC HT
        generalize l[k].args.length = m2 at d3 HCC
        generalize l[k].op = o2 at d0 HCC
        generalize l[k].n = n2 at d1 HCC
        generalize l[k].s = s2 at d2 HCC
        have bx : decide (x ≤ m) = true := decide_eq_true hxm
        go_wp2_with fail
        refine HCC.out.mono ?_; rintro e w2 ⟨⟨r, rfl, hr⟩, hb2⟩
        have h1 := hr.pos
        have h2 := hr.top
        have HN : Hid (Cnt (1 + q + cEs (l.take (k + 1))) m (x + r)) := by
          have hc := HX.out
          have hs := hc.eq (by apply Decidable.byContradiction; intro h; have := hc.gt (by omega); omega)
          have g1 := hr.le
          have g2 := hr.eq
          have g3 := hr.gt
          rw [HT.out]
          exact ⟨by omega, by omega, fun h => by have := g2 (by omega); omega, fun h => by have := g3 (by omega); omega, by omega⟩
        have hxr : x + r ≤ 200000000000000 := by omega
        clear hr
        go_wp2_with fail
        go_roundw
        case rel => exact ⟨k + 1, x + r, by omega, by go_num, by go_num, by omega, hxr, HN, below_2 HB.out hb2⟩
        case measure => simp [intOf]; omega
      · have HV : Hid (Cnt (cE (.mk o n s l)) m x) := by
          have hc := HX.out
          have h1 := hc.le
          have h2 := hc.top
          rw [HC.out]
          exact ⟨hx0, by omega, fun h => by omega, fun _ => by omega, h2⟩
        have bx : decide (x ≤ m) = false := decide_eq_false hxm
        clear hcl
        go_wp2_with fail
        go_ret
        exact ⟨⟨x, rfl, HV.out⟩, HBB.out⟩
    · have HV : Hid (Cnt (cE (.mk o n s l)) m x) := by
        have hc := HX.out
        rw [List.take_of_length_le (by rw [HL.out]; omega), ← HC.out] at hc
        exact hc
      clear hcl
      go_wp2_with fail
      go_ret
      exact ⟨⟨x, rfl, HV.out⟩, HBB.out⟩
end Go.Proofs.YtnelpgeiioflmaaGreatDoor.A
namespace Go.Proofs.YtnelpgeiioflmaaGreatDoor.A
open Go.RowKit
open L (Str isName prt size_len below_2 below_box ret_bool ret_int eql_eq bytes_eq)

theorem bytes_dec (a b : ByteArray) : (a.toList == b.toList) = decide (a = b) := by
  rw [eql_eq]
  exact decide_eq_decide.2 ⟨fun h => bytes_eq h, fun h => by rw [h]⟩
end Go.Proofs.YtnelpgeiioflmaaGreatDoor.A
namespace Go.Proofs.YtnelpgeiioflmaaGreatDoor.A
open Go.RowKit
open L (Str isName prt size_len below_2 below_box ret_bool ret_int eql_eq bytes_eq)

structure Core (x : Nat) (m r : Int) : Prop where
  pos : 0 ≤ r
  le : r ≤ x
  eq : (x : Int) ≤ m → r = x
  gt : m < x → m < r
theorem Cnt.core {x : Nat} {m r : Int} (h : Cnt x m r) : Core x m r := ⟨h.pos, h.le, h.eq, h.gt⟩
theorem Core.add {x y : Nat} {m n r : Int} (h : Core x m n) (h2 : Core y (m - n) r) : Core (x + y) m (n + r) := by
  obtain ⟨a1, a2, a3, a4⟩ := h
  obtain ⟨b1, b2, b3, b4⟩ := h2
  refine ⟨by omega, by omega, fun h => ?_, fun h => ?_⟩
  · have := a3 (by omega); have := b3 (by omega); omega
  · by_cases hx : (x : Int) ≤ m
    · have := a3 hx; have := b4 (by omega); omega
    · have := a4 (by omega); omega
theorem Core.plus {x y : Nat} {m n : Int} (h : Core x m n) (hn : n ≤ m) : Core (x + y) m (n + y) := by
  obtain ⟨a1, a2, a3, a4⟩ := h
  have : n = x := a3 (by apply Decidable.byContradiction; intro hx; have := a4 (by omega); omega)
  exact ⟨by omega, by omega, fun h => by omega, fun h => by omega⟩
theorem cS_parts (s : St) : cS s = 1 + s.name.size / 64 + cE s.a + cE s.b + cB s.body + cB s.els := by
  obtain ⟨o, nm, mx, a, b, bd, el⟩ := s
  rw [cS]; rfl
theorem cB_take {l : List St} {k : Nat} (h : k < l.length) : cB (l.take (k + 1)) = cB (l.take k) + cS l[k] := by
  induction l generalizing k with
  | nil => cases h
  | cons e l ih =>
    cases k with
    | zero => simp [cB]
    | succ k =>
      have := ih (k := k) (by simpa using h)
      simp only [List.take_succ_cons, cB, List.getElem_cons_succ] at this ⊢
      omega
theorem cB_le (l : List St) (k : Nat) : cB (l.take k) ≤ cB l := by
  induction l generalizing k with
  | nil => simp
  | cons e l ih =>
    cases k with
    | zero => simp [cB]
    | succ k =>
      have := ih k
      simp only [List.take_succ_cons, cB] at this ⊢
      omega
structure CntB (x : Nat) (m r : Int) : Prop where
  core : Core x m r
  top : r ≤ max m 0 + 300000000000000
  none : m < 0 → r = 0
def QC (l : List St) : Prop := ∀ (a : Option Addr) (c : Nat) (m : Int), -10000000000000000 ≤ m → m ≤ 1000000 → l.length ≤ 1000000000000000 → okB l → ∀ w : World, Bodies w a l →
    Calls Tryz.prog 29 #[.slice a l.length c, .int .i64 m] w fun e' w' => (∃ r : Int, e' = .returned (.int .i64 r) ∧ CntB (cB l) m r) ∧ Below w.heap.size w w'
set_option maxHeartbeats 8000000 in
set_option maxRecDepth 100000 in
theorem rcountBody_any : ∀ l, QC l := by
  refine body_ind fun l ih => ?_
  intro a c m hm0 hm1 hl hok w hK
  have HKK : Hid (Bodies w a l) := hK
  have HIH := Lib.hid ih
  have HOK := Lib.hid hok
  obtain ⟨g, hg⟩ : ∃ g, l.length = g := ⟨_, rfl⟩
  have HL := Lib.hid hg
  rw [hg] at hl ⊢
  have HC0 : Hid (m < 0 ∨ Core (cB (l.take 0)) m 0) := by
    rw [List.take_zero, cB]
    by_cases h : m < 0
    · exact Or.inl h
    · exact Or.inr ⟨by omega, by omega, fun _ => rfl, fun h => by omega⟩
  clear hg hK ih hok
  go_enter Tryz.func29, Tryz.ntmps29
  go_wp2_with fail
  go_loopw [5, 6] (fun s5 s6 wr => ∃ (k : Nat) (x : Int), k ≤ g ∧ s6 = .int .i64 k ∧ s5 = .int .i64 x ∧ 0 ≤ x ∧ x ≤ max m 0 + 300000000000000 ∧ (m < 0 → x = 0) ∧ Hid (m < 0 ∨ Core (cB (l.take k)) m x) ∧ Below w.heap.size w wr) (fun _ s6 _ => g - (intOf s6).toNat)
  case atStart => exact ⟨0, 0, Nat.zero_le _, rfl, rfl, by omega, by omega, fun _ => rfl, HC0, Below.refl _ _⟩
  case round =>
    obtain ⟨k, x, hk, rfl, rfl, hx0, hx1, hxn, HX, hb⟩ := hrel
    have hcl := cB_le l k
    by_cases hlt : k < g
    · by_cases hxm : x ≤ m
      · have hm : 0 ≤ m := by omega
        have hX : Core (cB (l.take k)) m x := HX.out.resolve_left (by omega)
        have hlx : k < l.length := by rw [HL.out]; exact hlt
        have hT := cB_take hlx
        rw [cS_parts] at hT
        obtain ⟨b2, i2, rfl, hat⟩ := (HKK.out.below hb).open hlx
        have ho := okS_open (HOK.out.get k hlx)
        obtain ⟨q1, q2⟩ := HIH.out k hlx
        generalize l[k] = s at hat hT ho q1 q2
        obtain ⟨a1, c1, a2, c2, a3, c3, a4, c4, hcs, hks⟩ := hat.open
        have HE1 := Lib.hid (fun m hm0 hm1 w hK => rcount_any s.a a1 c1 m hm0 hm1 ho.a w hK)
        have HE2 := Lib.hid (fun m hm0 hm1 w hK => rcount_any s.b a2 c2 m hm0 hm1 ho.b w hK)
        have HQ1 := Lib.hid (fun m hm0 hm1 w hK => q1 a3 c3 m hm0 hm1 ho.bodyLen ho.body w hK)
        have HQ2 := Lib.hid (fun m hm0 hm1 w hK => q2 a4 c4 m hm0 hm1 ho.elsLen ho.els w hK)
        have HCs := Lib.hid hcs
        have HKs := Lib.hid hks
        obtain ⟨k0, k1, k2, k3, k4, k5, k6, k7, k8, k9, k10, k11, k12⟩ := hcs
        have hnm := ho.name
        obtain ⟨q, hq⟩ : ∃ q, s.name.size / 64 = q := ⟨_, rfl⟩
        have hq2 : q ≤ 20000000000000 := by omega
        have hdiv : (s.name.size : Int).tdiv 64 = (q : Int) := by rw [← hq]; rfl
        have hdiv2 : (s.name.size : Int) / 64 = (q : Int) := by omega
        rw [hq] at hT
        have HX1 : Hid (Core (cB (l.take k) + (1 + q)) m (x + 1 + (q : Int))) := by
          have := hX.plus (y := 1 + q) hxm
          rwa [show x + ((1 + q : Nat) : Int) = x + 1 + (q : Int) by omega] at this
        have HT := Lib.hid hT
        have bx : decide (x ≤ m) = true := decide_eq_true hxm
        unfold exV at HE1 HE2
        have hx1m : x ≤ 1000000 := by omega
        clear hX hT hat q1 q2 ho hq hcl hks hx1 hxn
        go_wp2_with fail
        refine (HE1.out (m - (x + 1 + (q : Int))) (by omega) (by omega) _ HKs.out.a).mono ?_; rintro e w1 ⟨⟨r1, rfl, hr1⟩, hb1⟩
        have HR1 := Lib.hid hr1.core
        have p1 := hr1.pos
        have t1 := hr1.top
        clear hr1 k0 k1 k2 k3 k4 k5 k6 k7 k8 k9 k10 k11 k12
        have HB1 := Lib.hid hb1
        obtain ⟨k0, k1, k2, k3, k4, k5, k6, k7, k8, k9, k10, k11, k12⟩ := HCs.out.below hb1
        clear hb1
        go_wp2_with fail
        refine (HE2.out (m - (x + 1 + (q : Int) + r1)) (by omega) (by omega) _ (HKs.out.below HB1.out).b).mono ?_; rintro e w2 ⟨⟨r2, rfl, hr2⟩, hb2⟩
        have HR2 := Lib.hid hr2.core
        have p2 := hr2.pos
        have t2 := hr2.top
        clear hr2 k0 k1 k2 k3 k4 k5 k6 k7 k8 k9 k10 k11 k12
        have HB2 := Lib.hid (below_2 HB1.out hb2)
        obtain ⟨k0, k1, k2, k3, k4, k5, k6, k7, k8, k9, k10, k11, k12⟩ := HCs.out.below HB2.out
        clear hb2
        go_wp2_with fail
        refine (HQ1.out (m - (x + 1 + (q : Int) + r1 + r2)) (by omega) (by omega) _ (HKs.out.below HB2.out).body).mono ?_; rintro e w3 ⟨⟨r3, rfl, hr3⟩, hb3⟩
        have HR3 := Lib.hid hr3.core
        have p3 := hr3.core.pos
        have t3 := hr3.top
        have u3 : x + 1 + (q : Int) + r1 + r2 + r3 ≤ m + 300000000000000 := by
          by_cases h : m - (x + 1 + (q : Int) + r1 + r2) < 0
          · have := hr3.none h; omega
          · omega
        clear hr3 t3 k0 k1 k2 k3 k4 k5 k6 k7 k8 k9 k10 k11 k12
        have HB3 := Lib.hid (below_2 HB2.out hb3)
        obtain ⟨k0, k1, k2, k3, k4, k5, k6, k7, k8, k9, k10, k11, k12⟩ := HCs.out.below HB3.out
        clear hb3
        go_wp2_with fail
        refine (HQ2.out (m - (x + 1 + (q : Int) + r1 + r2 + r3)) (by omega) (by omega) _ (HKs.out.below HB3.out).els).mono ?_; rintro e w4 ⟨⟨r4, rfl, hr4⟩, hb4⟩
        have p4 := hr4.core.pos
        have t4 := hr4.top
        have u4 : x + 1 + (q : Int) + r1 + r2 + r3 + r4 ≤ max m 0 + 300000000000000 := by
          by_cases h : m - (x + 1 + (q : Int) + r1 + r2 + r3) < 0
          · have := hr4.none h; omega
          · omega
        have HN : Hid (m < 0 ∨ Core (cB (l.take (k + 1))) m (x + 1 + (q : Int) + r1 + r2 + r3 + r4)) := by
          right
          have := (((HX1.out.add HR1.out).add HR2.out).add HR3.out).add hr4.core
          rw [HT.out]
          have e : cB (l.take k) + (1 + q + cE s.a + cE s.b + cB s.body + cB s.els) = cB (l.take k) + (1 + q) + cE s.a + cE s.b + cB s.body + cB s.els := by omega
          rw [e]
          exact this
        have HB4 := Lib.hid (below_2 (below_2 hb HB3.out) hb4)
        clear hr4 t4 k0 k1 k2 k3 k4 k5 k6 k7 k8 k9 k10 k11 k12 hb4
        go_wp2_with fail
        go_roundw
        case rel => exact ⟨k + 1, x + 1 + (q : Int) + r1 + r2 + r3 + r4, by omega, by go_num, by go_num, by omega, u4, fun h => absurd h (by omega), HN, HB4.out⟩
        case measure => simp [intOf]; omega
      · have HV : Hid (CntB (cB l) m x) := by
          show CntB _ _ _
          refine ⟨?_, hx1, hxn⟩
          rcases HX.out with h | h
          · have := hxn h
            subst this
            exact ⟨by omega, by omega, fun h2 => by omega, fun _ => by omega⟩
          · have h1 := h.le
            exact ⟨hx0, by omega, fun h => by omega, fun _ => by omega⟩
        have bx : decide (x ≤ m) = false := decide_eq_false hxm
        clear hcl hxn
        go_wp2_with fail
        go_ret
        exact ⟨⟨x, rfl, HV.out⟩, hb⟩
    · have HV : Hid (CntB (cB l) m x) := by
        show CntB _ _ _
        refine ⟨?_, hx1, hxn⟩
        rcases HX.out with h | h
        · have := hxn h
          subst this
          exact ⟨by omega, by omega, fun h2 => by omega, fun _ => by omega⟩
        · rw [List.take_of_length_le (by rw [HL.out]; omega)] at h
          exact h
      clear hcl hxn
      go_wp2_with fail
      go_ret
      exact ⟨⟨x, rfl, HV.out⟩, hb⟩
end Go.Proofs.YtnelpgeiioflmaaGreatDoor.A
namespace Go.Proofs.YtnelpgeiioflmaaGreatDoor.A
open Go.RowKit
open L (Str isName prt size_len below_2 below_box ret_bool ret_int)

theorem grown_below {w w' : World} (r : Option Nat) (h : Below w.heap.size w w') : w.grownBy w' r := ⟨h.os, h.tape, h.output, h.size, fun k hk _ => h.block k hk⟩
theorem ownV_below {w w' : World} {B n size : Nat} {e : TypeId} {v : Value} {xs : List Value} (h : w.ownsRow B e size v n xs) (hb : Below w.heap.size w w') : w'.ownsRow B e size v n xs := by
  refine ⟨h.1, ?_⟩
  rcases h.2 with h0 | ⟨g, cap, cur, hv, hB, hg, r⟩
  · exact Or.inl h0
  · exact Or.inr ⟨g, cap, cur, hv, hB, (hb.block g (Array.getElem?_eq_some_iff.1 hg).1).trans hg, r⟩
structure Cur (w0 W wr : World) (v0 v : Value) (l : List VT) (X : List V) : Prop where
  own : wr.ownsRow w0.heap.size 46 20 v l.length (vcs l)
  each : ∀ x ∈ l, x.In w0
  eq : vs l = X.take 401
  grown : W.grownBy wr v0.ownBlock
  blk : ∀ g, v.ownBlock = some g → v0.ownBlock = some g ∨ W.heap.size ≤ g
namespace Cur
variable {w0 W wr : World} {v0 v : Value} {l : List VT} {X : List V}
theorem len (h : Cur w0 W wr v0 v l X) : l.length ≤ 401 := by
  have := congrArg List.length h.eq
  rw [vs_len, List.length_take] at this
  omega
theorem shape (h : Cur w0 W wr v0 v l X) : ∃ p q, v = .slice p l.length q := by
  rcases h.own.2 with ⟨hv, h0⟩ | ⟨g, cap, cur, hv, _⟩
  · exact ⟨none, 0, by rw [hv, h0]⟩
  · exact ⟨_, cap, hv⟩
theorem start (hown : W.ownsRow w0.heap.size 46 20 v l.length (vcs l)) (hin : ∀ x ∈ l, x.In w0) (hlen : l.length ≤ 401) : Cur w0 W W v v l (vs l) :=
  ⟨hown, hin, (List.take_of_length_le (by rw [vs_len]; omega)).symm, World.grownBy.refl _ _, fun _ h => Or.inl h⟩
theorem below (h : Cur w0 W wr v0 v l X) (hb0 : Below w0.heap.size w0 W) (hv : ∀ g, v0.ownBlock = some g → w0.heap.size ≤ g) : Below w0.heap.size w0 wr := hb0.grown h.grown hb0.size hv
theorem later {w' : World} (h : Cur w0 W wr v0 v l X) (hb : Below wr.heap.size wr w') : Cur w0 W w' v0 v l X := ⟨ownV_below h.own hb, h.each, h.eq, grown_2 (r2 := none) h.grown (grown_below _ hb) (fun g hg => by cases hg), h.blk⟩
theorem step {w' : World} {Y : List V} {e' : Ending} (h : Cur w0 W wr v0 v l X) (g : GivesW w0 wr v (vs l ++ Y) e' w') : ∃ p q l', e' = .returned (.slice p l'.length q) ∧ l.length ≤ l'.length ∧ Cur w0 W w' v0 (.slice p l'.length q) l' (X ++ Y) := by
  obtain ⟨v', l', rfl, ho, hi, hv, hg, hl⟩ := g
  have hc : Cur w0 W w' v0 v' l' (X ++ Y) := ⟨ho, hi, by rw [hv, h.eq, take_take_app], grown_2 h.grown hg h.blk, fun g hg => by
    rcases hl g hg with h2 | h2
    · exact h.blk g h2
    · exact Or.inr (Nat.le_trans h.grown.size h2)⟩
  obtain ⟨p, q, rfl⟩ := hc.shape
  refine ⟨p, q, l', rfl, ?_, hc⟩
  have h1 := congrArg List.length hv
  rw [vs_len, List.length_take, List.length_append, vs_len] at h1
  have := h.len
  omega
theorem push {w1 : World} {o : Obj} {y : VT} {g1 cap : Nat} (h : Cur w0 W wr v0 v l X) (h4 : l.length ≤ 400) (hy : y.In w0)
    (h1 : w1.ownsRow w0.heap.size 46 20 (.slice (some ⟨g1, 0, none⟩) (l.length + 1) cap) (l ++ [y]).length (vcs (l ++ [y]))) (h2 : (wr.alloc o).grownBy w1 v.ownBlock) (h3 : v.ownBlock = some g1 ∨ g1 = wr.heap.size + 1) :
    ∃ l', l'.length = l.length + 1 ∧ Cur w0 W w1 v0 (.slice (some ⟨g1, 0, none⟩) l'.length cap) l' (X ++ [y.v]) := by
  have hX := congrArg List.length h.eq
  rw [vs_len, List.length_take] at hX
  have hll : (l ++ [y]).length = l.length + 1 := by simp
  refine ⟨l ++ [y], hll, ?_, ?_, ?_, ?_, ?_⟩
  · rw [← hll] at h1; exact h1
  · intro x hx
    rcases List.mem_append.1 hx with hx | hx
    · exact h.each x hx
    · rw [List.mem_singleton] at hx; rw [hx]; exact hy
  · rw [vs_app, h.eq, List.take_of_length_le (by omega), List.take_of_length_le (by rw [List.length_append]; simp; omega)]
    rfl
  · exact grown_2 (grown_2 h.grown (World.grownBy_alloc _ o v.ownBlock) h.blk) h2 h.blk
  · intro g hg
    cases hg
    rcases h3 with h3 | h3
    · exact h.blk _ h3
    · refine Or.inr ?_
      show _ ≤ g1
      have := h.grown.size
      omega
theorem same {Y : List V} {e : Ex} {x : Prop} [Decidable x] (h : Cur w0 W wr v0 v l X) (hx : preR e = if x then [] else Y) (ht : x := by exact rfl) : Cur w0 W wr v0 v l (X ++ preR e) := by
  rw [hx, if_pos ht, List.append_nil]
  exact h
theorem alter {Z : List V} (h : Cur w0 W wr v0 v l X) (e : X = Z) : Cur w0 W wr v0 v l Z := e ▸ h
end Cur
theorem preS_parts (s : St) (d : Nat) : preS s d = .st s d :: (preR s.a ++ preR s.b ++ preB s.body (d + 1) ++ preB s.els (d + 1)) := by
  obtain ⟨o, nm, mx, a, b, bd, el⟩ := s
  rw [preS]; rfl
structure Four (w : World) (e : Ex) (b i : Nat) (a : Option Addr) (c : Nat) : Prop where
  k0 : w.cell? ⟨b, i, none⟩ = some (.int .i64 e.op)
  k1 : w.cell? ⟨b, i + 1, none⟩ = some (.int .i64 e.n)
  k2 : w.cell? ⟨b, i + 2, none⟩ = some (.string e.s)
  k3 : w.cell? ⟨b, i + 3, none⟩ = some (.slice a e.args.length c)
theorem StCells.fourA {w : World} {s : St} {b i : Nat} {a1 a2 a3 a4 : Option Addr} {c1 c2 c3 c4 : Nat} (h : StCells w s b i a1 c1 a2 c2 a3 c3 a4 c4) : Four w s.a b (i + 3) a1 c1 := ⟨h.k3, h.k4, h.k5, h.k6⟩
theorem StCells.fourB {w : World} {s : St} {b i : Nat} {a1 a2 a3 a4 : Option Addr} {c1 c2 c3 c4 : Nat} (h : StCells w s b i a1 c1 a2 c2 a3 c3 a4 c4) : Four w s.b b (i + 7) a2 c2 := ⟨h.k7, h.k8, h.k9, h.k10⟩
def QB (l : List St) : Prop := ∀ (w0 : World) (v : Value) (r : List VT) (a : Option Addr) (c d : Nat) (w : World), okB l → l.length ≤ 1000000000000000 → Bodies w0 a l → Below w0.heap.size w0 w → w.ownsRow w0.heap.size 46 20 v r.length (vcs r) → (∀ x ∈ r, x.In w0) → r.length ≤ 401 → d ≤ r.length + 1 →
    Calls Tryz.prog 53 #[v, .slice a l.length c, .int .i64 (d : Int)] w fun e' w' => GivesW w0 w v (vs r ++ preB l d) e' w'
set_option maxHeartbeats 16000000 in
set_option maxRecDepth 100000 in
theorem rwalkBody_any : ∀ l, QB l := by
  refine body_ind fun l ih => ?_
  intro w0 v r a c d w hok hl hK hb0 hown hin hlen hd
  have hcur := Cur.start hown hin hlen
  obtain ⟨p, q, rfl⟩ := hcur.shape
  have HBv : Hid (∀ g, (Value.slice p r.length q).ownBlock = some g → w0.heap.size ≤ g) := fun g h => (World.ownsRow.lt hown g h).1
  have HK : Hid (Bodies w0 a l) := hK
  have HIH := Lib.hid ih
  have HOK := Lib.hid hok
  have HB0 := Lib.hid hb0
  have HC := Lib.hid hcur
  obtain ⟨g, hg⟩ : ∃ g, l.length = g := ⟨_, rfl⟩
  have HL := Lib.hid hg
  rw [hg] at hl ⊢
  clear hg hK ih hok hb0 hown hin hcur
  go_enter Tryz.func53, Tryz.ntmps53
  go_wp2_with fail
  go_loopw [0, 7] (fun v0 i wr => ∃ (k : Nat) (l2 : List VT) (p2 : Option Addr) (q2 : Nat), k ≤ g ∧ i = .int .i64 k ∧ v0 = .slice p2 l2.length q2 ∧ l2.length ≤ 401 ∧ r.length ≤ l2.length ∧ Hid (Cur w0 w wr (.slice p r.length q) (.slice p2 l2.length q2) l2 (vs r ++ preB (l.take k) d))) (fun _ i _ => g - (intOf i).toNat)
  case atStart => exact ⟨0, r, p, q, Nat.zero_le _, rfl, rfl, hlen, Nat.le_refl _, by rw [List.take_zero, preB, List.append_nil]; exact HC.out⟩
  case round =>
    obtain ⟨k, l2, p2, q2, hk, rfl, rfl, hl2, hr2, HC2⟩ := hrel
    have HBB : Hid (Below w0.heap.size w0 wr) := HC2.out.below HB0.out HBv.out
    by_cases hlt : k < g
    · by_cases h400 : l2.length ≤ 400
      · have b4 : decide ((l2.length : Int) ≤ 400) = true := decide_eq_true (by omega)
        have hlx : k < l.length := by rw [HL.out]; exact hlt
        have HT := Lib.hid (preB_take hlx d)
        obtain ⟨b2, i2, rfl, hat⟩ := HK.out.open hlx
        have ho := okS_open (HOK.out.get k hlx)
        obtain ⟨j1, j2⟩ := HIH.out k hlx
        generalize l[k] = s at hat HT ho j1 j2
        obtain ⟨a1, c1, a2, c2, a3, c3, a4, c4, hcs, hks⟩ := hat.open
        obtain ⟨x1, hx1⟩ : ∃ x, absent s.a = x := ⟨_, rfl⟩
        obtain ⟨x2, hx2⟩ : ∃ x, absent s.b = x := ⟨_, rfl⟩
        have HX1 : Hid (preR s.a = if x1 then [] else preE s.a true) := by show _ = _; rw [preR, hx1]
        have HX2 : Hid (preR s.b = if x2 then [] else preE s.b true) := by show _ = _; rw [preR, hx2]
        have HA1 : Hid (∀ w, Calls Tryz.prog 74 #[exV s.a a1 c1] w fun e' w' => e' = .returned (.bool x1) ∧ Below w.heap.size w w') := by show ∀ _, _; rw [← hx1]; exact fun w => rabsent_any s.a a1 c1 w
        have HA2 : Hid (∀ w, Calls Tryz.prog 74 #[exV s.b a2 c2] w fun e' w' => e' = .returned (.bool x2) ∧ Below w.heap.size w w') := by show ∀ _, _; rw [← hx2]; exact fun w => rabsent_any s.b a2 c2 w
        have HE1 := Lib.hid (fun v l w hb h1 h2 h3 => rwalkExpr_any s.a w0 v l a1 c1 true w ho.a hks.a hb h1 h2 h3)
        have HE2 := Lib.hid (fun v l w hb h1 h2 h3 => rwalkExpr_any s.b w0 v l a2 c2 true w ho.b hks.b hb h1 h2 h3)
        have HQ1 : Hid (∀ (v : Value) (r : List VT) (w : World), Below w0.heap.size w0 w → w.ownsRow w0.heap.size 46 20 v r.length (vcs r) → (∀ x ∈ r, x.In w0) → r.length ≤ 401 → d + 1 ≤ r.length + 1 → Calls Tryz.prog 53 #[v, .slice a3 s.body.length c3, .int .i64 ((d : Int) + 1)] w fun e' w' => GivesW w0 w v (vs r ++ preB s.body (d + 1)) e' w') :=
          fun v r w hb h1 h2 h3 h4 => j1 w0 v r a3 c3 (d + 1) w ho.body ho.bodyLen hks.body hb h1 h2 h3 h4
        have HQ2 : Hid (∀ (v : Value) (r : List VT) (w : World), Below w0.heap.size w0 w → w.ownsRow w0.heap.size 46 20 v r.length (vcs r) → (∀ x ∈ r, x.In w0) → r.length ≤ 401 → d + 1 ≤ r.length + 1 → Calls Tryz.prog 53 #[v, .slice a4 s.els.length c4, .int .i64 ((d : Int) + 1)] w fun e' w' => GivesW w0 w v (vs r ++ preB s.els (d + 1)) e' w') :=
          fun v r w hb h1 h2 h3 h4 => j2 w0 v r a4 c4 (d + 1) w ho.els ho.elsLen hks.els hb h1 h2 h3 h4
        have HCs := Lib.hid hcs
        have HIn : Hid (VT.In w0 (.st s d a1 c1 a2 c2 a3 c3 a4 c4)) := hks
        have HS := Lib.hid (preS_parts s d)
        have hz : w0.heap.size ≤ wr.heap.size := HBB.out.size
        have HO2 := Lib.hid HC2.out.own
        unfold exV at HE1 HE2 HA1 HA2
        obtain ⟨k0, k1, k2, k3, k4, k5, k6, k7, k8, k9, k10, k11, k12⟩ := hcs.below HBB.out
        clear hat ho j1 j2 hks hcs hx1 hx2
        go_wp2_with (at_builtin; refine wpList_append_visit rfl (.tmp 19) (.tmp 26) rfl w0.heap.size (.slice p2 l2.length q2) l2 rfl HO2.out (.st s d a1 c1 a2 c2 a3 c3 a4 c4) _ rfl wr.heap.size rfl rfl (by omega) hz ?_; intro g1 cap1 w1 hown1 hgrow1 hlie1; obtain ⟨l3, hl3, hc3⟩ := HC2.out.push h400 HIn.out hown1 hgrow1 hlie1; rw [← hl3]; have HC3 := Lib.hid hc3; have hl3a : l3.length ≤ 401 := (by omega); have hl3b : l2.length < l3.length := (by omega); clear hl3; clear hown1 hgrow1 hlie1 hc3 k0 k1 k2 k3 k4 k5 k6 k7 k8 k9 k10 k11 k12 HO2; obtain ⟨k3, k4, k5, k6⟩ := (HCs.out.below (HC3.out.below HB0.out HBv.out)).fourA)
        refine (HA1.out _).mono ?_; rintro e w2 ⟨rfl, hb2⟩
        have HC4 := Lib.hid (HC3.out.later hb2)
        clear hb2 HC3 k3 k4 k5 k6
        cases x1 with
        | true =>
          have HAB := Lib.hid (HC4.out.same HX1.out)
          clear HC4
          obtain ⟨k7, k8, k9, k10⟩ := (HCs.out.below (HAB.out.below HB0.out HBv.out)).fourB
          go_wp2_with fail
          refine (HA2.out _).mono ?_; rintro e w5 ⟨rfl, hb5⟩
          have HBB2 := Lib.hid (HAB.out.later hb5)
          clear hb5 HAB k7 k8 k9 k10
          cases x2 with
          | true =>
            have HCD := Lib.hid (HBB2.out.same HX2.out)
            clear HBB2
            obtain ⟨-, -, -, -, -, -, -, -, -, -, -, k11, -⟩ := HCs.out.below (HCD.out.below HB0.out HBv.out)
            have hl9 := HCD.out.len
            go_wp2_with fail
            refine (HQ1.out _ l3 _ (HCD.out.below HB0.out HBv.out) HCD.out.own HCD.out.each hl9 (by omega)).mono ?_; rintro e w7 hg7
            obtain ⟨p7, q7, l7, rfl, hle7, hc7⟩ := HCD.out.step hg7
            have HC7 := Lib.hid hc7
            clear hg7 hc7 hl9 HCD k11
            obtain ⟨-, -, -, -, -, -, -, -, -, -, -, -, k12⟩ := HCs.out.below (HC7.out.below HB0.out HBv.out)
            have hl9 := HC7.out.len
            go_wp2_with fail
            refine (HQ2.out _ l7 _ (HC7.out.below HB0.out HBv.out) HC7.out.own HC7.out.each hl9 (by omega)).mono ?_; rintro e w8 hg8
            obtain ⟨p8, q8, l8, rfl, hle8, hc8⟩ := HC7.out.step hg8
            have HC8 := Lib.hid (hc8.alter (by rw [HT.out, HS.out]; simp [VT.v]) : Cur w0 w w8 (.slice p r.length q) (.slice p8 l8.length q8) l8 (vs r ++ preB (l.take (k + 1)) d))
            clear hg8 hc8 hl9 HC7 k12
            have hl10 := HC8.out.len
            go_wp2_with fail
            go_roundw
            case rel =>
              first
              | exact ⟨k + 1, l8, p8, q8, by omega, by go_num, rfl, hl10, by omega, HC8.out⟩
              | (repeat' apply Exists.intro) <;> (refine ⟨⟨k + 1, l8, p8, q8, by omega, by go_num, rfl, hl10, by omega, HC8.out⟩, ?_⟩; exact rfl)
            case measure => simp [intOf]; omega
          | false =>
            have hl9 := HBB2.out.len
            obtain ⟨k7, k8, k9, k10⟩ := (HCs.out.below (HBB2.out.below HB0.out HBv.out)).fourB
            go_wp2_with fail
            have HW := HE2.out _ l3 _ (HBB2.out.below HB0.out HBv.out) HBB2.out.own HBB2.out.each hl9; refine HW.mono ?_; clear HW; rintro e w4 hg4
            obtain ⟨p5, q5, l6, rfl, hlel6, hc5⟩ := HBB2.out.step (Y := preR s.b) (by rw [HX2.out]; exact hg4)
            have HCD := Lib.hid hc5
            clear hg4 hc5 hl9 HBB2 k7 k8 k9 k10
            obtain ⟨-, -, -, -, -, -, -, -, -, -, -, k11, -⟩ := HCs.out.below (HCD.out.below HB0.out HBv.out)
            have hl9 := HCD.out.len
            go_wp2_with fail
            refine (HQ1.out _ l6 _ (HCD.out.below HB0.out HBv.out) HCD.out.own HCD.out.each hl9 (by omega)).mono ?_; rintro e w7 hg7
            obtain ⟨p7, q7, l7, rfl, hle7, hc7⟩ := HCD.out.step hg7
            have HC7 := Lib.hid hc7
            clear hg7 hc7 hl9 HCD k11
            obtain ⟨-, -, -, -, -, -, -, -, -, -, -, -, k12⟩ := HCs.out.below (HC7.out.below HB0.out HBv.out)
            have hl9 := HC7.out.len
            go_wp2_with fail
            refine (HQ2.out _ l7 _ (HC7.out.below HB0.out HBv.out) HC7.out.own HC7.out.each hl9 (by omega)).mono ?_; rintro e w8 hg8
            obtain ⟨p8, q8, l8, rfl, hle8, hc8⟩ := HC7.out.step hg8
            have HC8 := Lib.hid (hc8.alter (by rw [HT.out, HS.out]; simp [VT.v]) : Cur w0 w w8 (.slice p r.length q) (.slice p8 l8.length q8) l8 (vs r ++ preB (l.take (k + 1)) d))
            clear hg8 hc8 hl9 HC7 k12
            have hl10 := HC8.out.len
            go_wp2_with fail
            go_roundw
            case rel =>
              first
              | exact ⟨k + 1, l8, p8, q8, by omega, by go_num, rfl, hl10, by omega, HC8.out⟩
              | (repeat' apply Exists.intro) <;> (refine ⟨⟨k + 1, l8, p8, q8, by omega, by go_num, rfl, hl10, by omega, HC8.out⟩, ?_⟩; exact rfl)
            case measure => simp [intOf]; omega
        | false =>
          have hl9 := HC4.out.len
          obtain ⟨k3, k4, k5, k6⟩ := (HCs.out.below (HC4.out.below HB0.out HBv.out)).fourA
          go_wp2_with fail
          have HW := HE1.out _ l3 _ (HC4.out.below HB0.out HBv.out) HC4.out.own HC4.out.each hl9; refine HW.mono ?_; clear HW; rintro e w4 hg4
          obtain ⟨p5, q5, l5, rfl, hlel5, hc5⟩ := HC4.out.step (Y := preR s.a) (by rw [HX1.out]; exact hg4)
          have HAB := Lib.hid hc5
          clear hg4 hc5 hl9 HC4 k3 k4 k5 k6
          obtain ⟨k7, k8, k9, k10⟩ := (HCs.out.below (HAB.out.below HB0.out HBv.out)).fourB
          go_wp2_with fail
          refine (HA2.out _).mono ?_; rintro e w5 ⟨rfl, hb5⟩
          have HBB2 := Lib.hid (HAB.out.later hb5)
          clear hb5 HAB k7 k8 k9 k10
          cases x2 with
          | true =>
            have HCD := Lib.hid (HBB2.out.same HX2.out)
            clear HBB2
            obtain ⟨-, -, -, -, -, -, -, -, -, -, -, k11, -⟩ := HCs.out.below (HCD.out.below HB0.out HBv.out)
            have hl9 := HCD.out.len
            go_wp2_with fail
            refine (HQ1.out _ l5 _ (HCD.out.below HB0.out HBv.out) HCD.out.own HCD.out.each hl9 (by omega)).mono ?_; rintro e w7 hg7
            obtain ⟨p7, q7, l7, rfl, hle7, hc7⟩ := HCD.out.step hg7
            have HC7 := Lib.hid hc7
            clear hg7 hc7 hl9 HCD k11
            obtain ⟨-, -, -, -, -, -, -, -, -, -, -, -, k12⟩ := HCs.out.below (HC7.out.below HB0.out HBv.out)
            have hl9 := HC7.out.len
            go_wp2_with fail
            refine (HQ2.out _ l7 _ (HC7.out.below HB0.out HBv.out) HC7.out.own HC7.out.each hl9 (by omega)).mono ?_; rintro e w8 hg8
            obtain ⟨p8, q8, l8, rfl, hle8, hc8⟩ := HC7.out.step hg8
            have HC8 := Lib.hid (hc8.alter (by rw [HT.out, HS.out]; simp [VT.v]) : Cur w0 w w8 (.slice p r.length q) (.slice p8 l8.length q8) l8 (vs r ++ preB (l.take (k + 1)) d))
            clear hg8 hc8 hl9 HC7 k12
            have hl10 := HC8.out.len
            go_wp2_with fail
            go_roundw
            case rel =>
              first
              | exact ⟨k + 1, l8, p8, q8, by omega, by go_num, rfl, hl10, by omega, HC8.out⟩
              | (repeat' apply Exists.intro) <;> (refine ⟨⟨k + 1, l8, p8, q8, by omega, by go_num, rfl, hl10, by omega, HC8.out⟩, ?_⟩; exact rfl)
            case measure => simp [intOf]; omega
          | false =>
            have hl9 := HBB2.out.len
            obtain ⟨k7, k8, k9, k10⟩ := (HCs.out.below (HBB2.out.below HB0.out HBv.out)).fourB
            go_wp2_with fail
            have HW := HE2.out _ l5 _ (HBB2.out.below HB0.out HBv.out) HBB2.out.own HBB2.out.each hl9; refine HW.mono ?_; clear HW; rintro e w4 hg4
            obtain ⟨p5, q5, l6, rfl, hlel6, hc5⟩ := HBB2.out.step (Y := preR s.b) (by rw [HX2.out]; exact hg4)
            have HCD := Lib.hid hc5
            clear hg4 hc5 hl9 HBB2 k7 k8 k9 k10
            obtain ⟨-, -, -, -, -, -, -, -, -, -, -, k11, -⟩ := HCs.out.below (HCD.out.below HB0.out HBv.out)
            have hl9 := HCD.out.len
            go_wp2_with fail
            refine (HQ1.out _ l6 _ (HCD.out.below HB0.out HBv.out) HCD.out.own HCD.out.each hl9 (by omega)).mono ?_; rintro e w7 hg7
            obtain ⟨p7, q7, l7, rfl, hle7, hc7⟩ := HCD.out.step hg7
            have HC7 := Lib.hid hc7
            clear hg7 hc7 hl9 HCD k11
            obtain ⟨-, -, -, -, -, -, -, -, -, -, -, -, k12⟩ := HCs.out.below (HC7.out.below HB0.out HBv.out)
            have hl9 := HC7.out.len
            go_wp2_with fail
            refine (HQ2.out _ l7 _ (HC7.out.below HB0.out HBv.out) HC7.out.own HC7.out.each hl9 (by omega)).mono ?_; rintro e w8 hg8
            obtain ⟨p8, q8, l8, rfl, hle8, hc8⟩ := HC7.out.step hg8
            have HC8 := Lib.hid (hc8.alter (by rw [HT.out, HS.out]; simp [VT.v]) : Cur w0 w w8 (.slice p r.length q) (.slice p8 l8.length q8) l8 (vs r ++ preB (l.take (k + 1)) d))
            clear hg8 hc8 hl9 HC7 k12
            have hl10 := HC8.out.len
            go_wp2_with fail
            go_roundw
            case rel =>
              first
              | exact ⟨k + 1, l8, p8, q8, by omega, by go_num, rfl, hl10, by omega, HC8.out⟩
              | (repeat' apply Exists.intro) <;> (refine ⟨⟨k + 1, l8, p8, q8, by omega, by go_num, rfl, hl10, by omega, HC8.out⟩, ?_⟩; exact rfl)
            case measure => simp [intOf]; omega
      · have b4 : decide ((l2.length : Int) ≤ 400) = false := decide_eq_false (by omega)
        have HV : Hid (GivesW w0 w (.slice p r.length q) (vs r ++ preB l d) (.returned (.slice p2 l2.length q2)) wr) := by
          refine ⟨_, l2, rfl, HC2.out.own, HC2.out.each, ?_, HC2.out.grown, HC2.out.blk⟩
          have hx := HC2.out.eq
          rw [preB_split l k d, ← List.append_assoc, take_full (by rw [← hx, vs_len]; omega)]
          exact hx
        go_wp2_with fail
        go_ret
        exact HV.out
    · have HV : Hid (GivesW w0 w (.slice p r.length q) (vs r ++ preB l d) (.returned (.slice p2 l2.length q2)) wr) := by
        refine ⟨_, l2, rfl, HC2.out.own, HC2.out.each, ?_, HC2.out.grown, HC2.out.blk⟩
        have hx := HC2.out.eq
        rw [show l.take k = l from List.take_of_length_le (by rw [HL.out]; omega)] at hx
        exact hx
      go_wp2_with fail
      go_ret
      exact HV.out
end Go.Proofs.YtnelpgeiioflmaaGreatDoor.A
