/-
  The reference of layer 12: the operators of an expression's nodes: contract.
  The reference of layer 12: Pure and Reads: contracts.
  Plain mathematics of layer 12: what a valid procedure's size is bounded by.
  The reference of layer 12: First: a contract.
  What the reference of layer 11 returns: lookup, unary, binary, leaf: contracts.
-/
import Derived.Test.YtkjefigebdbkaaaGreatDoorTNPlain
import Derived.Test.YtkjefigebdbkaaaGreatDoorN07
import Derived.Deep.AppendLies
import Derived.Laws.OwnMore
import Derived.Test.YtkjefigebdbkaaaGreatDoorN13
import Derived.Test.YtkjefigebdbkaaaGreatDoorN15
import Derived.Test.YtkjefigebdbkaaaGreatDoorN12
import Derived.Test.YtkjefigebdbkaaaGreatDoorN16
namespace Go.Proofs.YtkjefigebdbkaaaGreatDoor.N
open Go.RowKit
open A (Ex exV exO exV_mk exO_mk okE Bx RowK Own1 Stays)
open L (below_2 below_box ret_bool)

theorem info_i : (Tryz.prog.info? 3).map (fun i => (i.zero, i.size, i.bytes)) = some (some (.int .i64 0), 1, 8) := by kernel_rfl
def kI : RowK Int where
  f := fun x => [.int .i64 x]
  size := 1
  bytes := 8
  t := 46
  e := 3
  z := .int .i64 0
  inn := fun _ _ _ => True
  und := Tryz.underlying46
  info := info_i
  len := fun _ => rfl
  one := fun x u hu => by simp at hu; rw [hu]; rfl
  pos := by decide
  zs := rfl
  small := by decide
  next := fun _ _ => trivial
def IntsAt (w : World) (a : Option Addr) (l : List Int) : Prop := l = [] ∨ ∃ b i, a = some ⟨b, i, none⟩ ∧ ∀ j (h : j < l.length), w.cell? ⟨b, i + j, none⟩ = some (.int .i64 l[j])
theorem IntsAt.open {w : World} {a : Option Addr} {l : List Int} (h : IntsAt w a l) {k : Nat} (hk : k < l.length) : ∃ b i, a = some ⟨b, i, none⟩ ∧ ∀ j (h : j < l.length), w.cell? ⟨b, i + j, none⟩ = some (.int .i64 l[j]) :=
  h.resolve_left (fun e => by rw [e] at hk; exact absurd hk (Nat.not_lt_zero _))
theorem own_ints {w : World} {b0 : Nat} {Z : Nat → Prop} {p : Option Addr} {q : Nat} {l : List Int} (h : Own1 kI w b0 Z (.slice p l.length q) l) : IntsAt w p l := by
  by_cases h0 : l = []
  · exact Or.inl h0
  · obtain ⟨g, rfl, _, _⟩ := h.cell (List.length_pos_iff.2 h0)
    refine Or.inr ⟨g, 0, rfl, fun j hj => ?_⟩
    obtain ⟨g2, hg, _, hc⟩ := h.cell hj
    cases hg
    have := hc 0 (by decide)
    rw [Nat.zero_add]
    rw [show j * kI.size + 0 = j from Nat.mul_one j] at this
    exact this
theorem flat_getI (l : List Int) (j : Nat) (u : Value) (h : (kI.cs l)[j]? = some u) : ∃ hj : j < l.length, u = .int .i64 l[j] := by
  have hlt := (List.getElem?_eq_some_iff.1 h).1
  rw [RowK.cs_len] at hlt
  have hs : kI.size = 1 := rfl
  rw [hs] at hlt
  have hj : j < l.length := by omega
  have hg := RowK.cs_get kI l j hj 0 (by decide)
  rw [hs, Nat.mul_one, Nat.add_zero, h] at hg
  exact ⟨hj, Option.some.inj hg⟩
theorem wpList_append_ints {w : World} {ops : Array Oper} {rest : List Oper} {o : Oper} {a : Act} {Q : Exit → Act → World → Prop} (hgd : o.guard = none) (s x : Operand)
    (ho : o.op = .call { callee := .builtin .append, args := #[s, x], argTypes := #[46, 46] })
    (base : Nat) (Z : Nat → Prop) (p : Option Addr) (n q : Nat) (l m : List Int) (hn : n = l.length) (hs : a.eval s = .slice p n q) (hown : Own1 kI w base Z (.slice p l.length q) l)
    (xa : Option Addr) (mm xc : Nat) (hmm : mm = m.length) (hx : a.eval x = .slice xa mm xc) (hP : IntsAt w xa m) (hm0 : 0 < m.length) (hl : l.length + m.length ≤ 1000000000000) (hbase : base ≤ w.heap.size) (hZ : ∀ k, Z k → k < base)
    (h : ∀ p' q' w', Own1 kI w' base Z (.slice p' (l ++ m).length q') (l ++ m) → w.grownBy w' (Value.slice p l.length q).ownBlock → Go.wpList Tryz.prog ops Q rest (a.put o.dst (.slice p' (n + mm) q')) w') :
    Go.wpList Tryz.prog ops Q (o :: rest) a w := by
  subst hn hmm
  obtain ⟨i0, hi, hz0, hz1, hz2⟩ := A.info_parts3 kI.info
  rcases hP with h0 | ⟨b, i, rfl, hc⟩
  · rw [h0] at hm0; exact absurd hm0 (Nat.lt_irrefl _)
  · refine wpList_append_lies _ hgd s x kI.t ho base kI.e i0 _ kI.size kI.bytes kI.und hi hz0 hz1 hz2 kI.zs kI.pos (.slice p l.length q) l.length (kI.cs l) hs hown.row ⟨b, i, none⟩ m.length xc (kI.cs m) hx (RowK.cs_len kI m) ?_ ?_ (by omega) (by unfold maxLen; omega) ?_ hbase w.heap.size rfl ?_
    · intro j u hu
      obtain ⟨hj, rfl⟩ := flat_getI m j u hu
      rw [WideShapes.add_plain]
      exact hc j hj
    · intro u hu
      obtain ⟨y, hy, hu⟩ := List.mem_flatMap.1 hu
      exact kI.one y u hu
    · show (l.length + m.length) * 8 ≤ _
      omega
    · intro g cap w' h1 h2 h3 _
      refine h (some ⟨g, 0, none⟩) cap w' ⟨?_, fun g' hg hz => ?_, fun _ _ => trivial⟩ h2
      · rw [List.length_append, RowK.cs_app]; exact h1
      · have hk2 : g = g' := by injection hg
        subst hk2
        have := hZ g hz
        rcases h3 with h3 | h3
        · have := (hown.lt g h3).1; omega
        · omega
theorem own_lit (w : World) (o : Int) : Own1 kI (w.alloc (.cells #[.int .i64 o] 3)) w.heap.size (fun _ => False) (.slice (some ⟨w.heap.size, 0, none⟩) 1 1) [o] :=
  ⟨World.ownsRow_lit w #[.int .i64 o] 1 (Nat.le_refl _) (by decide) rfl, fun _ _ h => h, fun _ _ => trivial⟩
def GivesI (w : World) (x : List Int) (e' : Ending) (w' : World) : Prop := ∃ p q, e' = .returned (.slice p x.length q) ∧ IntsAt w' p x ∧ Below w.heap.size w w'
theorem ops_pos (e : Ex) : 0 < (ops e).length := by rw [ops_op]; simp
theorem take_flatR {l : List Ex} {k : Nat} (hk : k < l.length) : (l.take (k + 1)).flatMap ops = (l.take k).flatMap ops ++ ops l[k] := by
  rw [List.take_succ_eq_append_getElem hk, List.flatMap_append]
  simp
theorem take_preR (l : List Ex) (k : Nat) : ((l.take k).flatMap ops).length ≤ (l.flatMap ops).length := by
  conv => rhs; rw [← List.take_append_drop k l]
  rw [List.flatMap_append, List.length_append]; omega
def QO (e : Ex) : Prop := ∀ (a : Option Addr) (c : Nat) (w : World), okE e → (ops e).length ≤ 1000000000 → A.Kids w a e.args → Calls Tryz.prog 23 #[exV e a c] w (GivesI w (ops e))
set_option maxHeartbeats 8000000 in
set_option maxRecDepth 100000 in
theorem rOps_any : ∀ e, QO e := by
  refine A.Ex.ind (P := QO) ?_
  intro o n s l ih a c w hok hlen hK
  have hK' : A.Kids w a l := hK
  have hb := below_box w (exO (.mk o n s l) a c)
  have hbx := Bx.new w #[.int .i64 o, .int .i64 n, .string s, .slice a l.length c] 41
  have hokl : ∀ x ∈ l, okE x := by
    rw [okE] at hok
    exact fun x hx => by
      obtain ⟨j, hj, rfl⟩ := List.getElem_of_mem hx
      exact A.okEs.get hok.2.2.2.2 j hj
  have hll : l.length ≤ 1000000000000000 := by rw [okE] at hok; exact hok.2.2.2.1
  rw [ops_mk] at hlen ⊢
  simp only [exV_mk]
  have HB := Lib.hid hb
  have HX := Lib.hid hbx
  have HK := Lib.hid (hK'.below hb)
  have HLen : Hid ((l.flatMap ops).length + 1 ≤ 1000000000) := by show _ ≤ _; simpa using hlen
  have HIH : Hid (∀ (k : Nat) (h : k < l.length) a2 c2 w', A.Kids w' a2 l[k].args → Calls Tryz.prog 23 #[exV l[k] a2 c2] w' (GivesI w' (ops l[k]))) :=
    fun k h a2 c2 w' h2 => ih k h a2 c2 w' (hokl _ (List.getElem_mem h)) (by
      have h1 := HLen.out
      have h3 := take_flatR h
      have h4 := take_preR l (k + 1)
      rw [h3, List.length_append] at h4
      omega) h2
  simp only [exO_mk] at HX HB HK
  have HOw := Lib.hid (own_lit (w.alloc (.cells #[.int .i64 o, .int .i64 n, .string s, .slice a l.length c] 41)) o)
  have hb2 := below_box (w.alloc (.cells #[.int .i64 o, .int .i64 n, .string s, .slice a l.length c] 41)) (.cells #[.int .i64 o] 3)
  obtain ⟨g, hg⟩ : ∃ g, l.length = g := ⟨_, rfl⟩
  have HL := Lib.hid hg
  rw [hg] at hll HX HB HK HOw hb2 ⊢
  have x0 := HX.out.cell 0
  have x1 := HX.out.cell 1
  have x2 := HX.out.cell 2
  have x3 := HX.out.cell 3
  obtain ⟨W1, hW1⟩ : ∃ W1, w.alloc (.cells #[.int .i64 o, .int .i64 n, .string s, .slice a g c] 41) = W1 := ⟨_, rfl⟩
  rw [hW1] at HX HB HK HOw hb2
  have HS1 : Hid (W1.heap.size = w.heap.size + 1) := by show _ = _; rw [← hW1]; simp
  have HW1 := Lib.hid hW1
  obtain ⟨W2, hW2⟩ : ∃ W2, W1.alloc (.cells #[.int .i64 o] 3) = W2 := ⟨_, rfl⟩
  rw [hW2] at HOw hb2
  have HW2 := Lib.hid hW2
  have HB2 := Lib.hid hb2
  clear hg hb hbx hokl hK hK' hok ih hlen hW1 hW2 hb2
  go_enter Tryz.func23, Tryz.ntmps23
  go_wp2_with fail
  rw [HW1.out, HW2.out]
  clear x0 x1 x2 x3
  go_loopw [3, 4] (fun s3 s4 wr => ∃ (k : Nat) (p : Option Addr) (q : Nat) (xs : List Int), k ≤ g ∧ s4 = .int .i64 k ∧ s3 = .slice p xs.length q ∧ Hid (xs = o :: (l.take k).flatMap ops) ∧ Hid (Own1 kI wr W1.heap.size (fun _ => False) (.slice p xs.length q) xs) ∧ Hid (Below W1.heap.size W1 wr)) (fun _ s4 _ => g - (intOf s4).toNat)
  case atStart => exact ⟨0, _, _, [o], Nat.zero_le _, rfl, rfl, rfl, by rw [← HS1.out]; exact HOw.out, HB2.out⟩
  case round =>
    obtain ⟨k, p, q, xs, hk, rfl, rfl, HQ, HO, HBr⟩ := hrel
    have z0 := (HX.out.below HBr.out).cell 0
    have z1 := (HX.out.below HBr.out).cell 1
    have z2 := (HX.out.below HBr.out).cell 2
    have z3 := (HX.out.below HBr.out).cell 3
    by_cases hlt : k < g
    · have hlx : k < l.length := by rw [HL.out]; exact hlt
      obtain ⟨b2, i2, rfl, hat⟩ := (HK.out.below HBr.out).open hlx
      obtain ⟨d0, d1, d2, a2, cc, d3, hk2⟩ := hat.open
      have HCC := Lib.hid (HIH.out k hlx a2 cc wr hk2)
      have HQ2 : Hid (xs ++ ops l[k] = o :: (l.take (k + 1)).flatMap ops) := by show _ = _; rw [HQ.out, take_flatR hlx]; rfl
      have HLn : Hid (xs.length + (ops l[k]).length ≤ 1000000000000) := by
        have h1 := HLen.out
        have h4 := take_preR l (k + 1)
        have h5 := congrArg List.length HQ2.out
        rw [List.length_append, List.length_cons] at h5
        show _ ≤ _
        omega
      have HPo := Lib.hid (ops_pos l[k])
      clear hat hk2
      unfold exV at HCC
      generalize ops l[k] = ys at HCC HQ2 HLn HPo
      generalize l[k].args.length = m2 at d3 HCC
      generalize l[k].op = o2 at d0 HCC
      generalize l[k].n = n2 at d1 HCC
      generalize l[k].s = s2 at d2 HCC
      obtain ⟨xn, hxn⟩ : ∃ n, xs.length = n := ⟨_, rfl⟩
      have HXN := Lib.hid hxn
      rw [hxn]
      clear hxn
      go_wp2_with fail
      refine HCC.out.mono ?_; rintro e w2 ⟨p2, q2, rfl, hi2, hb2⟩
      have HI2 := Lib.hid hi2
      have HB3 := Lib.hid (HBr.out.trans (hb2.mono HBr.out.size))
      have HO2 := Lib.hid (HO.out.below hb2)
      obtain ⟨yn, hyn⟩ : ∃ n, ys.length = n := ⟨_, rfl⟩
      have HYN := Lib.hid hyn
      have HXY : Hid (xn + yn = (xs ++ ys).length) := by show _ = _; rw [List.length_append, HXN.out, hyn]
      have hxy : xn + yn ≤ 1000000000000 := by have := HLn.out; rw [HXN.out, hyn] at this; exact this
      rw [hyn]
      clear hi2 hb2 hyn z0 z1 z2 z3 d0 d1 d2 d3
      go_wp2_with (at_builtin; refine wpList_append_ints rfl (.tmp 15) (.tmp 21) rfl W1.heap.size (fun _ => False) p xn q xs ys HXN.out.symm rfl HO2.out p2 yn q2 HYN.out.symm rfl HI2.out HPo.out HLn.out HB3.out.size (fun _ h => h.elim) ?_; intro p7 q7 w7 hown7 hgrow7; have HO7 := Lib.hid hown7; have HB7 := Lib.hid (HB3.out.grown hgrow7 HB3.out.size (fun k hk => (HO2.out.lt k hk).1)); clear hown7 hgrow7)
      go_roundw
      case rel => exact ⟨k + 1, p7, q7, xs ++ ys, by omega, by go_num, by rw [HXY.out], HQ2.out, HO7.out, HB7.out⟩
      case measure => simp [intOf]; omega
    · have hq := HQ.out
      rw [List.take_of_length_le (by have := HL.out; omega)] at hq
      have HV : Hid (GivesI w (o :: l.flatMap ops) (.returned (.slice p xs.length q)) wr) := by
        rw [← hq]
        exact ⟨p, q, rfl, own_ints HO.out, below_2 HB.out HBr.out⟩
      clear hq
      go_wp2_with fail
      go_ret
      exact HV.out
end Go.Proofs.YtkjefigebdbkaaaGreatDoor.N
namespace Go.Proofs.YtkjefigebdbkaaaGreatDoor.N
open Go.RowKit
open A (Ex exV exO exV_mk exO_mk okE Bx RowK Own1 Stays)
open L (below_2 below_box ret_bool)

set_option maxHeartbeats 1000000 in
theorem risN_any (o : Int) (w : World) : Calls Tryz.prog 24 #[.int .i64 o] w fun e w' => e = .returned (.bool (isN o)) ∧ w = w' := by
  obtain ⟨R, hR⟩ : ∃ R, isN o = R := ⟨_, rfl⟩
  rw [hR]
  unfold isN at hR
  have HR := Lib.hid hR
  clear hR
  by_cases h1 : o = 25
  · subst h1
    have HV : Hid (true = R) := by show _ = _; rw [← HR.out]; rfl
    go_enter Tryz.func24, Tryz.ntmps24
    go_wp2_with fail
    go_ret
    exact ⟨ret_bool HV.out, rfl⟩
  have b1 : (o == 25) = false := beq_eq_false_iff_ne.2 h1
  by_cases h2 : o = 26
  · subst h2
    have HV : Hid (true = R) := by show _ = _; rw [← HR.out]; rfl
    clear h1 b1
    go_enter Tryz.func24, Tryz.ntmps24
    go_wp2_with fail
    go_ret
    exact ⟨ret_bool HV.out, rfl⟩
  have b2 : (o == 26) = false := beq_eq_false_iff_ne.2 h2
  have HV : Hid (decide (o = 27) = R) := by show _ = _; rw [← HR.out, decide_eq_false h1, decide_eq_false h2]; rfl
  by_cases h3 : o = 27
  · subst h3
    clear h1 h2 b1 b2
    go_enter Tryz.func24, Tryz.ntmps24
    go_wp2_with fail
    go_ret
    exact ⟨ret_bool HV.out, rfl⟩
  have b3 : (o == 27) = false := beq_eq_false_iff_ne.2 h3
  have HV2 : Hid (false = R) := by show _ = _; rw [← HV.out, decide_eq_false h3]
  clear h1 h2 h3
  go_enter Tryz.func24, Tryz.ntmps24
  go_wp2_with fail
  go_ret
  exact ⟨ret_bool HV2.out, rfl⟩
end Go.Proofs.YtkjefigebdbkaaaGreatDoor.N
namespace Go.Proofs.YtkjefigebdbkaaaGreatDoor.N
open A (Ex St Pm Pr V absent preE preEs preR preS preB walk exprs cE cEs cS cB stE vE uN uA uB)

theorem absent_cE {e : Ex} (h : absent e = true) : cE e = 1 := by
  obtain ⟨o, n, s, l⟩ := e
  unfold absent at h
  simp only [Bool.and_eq_true, decide_eq_true_iff, List.isEmpty_iff] at h
  obtain ⟨⟨⟨-, -⟩, h3⟩, h4⟩ := h
  have h3' : s.size = 0 := h3
  have h4' : l = [] := h4
  rw [cE, h3', h4', cEs]
theorem root_cE {e : Ex} (h : absent e = true ∨ vE e 1 = 0) : cE e ≤ 1 + 2 * (preR e).length := by
  unfold preR
  cases ha : absent e
  · rw [if_neg (by decide)]
    rcases h with h | h
    · rw [ha] at h; cases h
    · have := A.vE_count e 1 true h; omega
  · rw [absent_cE ha]; omega
mutual
theorem cS_valid : ∀ (s : St) (d : Nat), (∀ t k, V.st t k ∈ preS s d → stE t k = 0) → cS s ≤ 3 * (preS s d).length
  | .mk o nm mx a b bd el, d, hg => by
    rw [preS] at hg ⊢
    have h0 := hg _ _ List.mem_cons_self
    have hgood := A.good_of h0
    have hf := hgood.form
    unfold A.badS at hf
    simp only [Bool.or_eq_false_iff, Bool.and_eq_false_iff, Bool.not_eq_false'] at hf
    obtain ⟨⟨⟨⟨⟨⟨-, hn⟩, -⟩, h1⟩, h2⟩, -⟩, -⟩ := hf
    have ha : cE a ≤ 1 + 2 * (preR a).length := root_cE (h1.elim (fun h => Or.inr (hgood.a h)) (fun h => Or.inl h))
    have hb : cE b ≤ 1 + 2 * (preR b).length := root_cE (h2.elim (fun h => Or.inr (hgood.b h)) (fun h => Or.inl h))
    have hnm : nm.size / 64 = 0 := by
      rcases hn with hn | hn
      · have := A.nam_small (hgood.name hn)
        have h3 : nm.size ≤ 16 := this
        omega
      · have h3 : nm.size = 0 := of_decide_eq_true hn
        omega
    have hbd := cB_valid bd (d + 1) fun t k ht => hg t k (List.mem_cons_of_mem _ (List.mem_append.2 (Or.inl (List.mem_append.2 (Or.inr ht)))))
    have hel := cB_valid el (d + 1) fun t k ht => hg t k (List.mem_cons_of_mem _ (List.mem_append.2 (Or.inr ht)))
    rw [cS]
    simp only [List.length_cons, List.length_append]
    omega
theorem cB_valid : ∀ (l : List St) (d : Nat), (∀ t k, V.st t k ∈ preB l d → stE t k = 0) → cB l ≤ 3 * (preB l d).length
  | [], _, _ => by rw [cB]; omega
  | s :: r, d, hg => by
    rw [preB] at hg ⊢
    rw [cB, List.length_append]
    have h1 := cS_valid s d fun t k ht => hg t k (List.mem_append.2 (Or.inl ht))
    have h2 := cB_valid r d fun t k ht => hg t k (List.mem_append.2 (Or.inr ht))
    omega
end
theorem val_cB {p : Pr} (h : A.valE p = 0) : cB p.body ≤ 1200 := by
  obtain ⟨-, -, h3, h4⟩ := A.val_parts h
  have hw := A.walk_full h4
  have hfe := fun t k ht => A.first_each h3 t k ht
  rw [hw] at hfe h4
  have := cB_valid p.body 1 hfe
  omega
end Go.Proofs.YtkjefigebdbkaaaGreatDoor.N
namespace Go.Proofs.YtkjefigebdbkaaaGreatDoor.N
open Go.RowKit
open A (Ex Pr exV exO exV_mk exO_mk okE Bx RowK Own1 Stays exprs prV prO OkP PrIn)
open L (below_2 below_box ret_bool)

theorem exprs_len {p : Pr} (h : A.valE p = 0) : (exprs p).length ≤ 401 := by
  obtain ⟨-, -, -, h4⟩ := A.val_parts h
  unfold exprs
  have := List.length_filterMap_le A.V.rooted (A.walk p)
  omega
theorem drop_flatR {l : List Ex} {k : Nat} (hk : k < l.length) : (l.drop k).flatMap ops = ops l[k] ++ (l.drop (k + 1)).flatMap ops := by
  rw [List.drop_eq_getElem_cons hk, List.flatMap_cons]
set_option maxHeartbeats 8000000 in
set_option maxRecDepth 100000 in
theorem rFirst_any (p : Pr) (a1 a2 : Option Addr) (c1 c2 : Nat) (hok : OkP p) (w : World) (hK : PrIn w p a1 a2) :
    Calls Tryz.prog 7 #[prV p a1 c1 a2 c2] w fun e' w' => e' = .returned (.tuple #[.int .i64 (firstN p).1, .int .i64 (firstN p).2.1, .bool (firstN p).2.2]) ∧ Below w.heap.size w w' := by
  obtain ⟨W1, e1⟩ : ∃ z, z = w.alloc (.cells #[.string p.name, .slice a1 p.params.length c1, .slice a2 p.body.length c2] 25) := ⟨_, rfl⟩
  have bb1 : Below w.heap.size w W1 := by rw [e1]; exact below_box _ _
  have xx1 := Bx.new w #[.string p.name, .slice a1 p.params.length c1, .slice a2 p.body.length c2] 25
  rw [← e1] at xx1
  have HB := Lib.hid bb1
  have HX := Lib.hid xx1
  have HW : Hid (w.alloc (.cells #[.string p.name, .slice a1 p.params.length c1, .slice a2 p.body.length c2] 25) = W1) := by show _ = _; rw [← e1]
  have HV := Lib.hid (A.UB.rvalidate_any A.rstmt p a1 a2 c1 c2 hok W1 (hK.below bb1))
  have HXs : Hid (∀ w', Below W1.heap.size W1 w' → Calls Tryz.prog 22 #[prV p a1 c1 a2 c2] w' fun e' w'' => A.GivesXs w' (exprs p) e' w'') := fun w' hb => A.rexprs_any p a1 a2 c1 c2 hok.body hok.bodyLen w' (hK.below (below_2 bb1 hb)).body
  have HRo : Hid (A.valE p = 0 → ∀ k (h : k < (exprs p).length) a c w', A.Kids w' a (exprs p)[k].args → Calls Tryz.prog 23 #[exV (exprs p)[k] a c] w' (GivesI w' (ops (exprs p)[k])) ∧ (ops (exprs p)[k]).length ≤ 1200) := fun h0 k h a c w' hk => by
    have hv := A.exprs_ve hok.body _ (List.getElem_mem h)
    have h1 := ops_cE (exprs p)[k]
    have h2 := val_cB h0
    exact ⟨rOps_any _ a c w' hv.1 (by omega) hk, by omega⟩
  have HLn : Hid (A.valE p = 0 → (exprs p).length ≤ 401) := fun h0 => exprs_len h0
  obtain ⟨R, hR⟩ : ∃ R, firstN p = R := ⟨_, rfl⟩
  rw [hR]
  unfold firstN allOps at hR
  have HR := Lib.hid hR
  clear e1 bb1 xx1 hok hK hR
  obtain ⟨R1, R2, R3⟩ := R
  generalize A.valE p = x at *
  unfold prV at *
  dsimp only
  by_cases h0 : x = 0
  case neg =>
    have b1 : (x != 0) = true := bne_iff_ne.2 h0
    have h := HR.out
    rw [if_pos h0] at h
    cases h
    clear h0 HR
    go_enter Tryz.func7, Tryz.ntmps7
    go_wp2_with fail
    rw [HW.out]
    have x0 := HX.out.cell 0
    have x1 := HX.out.cell 1
    have x2 := HX.out.cell 2
    simp only [List.getElem?_toArray, List.getElem?_cons_zero, List.getElem?_cons_succ] at x0 x1 x2
    go_wp2_with fail
    refine HV.out.mono ?_; rintro e' w2 ⟨rfl, hb2⟩
    have HB2 := Lib.hid (below_2 HB.out hb2)
    clear hb2 x0 x1 x2
    go_wp2_with fail
    go_ret3
    exact ⟨rfl, HB2.out⟩
  subst h0
  have hfs : fstF 0 ((exprs p).flatMap ops) = (R1, R2, R3) := by have h := HR.out; rw [if_neg (fun z => z rfl)] at h; exact h
  have HRo2 := Lib.hid (HRo.out rfl)
  have hln := HLn.out rfl
  clear HR HRo HLn
  generalize exprs p = rs at *
  have HF0 : Hid (fstF ((0 : Nat) : Int) ((rs.drop 0).flatMap ops) = (R1, R2, R3)) := hfs
  clear hfs
  go_enter Tryz.func7, Tryz.ntmps7
  go_wp2_with fail
  rw [HW.out]
  have x0 := HX.out.cell 0
  have x1 := HX.out.cell 1
  have x2 := HX.out.cell 2
  simp only [List.getElem?_toArray, List.getElem?_cons_zero, List.getElem?_cons_succ] at x0 x1 x2
  go_wp2_with fail
  refine HV.out.mono ?_; rintro e' w2 ⟨rfl, hb2⟩
  have y0 := (HX.out.below hb2).cell 0
  have y1 := (HX.out.below hb2).cell 1
  have y2 := (HX.out.below hb2).cell 2
  simp only [List.getElem?_toArray, List.getElem?_cons_zero, List.getElem?_cons_succ] at y0 y1 y2
  have HXs2 := Lib.hid (HXs.out w2 hb2)
  have HB2 := Lib.hid (below_2 HB.out hb2)
  clear hb2 x0 x1 x2 HXs
  go_wp2_with fail
  refine HXs2.out.mono ?_; rintro e' w3 ⟨pa, pq, rfl, hkd, hb3⟩
  have HKd := Lib.hid hkd
  have HB3 := Lib.hid (below_2 HB2.out hb3)
  clear hkd hb3 y0 y1 y2 HXs2
  obtain ⟨g, hg⟩ : ∃ g, rs.length = g := ⟨_, rfl⟩
  have HL := Lib.hid hg
  rw [hg] at hln ⊢
  clear hg
  go_wp2_with fail
  go_loopw [6, 7] (fun s6 s7 wr => ∃ (i n : Nat), i ≤ g ∧ s7 = .int .i64 i ∧ s6 = .int .i64 n ∧ n ≤ 1300 * i ∧ Hid (fstF (n : Int) ((rs.drop i).flatMap ops) = (R1, R2, R3)) ∧ Hid (Below w3.heap.size w3 wr)) (fun _ s7 _ => g - (intOf s7).toNat)
  case atStart => exact ⟨0, 0, Nat.zero_le _, rfl, rfl, Nat.zero_le _, HF0.out, Below.refl _ _⟩
  case round =>
    clear HF0
    obtain ⟨i, n, hi, rfl, rfl, hni, HF, HBr⟩ := hrel
    by_cases hlt : i < g
    · have hlx : i < rs.length := by rw [HL.out]; exact hlt
      obtain ⟨b2, i2, rfl, hat⟩ := (HKd.out.below HBr.out).open hlx
      obtain ⟨d0, d1, d2, a3, cc, d3, hk3⟩ := hat.open
      obtain ⟨hop, hlen⟩ := HRo2.out i hlx a3 cc wr hk3
      have hfl := HF.out
      rw [drop_flatR hlx] at hfl
      have HOp := Lib.hid hop
      clear hat hk3 hop
      unfold exV at HOp
      generalize ops rs[i] = l at HOp hlen hfl
      generalize rs[i].args.length = m2 at d3 HOp
      generalize rs[i].op = o2 at d0 HOp
      generalize rs[i].n = n2 at d1 HOp
      generalize rs[i].s = s2 at d2 HOp
      have HF2 : Hid (fstF (n : Int) ((l.drop 0) ++ (rs.drop (i + 1)).flatMap ops) = (R1, R2, R3)) := hfl
      clear hfl
      go_wp2_with fail
      refine HOp.out.mono ?_; rintro e' w5 ⟨la, lq, rfl, hin, hb5⟩
      have HIn := Lib.hid hin
      have HB5 := Lib.hid (HBr.out.trans (hb5.mono HBr.out.size))
      clear hin hb5 d0 d1 d2 d3
      obtain ⟨m, hm⟩ : ∃ m, l.length = m := ⟨_, rfl⟩
      have HM := Lib.hid hm
      rw [hm] at hlen ⊢
      clear hm
      go_wp2_with fail
      go_loopw [6, 9] (fun s6 s9 wq => ∃ (k : Nat), k ≤ m ∧ s9 = .int .i64 k ∧ s6 = .int .i64 ((n + k : Nat) : Int) ∧ Hid (fstF ((n + k : Nat) : Int) ((l.drop k) ++ (rs.drop (i + 1)).flatMap ops) = (R1, R2, R3)) ∧ wq = w5) (fun _ s9 _ => m - (intOf s9).toNat)
      case atStart => exact ⟨0, Nat.zero_le _, rfl, rfl, HF2.out, rfl⟩
      case round =>
        clear HF2
        obtain ⟨k, hk, rfl, rfl, HFk, rfl⟩ := hrel
        by_cases hkm : k < m
        · have hkl : k < l.length := by rw [HM.out]; exact hkm
          obtain ⟨b3, i3, rfl, hcc⟩ := HIn.out.open hkl
          have f0 := hcc k hkl
          have hfk := HFk.out
          rw [List.drop_eq_getElem_cons hkl, List.cons_append, fstF] at hfk
          have HI1 := Lib.hid (fun (w' : World) => risN_any l[k] w')
          obtain ⟨b, hb⟩ : ∃ b, isN l[k] = b := ⟨_, rfl⟩
          rw [hb] at HI1 hfk
          clear hb hcc
          generalize l[k] = y at *
          obtain ⟨t, ht⟩ : ∃ t, n + k = t := ⟨_, rfl⟩
          have htb : t ≤ 600000 := by omega
          have htn : t + 1 = n + (k + 1) := by omega
          rw [ht] at hfk ⊢
          have HTn := Lib.hid htn
          clear ht htn
          cases b with
          | true =>
            rw [if_pos rfl] at hfk
            cases hfk
            have HBf := Lib.hid (HB3.out.trans (HB5.out.mono HB3.out.size))
            go_wp2_with fail
            refine (HI1.out _).mono ?_; rintro e' w' ⟨rfl, rfl⟩
            go_wp2_with fail
            go_ret3
            exact ⟨rfl, HBf.out⟩
          | false =>
            rw [if_neg (by decide)] at hfk
            have HFn : Hid (fstF ((n + (k + 1) : Nat) : Int) ((l.drop (k + 1)) ++ (rs.drop (i + 1)).flatMap ops) = (R1, R2, R3)) := by
              show _ = _
              rw [← HTn.out]
              exact hfk
            clear hfk
            go_wp2_with fail
            refine (HI1.out _).mono ?_; rintro e' w' ⟨rfl, rfl⟩
            go_wp2_with fail
            go_roundw
            case rel => exact ⟨k + 1, by omega, by go_num, by rw [← HTn.out]; go_num, HFn.out, trivial⟩
            case measure => simp [intOf]; omega
        · obtain rfl : k = m := by omega
          have HFn : Hid (fstF ((n + k : Nat) : Int) ((rs.drop (i + 1)).flatMap ops) = (R1, R2, R3)) := by
            have h := HFk.out
            rw [List.drop_of_length_le (by rw [HM.out]; exact Nat.le_refl _), List.nil_append] at h
            exact h
          go_wp2_with fail
          go_roundw
          case rel => exact ⟨i + 1, n + k, by omega, by go_num, rfl, by omega, HFn.out, HB5.out⟩
          case measure => simp [intOf]; omega
    · have h := HF.out
      rw [List.drop_of_length_le (by rw [HL.out]; omega), List.flatMap_nil, fstF] at h
      cases h
      have HBf := Lib.hid (below_2 HB3.out HBr.out)
      go_wp2_with fail
      go_ret3
      exact ⟨rfl, HBf.out⟩
end Go.Proofs.YtkjefigebdbkaaaGreatDoor.N
namespace Go.Proofs.YtkjefigebdbkaaaGreatDoor.Y
open Go.RowKit
open L (Str isName prt size_len below_2 below_box ret_bool ret_int eql_eq bytes_eq)
open A (Ex St Pm Pr V arity vE vEs absent exV exO Bx exV_mk exO_mk okE cE PmsAt)

theorem look_drop {l : List Pm} {k : Nat} (hk : k < l.length) (x : ByteArray) : look (l.drop k) x = if l[k].name = x then some l[k].ty else look (l.drop (k + 1)) x := by
  rw [List.drop_eq_getElem_cons hk, look_cons]
set_option maxHeartbeats 4000000 in
set_option maxRecDepth 100000 in
theorem rlookup_any (vs : List Pm) (a : Option Addr) (c : Nat) (x : ByteArray) (hl : vs.length ≤ 1000000000000000) (w : World) (hK : PmsAt w a vs) :
    Calls Tryz.prog 110 #[.slice a vs.length c, .string x] w fun e' w' => e' = .returned (.tuple #[.int .i64 (tyV (look vs) x).1, .int .i64 (tyV (look vs) x).2]) ∧ w' = w := by
  have HK := Lib.hid hK
  obtain ⟨R, hR⟩ : ∃ R, tyV (look vs) x = R := ⟨_, rfl⟩
  rw [hR]
  have HR : Hid (tyV (look (vs.drop 0)) x = R) := hR
  obtain ⟨c1, c2⟩ := R
  obtain ⟨m, hm⟩ : ∃ m, vs.length = m := ⟨_, rfl⟩
  have HL := Lib.hid hm
  rw [hm] at hl ⊢
  clear hm hR hK
  go_enter Tryz.func110, Tryz.ntmps110
  go_wp2_with fail
  go_loopw [6] (fun s6 wr => ∃ k : Nat, k ≤ m ∧ s6 = .int .i64 k ∧ Hid (tyV (look (vs.drop k)) x = (c1, c2)) ∧ wr = w) (fun s6 _ => m - (intOf s6).toNat)
  case atStart => exact ⟨0, Nat.zero_le _, rfl, HR, rfl⟩
  case round =>
    obtain ⟨k, hk, rfl, HX, rfl⟩ := hrel
    by_cases hlt : k < m
    · have hlx : k < vs.length := by rw [HL.out]; exact hlt
      obtain ⟨b3, i3, rfl, hcc⟩ := HK.out.open hlx
      obtain ⟨f0, f1⟩ := hcc k hlx
      have hlk := look_drop hlx x
      have hx := HX.out
      generalize vs[k] = q at f0 f1 hlk
      have hb := A.bytes_dec q.name x
      clear hcc
      by_cases hn : q.name = x
      · rw [decide_eq_true hn] at hb
        rw [if_pos hn] at hlk
        rw [tyV_some hlk] at hx
        clear hlk hn
        by_cases h1 : q.ty < 1
        · rw [if_neg (by omega)] at hx
          have HV : Hid (0 = c1 ∧ (10 : Int) = c2) := by injection hx with h1 h2; exact ⟨h1, h2⟩
          have b1 : decide (q.ty < 1) = true := decide_eq_true h1
          clear h1 hx
          go_wp2_with fail
          go_ret2
          exact ⟨ret_2 HV.out.1 HV.out.2, rfl⟩
        · have b1 : decide (q.ty < 1) = false := decide_eq_false h1
          by_cases h2 : 3 < q.ty
          · rw [if_neg (by omega)] at hx
            have HV : Hid (0 = c1 ∧ (10 : Int) = c2) := by injection hx with h1 h2; exact ⟨h1, h2⟩
            have b2 : decide (3 < q.ty) = true := decide_eq_true h2
            clear h1 h2 hx
            go_wp2_with fail
            go_ret2
            exact ⟨ret_2 HV.out.1 HV.out.2, rfl⟩
          · rw [if_pos (by omega)] at hx
            have HV : Hid (q.ty = c1 ∧ (0 : Int) = c2) := by injection hx with h1 h2; exact ⟨h1, h2⟩
            have b2 : decide (3 < q.ty) = false := decide_eq_false h2
            clear h1 h2 hx
            go_wp2_with fail
            go_ret2
            exact ⟨ret_2 HV.out.1 HV.out.2, rfl⟩
      · rw [decide_eq_false hn] at hb
        rw [if_neg hn] at hlk
        have HX2 : Hid (tyV (look (vs.drop (k + 1))) x = (c1, c2)) := by
          show _ = _
          rw [← hx]; unfold tyV; rw [hlk]
        clear hlk hn hx
        go_wp2_with fail
        go_roundw
        case rel => exact ⟨k + 1, by omega, by go_num, HX2.out, trivial⟩
        case measure => simp [intOf]; omega
    · have hx := HX.out
      rw [List.drop_of_length_le (by rw [HL.out]; omega), tyV_none rfl] at hx
      have HV : Hid (0 = c1 ∧ (11 : Int) = c2) := by injection hx with h1 h2; exact ⟨h1, h2⟩
      clear hx
      go_wp2_with fail
      go_ret2
      exact ⟨ret_2 HV.out.1 HV.out.2, rfl⟩
set_option maxHeartbeats 4000000 in
set_option maxRecDepth 100000 in
theorem runary_any {o : Int} (ho : o = 9 ∨ o = 18 ∨ o = 20 ∨ o = 21 ∨ o = 22 ∨ o = 23 ∨ o = 24) (w : World) :
    Calls Tryz.prog 131 #[.int .i64 o] w fun e' w' => e' = .returned (.tuple #[.int .i64 (unW o), .int .i64 (unO o)]) ∧ w' = w := by
  rcases ho with rfl | rfl | rfl | rfl | rfl | rfl | rfl
  all_goals
    go_enter Tryz.func131, Tryz.ntmps131
    go_wp2_with fail
    go_ret2
    exact ⟨ret_2 (by decide) (by decide), rfl⟩
set_option maxHeartbeats 8000000 in
set_option maxRecDepth 100000 in
theorem rbinary_any {o : Int} (ho : 4 ≤ o ∧ o ≤ 19 ∧ o ≠ 9 ∧ o ≠ 18) {a b : Int} (ha : 1 ≤ a ∧ a ≤ 3) (w : World) :
    Calls Tryz.prog 132 #[.int .i64 o, .int .i64 a, .int .i64 b] w fun e' w' => e' = .returned (.int .i64 (biO o a b)) ∧ w' = w := by
  by_cases hab : a = b
  · subst hab
    have h7 : o = 4 ∨ o = 5 ∨ o = 6 ∨ o = 7 ∨ o = 8 ∨ o = 10 ∨ o = 11 ∨ o = 12 ∨ o = 13 ∨ o = 14 ∨ o = 15 ∨ o = 16 ∨ o = 17 ∨ o = 19 := by omega
    have ha3 := rng_cases ha
    clear ho ha
    rcases h7 with rfl | rfl | rfl | rfl | rfl | rfl | rfl | rfl | rfl | rfl | rfl | rfl | rfl | rfl <;> rcases ha3 with rfl | rfl | rfl
    all_goals
      go_enter Tryz.func132, Tryz.ntmps132
      go_wp2_with fail
      go_ret
      exact ⟨ret_int (by decide), rfl⟩
  · have hb : biO o a b = 0 := by unfold biO; rw [if_pos hab]
    have b1 : (a != b) = true := bne_iff_ne.2 hab
    rw [hb]
    clear hb hab ho ha
    go_enter Tryz.func132, Tryz.ntmps132
    go_wp2_with fail
    go_ret
    exact ⟨rfl, rfl⟩
def leafR (f : Env) (e : Ex) : Int × Int := if e.op = 3 then tyV f e.s else if e.op = 2 then (2, 0) else (1, 0)
set_option maxHeartbeats 4000000 in
set_option maxRecDepth 100000 in
theorem rleaf_any (e : Ex) (a : Option Addr) (c : Nat) (vs : List Pm) (av : Option Addr) (cv : Nat) (hl : vs.length ≤ 1000000000000000) (w : World) (hP : PmsAt w av vs) :
    Calls Tryz.prog 130 #[exV e a c, .slice av vs.length cv] w fun e' w' => e' = .returned (.tuple #[.int .i64 (leafR (look vs) e).1, .int .i64 (leafR (look vs) e).2]) ∧ Below w.heap.size w w' := by
  obtain ⟨o, n, s, l⟩ := e
  have hw := below_box w (exO (.mk o n s l) a c)
  have HC := Lib.hid (rlookup_any vs av cv s hl _ (hP.below hw))
  have HW := Lib.hid hw
  simp only [exV_mk, exO_mk] at *
  have hr : leafR (look vs) (.mk o n s l) = if o = 3 then tyV (look vs) s else if o = 2 then (2, 0) else (1, 0) := rfl
  obtain ⟨Q, hQ⟩ : ∃ Q, leafR (look vs) (.mk o n s l) = Q := ⟨_, rfl⟩
  rw [hQ] at hr ⊢
  clear hQ
  generalize vs.length = m at *
  generalize tyV (look vs) s = R at *
  obtain ⟨r1, r2⟩ := R
  obtain ⟨q1, q2⟩ := Q
  clear hw hP
  by_cases h3 : o = 3
  · rw [if_pos h3] at hr
    have HV : Hid (r1 = q1 ∧ r2 = q2) := by injection hr with h1 h2; exact ⟨h1.symm, h2.symm⟩
    clear hr
    subst h3
    go_enter Tryz.func130, Tryz.ntmps130
    go_wp2_with fail
    refine HC.out.mono ?_; rintro e' w2 ⟨rfl, rfl⟩
    go_wp2_with fail
    go_ret2
    exact ⟨ret_2 HV.out.1 HV.out.2, HW.out⟩
  · have b3 : (o == 3) = false := beq_eq_false_iff_ne.2 h3
    rw [if_neg h3] at hr
    by_cases h2 : o = 2
    · rw [if_pos h2] at hr
      have HV : Hid ((2 : Int) = q1 ∧ (0 : Int) = q2) := by injection hr with h1 h2; exact ⟨h1.symm, h2.symm⟩
      clear hr
      subst h2
      clear b3 h3
      go_enter Tryz.func130, Tryz.ntmps130
      go_wp2_with fail
      go_ret2
      exact ⟨ret_2 HV.out.1 HV.out.2, HW.out⟩
    · have b2 : (o == 2) = false := beq_eq_false_iff_ne.2 h2
      rw [if_neg h2] at hr
      have HV : Hid ((1 : Int) = q1 ∧ (0 : Int) = q2) := by injection hr with h1 h2; exact ⟨h1.symm, h2.symm⟩
      clear h2 h3 hr
      go_enter Tryz.func130, Tryz.ntmps130
      go_wp2_with fail
      go_ret2
      exact ⟨ret_2 HV.out.1 HV.out.2, HW.out⟩
end Go.Proofs.YtkjefigebdbkaaaGreatDoor.Y
