/-
  Expressions as arguments where the bulk is bounded: how many nodes they have.
  The reference of layer 12: the operators of an expression's nodes: contract.
  The reference of layer 12: Pure and Reads: contracts.
  The laws of layer 12: Pure and Reads return what the specification says.
-/
import Derived.Test.YtgjnddjpinhkgaaQABase
import Derived.Test.YtgjnddjpinhkgaaQNPlain
import Derived.Test.YtgjnddjpinhkgaaM06
import Derived.Deep.AppendLies
import Derived.Laws.OwnMore
import Derived.Test.YtgjnddjpinhkgaaM11
import Derived.Lib.QuietBelow
namespace Go.Proofs.Ytgjnddjpinhkgaa.N
open Go.ChangeShapes Go.WideShapes Go.ChangeAt Go.WideMaps Go.WideElems Go.RowKit Go.Joins
open L (size_len)
open A (Ex exV okE okEs Kids ExsAt ExAt bounds_i64 four spot_none)
section
variable {H : Type} {enc : TypeId × Value → H} {w : World} {base b0 : Nat} {spare : Nat → Bool} {held : Bool}
def ExB (enc : TypeId × Value → H) (w : World) (base : Nat) (spare : Nat → Bool) (held : Bool) (n : Nat) : Prop :=
  ∀ (cs : List Value) (y : DataW H × List MemPlace), DataW.trod enc Try.prog w base spare held n 24 cs = some y →
    ∃ (e : Ex) (a : Option Addr) (c : Nat), cs = [.int .i64 e.op, .int .i64 e.n, .string e.s, .slice a e.args.length c] ∧ A.Kids w a e.args ∧ (ops e).length ≤ Rows.uptoBulk y.1 ∧ (Rows.uptoBulk y.1 ≤ 1048576 → okE e)
theorem one_le (d : DataW H) : 1 ≤ Rows.uptoBulk d := by
  cases d with
  | lit l => cases l <;> simp [Rows.uptoBulk]
  | nil => simp [Rows.uptoBulk]
  | ptr d => simp [Rows.uptoBulk]
  | slice elems spare => simp [Rows.uptoBulk]
  | agg parts => simp [Rows.uptoBulk]
  | iface t d => simp [Rows.uptoBulk]
  | map entries => simp [Rows.uptoBulk]
  | held h => simp [Rows.uptoBulk]
theorem length_le (l : List (DataW H)) : l.length ≤ Rows.uptoBulkAll l := by
  induction l with
  | nil => simp [Rows.uptoBulkAll]
  | cons x r ih => have := one_le x; simp only [Rows.uptoBulkAll, List.length_cons]; omega
theorem kids_ofB {n : Nat} (IH : ExB enc w base spare held n) : ∀ (elems : List (DataW H × List MemPlace)) (b i : Nat),
    (∀ j, j < elems.length → (w.cells? base ⟨b, i + j * 4, none⟩ 4).bind (DataW.trod enc Try.prog w base spare held n 24) = elems[j]?) →
    ∃ l : List Ex, l.length = elems.length ∧ ExsAt w l b i ∧ (l.flatMap ops).length ≤ Rows.uptoBulkAll (elems.map (·.1)) ∧ (Rows.uptoBulkAll (elems.map (·.1)) ≤ 1048576 → okEs l)
  | [], _, _, _ => ⟨[], rfl, by rw [ExsAt]; trivial, Nat.zero_le _, fun _ => by rw [okEs]; trivial⟩
  | y :: r, b, i, h => by
    have h0 := h 0 (by simp)
    rw [List.getElem?_cons_zero, Option.bind_eq_some_iff] at h0
    obtain ⟨cs, hcs, hy⟩ := h0
    obtain ⟨e, a, c, rfl, hk, hn, hr⟩ := IH cs y hy
    have hc := (World.cells?_some hcs).2.2
    rw [Nat.zero_mul, Nat.add_zero] at hc
    obtain ⟨l, hl, hat, hn2, hrl⟩ := kids_ofB IH r b (i + 4) (fun j hj => by
      have := h (j + 1) (by simpa using hj)
      rw [List.getElem?_cons_succ] at this
      rw [show i + 4 + j * 4 = i + (j + 1) * 4 by omega]
      exact this)
    refine ⟨e :: l, by simp [hl], ?_, ?_, fun hw => ?_⟩
    · rw [ExsAt]
      refine ⟨?_, hat⟩
      have c0 := hc 0 (by decide)
      have c1 := hc 1 (by decide)
      have c2 := hc 2 (by decide)
      have c3 := hc 3 (by decide)
      rw [add_plain] at c0 c1 c2 c3
      obtain ⟨o, m, s, args⟩ := e
      rw [ExAt]
      exact ⟨c0, c1, c2, a, c, c3, hk⟩
    · rw [List.flatMap_cons, List.length_append, List.map_cons]
      simp only [Rows.uptoBulkAll]
      omega
    · rw [List.map_cons] at hw
      simp only [Rows.uptoBulkAll] at hw
      rw [okEs]
      exact ⟨hr (by omega), hrl (by omega)⟩
theorem slice_exB {n : Nat} (IH : ∀ m, m < n → ExB enc w base spare held m) {cs : List Value} {y : DataW H × List MemPlace} (h : DataW.trod enc Try.prog w base spare held n 22 cs = some y) :
    ∃ (l : List Ex) (a : Option Addr) (c : Nat), cs = [.slice a l.length c] ∧ A.Kids w a l ∧ (l.flatMap ops).length + 1 ≤ Rows.uptoBulk y.1 ∧ (Rows.uptoBulk y.1 ≤ 1048576 → l.length ≤ 1000000000000000 ∧ okEs l) := by
  rcases DataW.trod_slice Try.underlying22 h with ⟨hcs, hx⟩ | ⟨a, len, cap, elems, rest, m, hm, hcs, hx, hb, hl, hmx, hlen, hel, _, _⟩
  · exact ⟨[], none, 0, hcs, Or.inl rfl, one_le _, fun _ => ⟨Nat.zero_le _, by rw [okEs]; trivial⟩⟩
  · rw [A.cellsEx] at hel
    subst hlen
    have hlen2 : elems.length ≤ Rows.uptoBulkAll (elems.map (·.1)) := by
      have := length_le (elems.map (·.1))
      rw [List.length_map] at this
      exact this
    by_cases h0 : elems.length = 0
    · refine ⟨[], some a, cap, by rw [hcs, h0]; rfl, Or.inl rfl, one_le _, fun _ => ⟨Nat.zero_le _, by rw [okEs]; trivial⟩⟩
    · have hsp : a.spot = none := by
        have := hel 0 (by omega)
        rw [List.getElem?_eq_getElem (by omega)] at this
        exact spot_none (by decide) this
      obtain ⟨b, i, spot⟩ := a
      simp only at hsp
      subst hsp
      obtain ⟨l, hll, hat, hn, hr⟩ := kids_ofB (IH m (by omega)) elems b i (fun j hj => by
        have := hel j hj
        rw [add_plain] at this
        exact this)
      refine ⟨l, some ⟨b, i, none⟩, cap, by rw [hcs, hll], Or.inr ⟨b, i, rfl, hat⟩, ?_, fun hw => ?_⟩
      · rw [hx]
        simp only [Rows.uptoBulk]
        omega
      · rw [hx] at hw
        simp only [Rows.uptoBulk] at hw
        exact ⟨by rw [hll]; omega, hr (by omega)⟩
theorem ex_readsB : ∀ n, ExB enc w base spare held n := by
  intro n
  induction n using Nat.strongRecOn with
  | ind n IH =>
    intro cs y h
    obtain ⟨xs, m, hm, hx, hl, hlen, hf⟩ := DataW.trod_struct Try.underlying24 h
    rw [A.cellsEx] at hl
    obtain ⟨c0, c1, c2, c3, rfl⟩ := four hl
    match xs, hlen, hx, hf with
    | [x0, x1, x2, x3], _, hx, hf =>
      have f0 := hf 0 _ rfl
      have f1 := hf 1 _ rfl
      have f2 := hf 2 _ rfl
      have f3 := hf 3 _ rfl
      obtain ⟨o, e0, e0', w0⟩ := DataW.trod_int Try.underlying3 f0
      obtain ⟨k, e1, e1', w1⟩ := DataW.trod_int Try.underlying2 f1
      obtain ⟨s, e2, e2', w2⟩ := DataW.trod_string Try.underlying9 f2
      obtain ⟨l, a, c, e3, hk, hn, hr⟩ := slice_exB (n := m) (fun i hi => IH i (by omega)) f3
      simp [A.cellsStr, A.cellsInt, A.cellsI64, A.cellsExs] at e0 e1 e2 e3
      subst e0 e1 e2 e3 e0' e1' e2'
      refine ⟨.mk o k s l, a, c, rfl, hk, ?_, fun hw => ?_⟩
      · rw [hx, ops_mk]
        simp only [List.map_cons, List.map_nil, Rows.uptoBulk, Rows.uptoBulkAll, List.length_cons]
        omega
      · rw [hx] at hw
        simp only [List.map_cons, List.map_nil, Rows.uptoBulk, Rows.uptoBulkAll] at hw
        obtain ⟨h1, h2⟩ := hr (by omega)
        rw [okE]
        have hs := size_len s
        exact ⟨bounds_i64 w0, bounds_i64 w1, by omega, h1, h2⟩
set_option maxRecDepth 100000 in
/-- an expression as an argument -/
theorem open_exB {v : Value} {d : DataW H} {p : List MemPlace} (hv : Value.okWide Try.prog w .any b0 24 v) (h : DataW.Trod enc Try.prog w base spare held 24 v d p) :
    ∃ (e : Ex) (a : Option Addr) (c : Nat), v = exV e a c ∧ A.Kids w a e.args ∧ (ops e).length ≤ Rows.uptoBulk d ∧ (Rows.uptoBulk d ≤ 1048576 → okE e) := by
  obtain ⟨cs, rfl, hsz⟩ := okWide_struct Try.underlying24 hv
  obtain ⟨fuel, hf⟩ := h
  have hc : (Value.agg cs).cells.toList = cs.toList := by simp [Value.cells]
  rw [hc] at hf
  obtain ⟨e, a, c, he, hk, hn, hr⟩ := ex_readsB fuel _ _ hf
  refine ⟨e, a, c, ?_, hk, hn, hr⟩
  unfold exV
  congr 1
  exact Array.toList_inj.1 (by rw [he])
end
end Go.Proofs.Ytgjnddjpinhkgaa.N
namespace Go.Proofs.Ytgjnddjpinhkgaa.N
open Go.RowKit
open A (Ex exV exO exV_mk exO_mk okE Bx RowK Own1 Stays)
open L (below_2 below_box ret_bool)

theorem info_i : (Try.prog.info? 3).map (fun i => (i.zero, i.size, i.bytes)) = some (some (.int .i64 0), 1, 8) := by kernel_rfl
def kI : RowK Int where
  f := fun x => [.int .i64 x]
  size := 1
  bytes := 8
  t := 31
  e := 3
  z := .int .i64 0
  inn := fun _ _ _ => True
  und := Try.underlying31
  info := info_i
  len := fun _ => rfl
  one := fun x u hu => by simp at hu; rw [hu]; rfl
  pos := by decide
  zs := rfl
  small := by decide
  next := fun _ _ => trivial
/-- integers in memory -/
def IntsAt (w : World) (a : Option Addr) (l : List Int) : Prop := l = [] ∨ ∃ b i, a = some ⟨b, i, none⟩ ∧ ∀ j (h : j < l.length), w.cell? ⟨b, i + j, none⟩ = some (.int .i64 l[j])
theorem IntsAt.below {w w' : World} {a : Option Addr} {l : List Int} (h : IntsAt w a l) (hb : Below w.heap.size w w') : IntsAt w' a l := by
  rcases h with h | ⟨b, i, ha, h⟩
  · exact Or.inl h
  · exact Or.inr ⟨b, i, ha, fun j hj => (hb.cell (block_lt_of_cell (h j hj))).trans (h j hj)⟩
theorem IntsAt.open {w : World} {a : Option Addr} {l : List Int} (h : IntsAt w a l) {k : Nat} (hk : k < l.length) : ∃ b i, a = some ⟨b, i, none⟩ ∧ ∀ j (h : j < l.length), w.cell? ⟨b, i + j, none⟩ = some (.int .i64 l[j]) :=
  h.resolve_left (fun e => by rw [e] at hk; exact absurd hk (Nat.not_lt_zero _))
theorem own_ints {w : World} {b0 : Nat} {Z : Nat → Prop} {p : Option Addr} {q : Nat} {l : List Int} (h : Own1 kI w b0 Z (.slice p l.length q) l) : IntsAt w p l := by
  by_cases h0 : l = []
  · exact Or.inl h0
  · obtain ⟨g, rfl, _, _⟩ := h.cell (List.length_pos_iff.2 h0)
    refine Or.inr ⟨g, 0, rfl, fun j hj => ?_⟩
    obtain ⟨g2, hg, _, hc⟩ := h.cell hj
    cases hg
    have := hc 0 (by decide)
    rw [Nat.zero_add]
    rw [show j * kI.size + 0 = j from Nat.mul_one j] at this
    exact this
theorem flat_getI (l : List Int) (j : Nat) (u : Value) (h : (kI.cs l)[j]? = some u) : ∃ hj : j < l.length, u = .int .i64 l[j] := by
  have hlt := (List.getElem?_eq_some_iff.1 h).1
  rw [RowK.cs_len] at hlt
  have hs : kI.size = 1 := rfl
  rw [hs] at hlt
  have hj : j < l.length := by omega
  have hg := RowK.cs_get kI l j hj 0 (by decide)
  rw [hs, Nat.mul_one, Nat.add_zero, h] at hg
  exact ⟨hj, Option.some.inj hg⟩
/-- integers joined to integers of the call's own -/
theorem wpList_append_ints {w : World} {ops : Array Oper} {rest : List Oper} {o : Oper} {a : Act} {Q : Exit → Act → World → Prop} (hgd : o.guard = none) (s x : Operand)
    (ho : o.op = .call { callee := .builtin .append, args := #[s, x], argTypes := #[31, 31] })
    (base : Nat) (Z : Nat → Prop) (p : Option Addr) (n q : Nat) (l m : List Int) (hn : n = l.length) (hs : a.eval s = .slice p n q) (hown : Own1 kI w base Z (.slice p l.length q) l)
    (xa : Option Addr) (mm xc : Nat) (hmm : mm = m.length) (hx : a.eval x = .slice xa mm xc) (hP : IntsAt w xa m) (hm0 : 0 < m.length) (hl : l.length + m.length ≤ 1000000000000) (hbase : base ≤ w.heap.size) (hZ : ∀ k, Z k → k < base)
    (h : ∀ p' q' w', Own1 kI w' base Z (.slice p' (l ++ m).length q') (l ++ m) → w.grownBy w' (Value.slice p l.length q).ownBlock → Go.wpList Try.prog ops Q rest (a.put o.dst (.slice p' (n + mm) q')) w') :
    Go.wpList Try.prog ops Q (o :: rest) a w := by
  subst hn hmm
  obtain ⟨i0, hi, hz0, hz1, hz2⟩ := A.info_parts3 kI.info
  rcases hP with h0 | ⟨b, i, rfl, hc⟩
  · rw [h0] at hm0; exact absurd hm0 (Nat.lt_irrefl _)
  · refine wpList_append_lies _ hgd s x kI.t ho base kI.e i0 _ kI.size kI.bytes kI.und hi hz0 hz1 hz2 kI.zs kI.pos (.slice p l.length q) l.length (kI.cs l) hs hown.row ⟨b, i, none⟩ m.length xc (kI.cs m) hx (RowK.cs_len kI m) ?_ ?_ (by omega) (by unfold maxLen; omega) ?_ hbase w.heap.size rfl ?_
    · intro j u hu
      obtain ⟨hj, rfl⟩ := flat_getI m j u hu
      rw [WideShapes.add_plain]
      exact hc j hj
    · intro u hu
      obtain ⟨y, hy, hu⟩ := List.mem_flatMap.1 hu
      exact kI.one y u hu
    · show (l.length + m.length) * 8 ≤ _
      omega
    · intro g cap w' h1 h2 h3 _
      refine h (some ⟨g, 0, none⟩) cap w' ⟨?_, fun g' hg hz => ?_, fun _ _ => trivial⟩ h2
      · rw [List.length_append, RowK.cs_app]; exact h1
      · have hk2 : g = g' := by injection hg
        subst hk2
        have := hZ g hz
        rcases h3 with h3 | h3
        · have := (hown.lt g h3).1; omega
        · omega
theorem own_lit (w : World) (o : Int) : Own1 kI (w.alloc (.cells #[.int .i64 o] 3)) w.heap.size (fun _ => False) (.slice (some ⟨w.heap.size, 0, none⟩) 1 1) [o] :=
  ⟨World.ownsRow_lit w #[.int .i64 o] 1 (Nat.le_refl _) (by decide) rfl, fun _ _ h => h, fun _ _ => trivial⟩
def GivesI (w : World) (x : List Int) (e' : Ending) (w' : World) : Prop := ∃ p q, e' = .returned (.slice p x.length q) ∧ IntsAt w' p x ∧ Below w.heap.size w w'
theorem ops_pos (e : Ex) : 0 < (ops e).length := by rw [ops_op]; simp
theorem take_flatR {l : List Ex} {k : Nat} (hk : k < l.length) : (l.take (k + 1)).flatMap ops = (l.take k).flatMap ops ++ ops l[k] := by
  rw [List.take_succ_eq_append_getElem hk, List.flatMap_append]
  simp
theorem take_preR (l : List Ex) (k : Nat) : ((l.take k).flatMap ops).length ≤ (l.flatMap ops).length := by
  conv => rhs; rw [← List.take_append_drop k l]
  rw [List.flatMap_append, List.length_append]; omega
def QO (e : Ex) : Prop := ∀ (a : Option Addr) (c : Nat) (w : World), okE e → (ops e).length ≤ 1000000000 → A.Kids w a e.args → Calls Try.prog 13 #[exV e a c] w (GivesI w (ops e))
set_option maxHeartbeats 8000000 in
set_option maxRecDepth 100000 in
theorem rOps_any : ∀ e, QO e := by
  refine A.Ex.ind (P := QO) ?_
  intro o n s l ih a c w hok hlen hK
  have hK' : A.Kids w a l := hK
  have hb := below_box w (exO (.mk o n s l) a c)
  have hbx := Bx.new w #[.int .i64 o, .int .i64 n, .string s, .slice a l.length c] 24
  have hokl : ∀ x ∈ l, okE x := by
    rw [okE] at hok
    exact fun x hx => by
      obtain ⟨j, hj, rfl⟩ := List.getElem_of_mem hx
      exact A.okEs.get hok.2.2.2.2 j hj
  have hll : l.length ≤ 1000000000000000 := by rw [okE] at hok; exact hok.2.2.2.1
  rw [ops_mk] at hlen ⊢
  simp only [exV_mk]
  have HB := Lib.hid hb
  have HX := Lib.hid hbx
  have HK := Lib.hid (hK'.below hb)
  have HLen : Hid ((l.flatMap ops).length + 1 ≤ 1000000000) := by show _ ≤ _; simpa using hlen
  have HIH : Hid (∀ (k : Nat) (h : k < l.length) a2 c2 w', A.Kids w' a2 l[k].args → Calls Try.prog 13 #[exV l[k] a2 c2] w' (GivesI w' (ops l[k]))) :=
    fun k h a2 c2 w' h2 => ih k h a2 c2 w' (hokl _ (List.getElem_mem h)) (by
      have h1 := HLen.out
      have h3 := take_flatR h
      have h4 := take_preR l (k + 1)
      rw [h3, List.length_append] at h4
      omega) h2
  simp only [exO_mk] at HX HB HK
  have HOw := Lib.hid (own_lit (w.alloc (.cells #[.int .i64 o, .int .i64 n, .string s, .slice a l.length c] 24)) o)
  have hb2 := below_box (w.alloc (.cells #[.int .i64 o, .int .i64 n, .string s, .slice a l.length c] 24)) (.cells #[.int .i64 o] 3)
  obtain ⟨g, hg⟩ : ∃ g, l.length = g := ⟨_, rfl⟩
  have HL := Lib.hid hg
  rw [hg] at hll HX HB HK HOw hb2 ⊢
  have x0 := HX.out.cell 0
  have x1 := HX.out.cell 1
  have x2 := HX.out.cell 2
  have x3 := HX.out.cell 3
  obtain ⟨W1, hW1⟩ : ∃ W1, w.alloc (.cells #[.int .i64 o, .int .i64 n, .string s, .slice a g c] 24) = W1 := ⟨_, rfl⟩
  rw [hW1] at HX HB HK HOw hb2
  have HS1 : Hid (W1.heap.size = w.heap.size + 1) := by show _ = _; rw [← hW1]; simp
  have HW1 := Lib.hid hW1
  obtain ⟨W2, hW2⟩ : ∃ W2, W1.alloc (.cells #[.int .i64 o] 3) = W2 := ⟨_, rfl⟩
  rw [hW2] at HOw hb2
  have HW2 := Lib.hid hW2
  have HB2 := Lib.hid hb2
  clear hg hb hbx hokl hK hK' hok ih hlen hW1 hW2 hb2
  go_enter Try.func13, Try.ntmps13
  go_wp2_with fail
  rw [HW1.out, HW2.out]
  clear x0 x1 x2 x3
  go_loopw [3, 4] (fun s3 s4 wr => ∃ (k : Nat) (p : Option Addr) (q : Nat) (xs : List Int), k ≤ g ∧ s4 = .int .i64 k ∧ s3 = .slice p xs.length q ∧ Hid (xs = o :: (l.take k).flatMap ops) ∧ Hid (Own1 kI wr W1.heap.size (fun _ => False) (.slice p xs.length q) xs) ∧ Hid (Below W1.heap.size W1 wr)) (fun _ s4 _ => g - (intOf s4).toNat)
  case atStart => exact ⟨0, _, _, [o], Nat.zero_le _, rfl, rfl, rfl, by rw [← HS1.out]; exact HOw.out, HB2.out⟩
  case round =>
    obtain ⟨k, p, q, xs, hk, rfl, rfl, HQ, HO, HBr⟩ := hrel
    have z0 := (HX.out.below HBr.out).cell 0
    have z1 := (HX.out.below HBr.out).cell 1
    have z2 := (HX.out.below HBr.out).cell 2
    have z3 := (HX.out.below HBr.out).cell 3
    by_cases hlt : k < g
    · have hlx : k < l.length := by rw [HL.out]; exact hlt
      obtain ⟨b2, i2, rfl, hat⟩ := (HK.out.below HBr.out).open hlx
      obtain ⟨d0, d1, d2, a2, cc, d3, hk2⟩ := hat.open
      have HCC := Lib.hid (HIH.out k hlx a2 cc wr hk2)
      have HQ2 : Hid (xs ++ ops l[k] = o :: (l.take (k + 1)).flatMap ops) := by show _ = _; rw [HQ.out, take_flatR hlx]; rfl
      have HLn : Hid (xs.length + (ops l[k]).length ≤ 1000000000000) := by
        have h1 := HLen.out
        have h4 := take_preR l (k + 1)
        have h5 := congrArg List.length HQ2.out
        rw [List.length_append, List.length_cons] at h5
        show _ ≤ _
        omega
      have HPo := Lib.hid (ops_pos l[k])
      clear hat hk2
      unfold exV at HCC
      generalize ops l[k] = ys at HCC HQ2 HLn HPo
      generalize l[k].args.length = m2 at d3 HCC
      generalize l[k].op = o2 at d0 HCC
      generalize l[k].n = n2 at d1 HCC
      generalize l[k].s = s2 at d2 HCC
      obtain ⟨xn, hxn⟩ : ∃ n, xs.length = n := ⟨_, rfl⟩
      have HXN := Lib.hid hxn
      rw [hxn]
      clear hxn
      go_wp2_with fail
      refine HCC.out.mono ?_; rintro e w2 ⟨p2, q2, rfl, hi2, hb2⟩
      have HI2 := Lib.hid hi2
      have HB3 := Lib.hid (HBr.out.trans (hb2.mono HBr.out.size))
      have HO2 := Lib.hid (HO.out.below hb2)
      obtain ⟨yn, hyn⟩ : ∃ n, ys.length = n := ⟨_, rfl⟩
      have HYN := Lib.hid hyn
      have HXY : Hid (xn + yn = (xs ++ ys).length) := by show _ = _; rw [List.length_append, HXN.out, hyn]
      have hxy : xn + yn ≤ 1000000000000 := by have := HLn.out; rw [HXN.out, hyn] at this; exact this
      rw [hyn]
      clear hi2 hb2 hyn z0 z1 z2 z3 d0 d1 d2 d3
      go_wp2_with (at_builtin; refine wpList_append_ints rfl (.tmp 15) (.tmp 21) rfl W1.heap.size (fun _ => False) p xn q xs ys HXN.out.symm rfl HO2.out p2 yn q2 HYN.out.symm rfl HI2.out HPo.out HLn.out HB3.out.size (fun _ h => h.elim) ?_; intro p7 q7 w7 hown7 hgrow7; have HO7 := Lib.hid hown7; have HB7 := Lib.hid (HB3.out.grown hgrow7 HB3.out.size (fun k hk => (HO2.out.lt k hk).1)); clear hown7 hgrow7)
      go_roundw
      case rel => exact ⟨k + 1, p7, q7, xs ++ ys, by omega, by go_num, by rw [HXY.out], HQ2.out, HO7.out, HB7.out⟩
      case measure => simp [intOf]; omega
    · have hq := HQ.out
      rw [List.take_of_length_le (by have := HL.out; omega)] at hq
      have HV : Hid (GivesI w (o :: l.flatMap ops) (.returned (.slice p xs.length q)) wr) := by
        rw [← hq]
        exact ⟨p, q, rfl, own_ints HO.out, below_2 HB.out HBr.out⟩
      clear hq
      go_wp2_with fail
      go_ret
      exact HV.out
end Go.Proofs.Ytgjnddjpinhkgaa.N
namespace Go.Proofs.Ytgjnddjpinhkgaa.N
open Go.RowKit
open A (Ex exV exO exV_mk exO_mk okE Bx RowK Own1 Stays)
open L (below_2 below_box ret_bool)

set_option maxHeartbeats 1000000 in
theorem risN_any (o : Int) (w : World) : Calls Try.prog 14 #[.int .i64 o] w fun e w' => e = .returned (.bool (isN o)) ∧ w = w' := by
  obtain ⟨R, hR⟩ : ∃ R, isN o = R := ⟨_, rfl⟩
  rw [hR]
  unfold isN at hR
  have HR := Lib.hid hR
  clear hR
  by_cases h1 : o = 25
  · subst h1
    have HV : Hid (true = R) := by show _ = _; rw [← HR.out]; rfl
    go_enter Try.func14, Try.ntmps14
    go_wp2_with fail
    go_ret
    exact ⟨ret_bool HV.out, rfl⟩
  have b1 : (o == 25) = false := beq_eq_false_iff_ne.2 h1
  by_cases h2 : o = 26
  · subst h2
    have HV : Hid (true = R) := by show _ = _; rw [← HR.out]; rfl
    clear h1 b1
    go_enter Try.func14, Try.ntmps14
    go_wp2_with fail
    go_ret
    exact ⟨ret_bool HV.out, rfl⟩
  have b2 : (o == 26) = false := beq_eq_false_iff_ne.2 h2
  have HV : Hid (decide (o = 27) = R) := by show _ = _; rw [← HR.out, decide_eq_false h1, decide_eq_false h2]; rfl
  by_cases h3 : o = 27
  · subst h3
    clear h1 h2 b1 b2
    go_enter Try.func14, Try.ntmps14
    go_wp2_with fail
    go_ret
    exact ⟨ret_bool HV.out, rfl⟩
  have b3 : (o == 27) = false := beq_eq_false_iff_ne.2 h3
  have HV2 : Hid (false = R) := by show _ = _; rw [← HV.out, decide_eq_false h3]
  clear h1 h2 h3
  go_enter Try.func14, Try.ntmps14
  go_wp2_with fail
  go_ret
  exact ⟨ret_bool HV2.out, rfl⟩
set_option maxHeartbeats 1000000 in
theorem risR_any (o : Int) (w : World) : Calls Try.prog 15 #[.int .i64 o] w fun e w' => e = .returned (.bool (isR o)) ∧ w = w' := by
  obtain ⟨R, hR⟩ : ∃ R, isR o = R := ⟨_, rfl⟩
  rw [hR]
  unfold isR at hR
  have HR := Lib.hid hR
  clear hR
  by_cases h1 : o = 22
  · subst h1
    have HV : Hid (true = R) := by show _ = _; rw [← HR.out]; rfl
    go_enter Try.func15, Try.ntmps15
    go_wp2_with fail
    go_ret
    exact ⟨ret_bool HV.out, rfl⟩
  have b1 : (o == 22) = false := beq_eq_false_iff_ne.2 h1
  by_cases h2 : o = 23
  · subst h2
    have HV : Hid (true = R) := by show _ = _; rw [← HR.out]; rfl
    clear h1 b1
    go_enter Try.func15, Try.ntmps15
    go_wp2_with fail
    go_ret
    exact ⟨ret_bool HV.out, rfl⟩
  have b2 : (o == 23) = false := beq_eq_false_iff_ne.2 h2
  have HV : Hid (decide (o = 24) = R) := by show _ = _; rw [← HR.out, decide_eq_false h1, decide_eq_false h2]; rfl
  by_cases h3 : o = 24
  · subst h3
    clear h1 h2 b1 b2
    go_enter Try.func15, Try.ntmps15
    go_wp2_with fail
    go_ret
    exact ⟨ret_bool HV.out, rfl⟩
  have b3 : (o == 24) = false := beq_eq_false_iff_ne.2 h3
  have HV2 : Hid (false = R) := by show _ = _; rw [← HV.out, decide_eq_false h3]
  clear h1 h2 h3
  go_enter Try.func15, Try.ntmps15
  go_wp2_with fail
  go_ret
  exact ⟨ret_bool HV2.out, rfl⟩
set_option maxHeartbeats 8000000 in
set_option maxRecDepth 100000 in
theorem rPure_any (e : Ex) (a : Option Addr) (c : Nat) (hok : okE e) (hlen : (ops e).length ≤ 1000000000) (w : World) (hK : A.Kids w a e.args) :
    Calls Try.prog 6 #[exV e a c] w fun e' w' => e' = .returned (.bool (pureE e)) ∧ Below w.heap.size w w' := by
  have hb := below_box w (exO e a c)
  have HO := Lib.hid (rOps_any e a c _ hok hlen (hK.below hb))
  have HB := Lib.hid hb
  have hbx := Bx.new w #[.int .i64 e.op, .int .i64 e.n, .string e.s, .slice a e.args.length c] 24
  have x0 := hbx.cell 0
  have x1 := hbx.cell 1
  have x2 := hbx.cell 2
  have x3 := hbx.cell 3
  simp at x0 x1 x2 x3
  unfold pureE
  generalize ops e = l at HO hlen ⊢
  obtain ⟨R, hR⟩ : ∃ R, (!l.any fun o => isN o || isR o) = R := ⟨_, rfl⟩
  rw [hR]
  have HR : Hid ((!(l.drop 0).any fun o => isN o || isR o) = R) := hR
  unfold exV exO at *
  obtain ⟨m, hm⟩ : ∃ m, l.length = m := ⟨_, rfl⟩
  have HL := Lib.hid hm
  rw [hm] at hlen
  clear hR hm hok hK hb hbx
  go_enter Try.func6, Try.ntmps6
  go_wp2_with fail
  refine HO.out.mono ?_; rintro e' w2 ⟨p, q, rfl, hi, hb2⟩
  have HB2 := Lib.hid (below_2 HB.out hb2)
  have HI := Lib.hid hi
  rw [HL.out]
  clear hi hb2 x0 x1 x2 x3
  go_wp2_with fail
  go_loopw [4] (fun s4 wr => ∃ k : Nat, k ≤ m ∧ s4 = .int .i64 k ∧ Hid ((!(l.drop k).any fun o => isN o || isR o) = R) ∧ wr = w2) (fun s4 _ => m - (intOf s4).toNat)
  case atStart => exact ⟨0, Nat.zero_le _, rfl, HR, rfl⟩
  case round =>
    obtain ⟨k, hk, rfl, HX, rfl⟩ := hrel
    by_cases hlt : k < m
    · have hlx : k < l.length := by rw [HL.out]; exact hlt
      obtain ⟨b3, i3, rfl, hcc⟩ := HI.out.open hlx
      have f0 := hcc k hlx
      have hx := HX.out
      rw [List.drop_eq_getElem_cons hlx, List.any_cons] at hx
      obtain ⟨b, hb⟩ : ∃ b, isN l[k] = b := ⟨_, rfl⟩
      obtain ⟨b2, hb2⟩ : ∃ b, isR l[k] = b := ⟨_, rfl⟩
      have HI1 := Lib.hid (fun (w' : World) => risN_any l[k] w')
      have HI2 := Lib.hid (fun (w' : World) => risR_any l[k] w')
      rw [hb] at HI1
      rw [hb2] at HI2
      rw [hb, hb2] at hx
      clear hb hb2
      generalize l[k] = y at *
      clear hcc
      cases b with
      | true =>
        have HV : Hid (false = R) := hx
        clear hx
        go_wp2_with fail
        refine (HI1.out _).mono ?_; rintro e' w' ⟨rfl, rfl⟩
        go_wp2_with fail
        go_ret
        exact ⟨ret_bool HV.out, HB2.out⟩
      | false =>
        cases b2 with
        | true =>
          have HV : Hid (false = R) := hx
          clear hx
          go_wp2_with fail
          refine (HI1.out _).mono ?_; rintro e' w' ⟨rfl, rfl⟩
          go_wp2_with fail
          refine (HI2.out _).mono ?_; rintro e' w' ⟨rfl, rfl⟩
          go_wp2_with fail
          go_ret
          exact ⟨ret_bool HV.out, HB2.out⟩
        | false =>
          have HX2 : Hid ((!(l.drop (k + 1)).any fun o => isN o || isR o) = R) := hx
          clear hx
          go_wp2_with fail
          refine (HI1.out _).mono ?_; rintro e' w' ⟨rfl, rfl⟩
          go_wp2_with fail
          refine (HI2.out _).mono ?_; rintro e' w' ⟨rfl, rfl⟩
          go_wp2_with fail
          go_roundw
          case rel => exact ⟨k + 1, by omega, by go_num, HX2, trivial⟩
          case measure => simp [intOf]; omega
    · have hx := HX.out
      rw [List.drop_of_length_le (by have := HL.out; omega)] at hx
      have HV : Hid (true = R) := hx
      clear hx
      go_wp2_with fail
      go_ret
      exact ⟨ret_bool HV.out, HB2.out⟩
set_option maxHeartbeats 8000000 in
set_option maxRecDepth 100000 in
theorem rReads_any (e : Ex) (a : Option Addr) (c : Nat) (hok : okE e) (hlen : (ops e).length ≤ 1000000000) (w : World) (hK : A.Kids w a e.args) :
    Calls Try.prog 8 #[exV e a c] w fun e' w' => e' = .returned (.bool (readsE e)) ∧ Below w.heap.size w w' := by
  have hb := below_box w (exO e a c)
  have HO := Lib.hid (rOps_any e a c _ hok hlen (hK.below hb))
  have HB := Lib.hid hb
  have hbx := Bx.new w #[.int .i64 e.op, .int .i64 e.n, .string e.s, .slice a e.args.length c] 24
  have x0 := hbx.cell 0
  have x1 := hbx.cell 1
  have x2 := hbx.cell 2
  have x3 := hbx.cell 3
  simp at x0 x1 x2 x3
  unfold readsE
  generalize ops e = l at HO hlen ⊢
  obtain ⟨R, hR⟩ : ∃ R, l.any isR = R := ⟨_, rfl⟩
  rw [hR]
  have HR : Hid ((l.drop 0).any isR = R) := hR
  unfold exV exO at *
  obtain ⟨m, hm⟩ : ∃ m, l.length = m := ⟨_, rfl⟩
  have HL := Lib.hid hm
  rw [hm] at hlen
  clear hR hm hok hK hb hbx
  go_enter Try.func8, Try.ntmps8
  go_wp2_with fail
  refine HO.out.mono ?_; rintro e' w2 ⟨p, q, rfl, hi, hb2⟩
  have HB2 := Lib.hid (below_2 HB.out hb2)
  have HI := Lib.hid hi
  rw [HL.out]
  clear hi hb2 x0 x1 x2 x3
  go_wp2_with fail
  go_loopw [4] (fun s4 wr => ∃ k : Nat, k ≤ m ∧ s4 = .int .i64 k ∧ Hid ((l.drop k).any isR = R) ∧ wr = w2) (fun s4 _ => m - (intOf s4).toNat)
  case atStart => exact ⟨0, Nat.zero_le _, rfl, HR, rfl⟩
  case round =>
    obtain ⟨k, hk, rfl, HX, rfl⟩ := hrel
    by_cases hlt : k < m
    · have hlx : k < l.length := by rw [HL.out]; exact hlt
      obtain ⟨b3, i3, rfl, hcc⟩ := HI.out.open hlx
      have f0 := hcc k hlx
      have hx := HX.out
      rw [List.drop_eq_getElem_cons hlx, List.any_cons] at hx
      obtain ⟨b, hb⟩ : ∃ b, isR l[k] = b := ⟨_, rfl⟩
      have HI1 := Lib.hid (fun (w' : World) => risR_any l[k] w')
      rw [hb] at HI1
      rw [hb] at hx
      clear hb
      generalize l[k] = y at *
      clear hcc
      cases b with
      | true =>
        have HV : Hid (true = R) := hx
        clear hx
        go_wp2_with fail
        refine (HI1.out _).mono ?_; rintro e' w' ⟨rfl, rfl⟩
        go_wp2_with fail
        go_ret
        exact ⟨ret_bool HV.out, HB2.out⟩
      | false =>
        have HX2 : Hid ((l.drop (k + 1)).any isR = R) := hx
        clear hx
        go_wp2_with fail
        refine (HI1.out _).mono ?_; rintro e' w' ⟨rfl, rfl⟩
        go_wp2_with fail
        go_roundw
        case rel => exact ⟨k + 1, by omega, by go_num, HX2, trivial⟩
        case measure => simp [intOf]; omega
    · have hx := HX.out
      rw [List.drop_of_length_le (by have := HL.out; omega)] at hx
      have HV : Hid (false = R) := hx
      clear hx
      go_wp2_with fail
      go_ret
      exact ⟨ret_bool HV.out, HB2.out⟩
end Go.Proofs.Ytgjnddjpinhkgaa.N
namespace Go.Proofs.Ytgjnddjpinhkgaa.N
open Go.RowKit
open A (Ex exV exO exV_mk exO_mk okE Bx)
open L (below_2 below_box ret_bool)

set_option maxHeartbeats 8000000 in
set_option maxRecDepth 100000 in
theorem lawExprs_any (e : Ex) (a : Option Addr) (c : Nat) (hok : okE e) (hlen : (ops e).length ≤ 1000000000) (w : World) (hK : A.Kids w a e.args) :
    Calls Try.prog 3 #[exV e a c] w fun e' w' => e' = .returned (.bool true) ∧ Below w.heap.size w w' := by
  have hw := below_box w (exO e a c)
  have hx := Bx.new w #[.int .i64 e.op, .int .i64 e.n, .string e.s, .slice a e.args.length c] 24
  have HK1 := hK.below hw
  have P1 : Hid (∀ w', A.Kids w' a e.args → Calls Try.prog 5 #[exV e a c] w' fun e' w'' => e' = .returned (.bool (pureE e)) ∧ Below w'.heap.size w' w'') := fun w' h => oPure_any e a c hok w' h
  have P2 : Hid (∀ w', A.Kids w' a e.args → Calls Try.prog 6 #[exV e a c] w' fun e' w'' => e' = .returned (.bool (pureE e)) ∧ Below w'.heap.size w' w'') := fun w' h => rPure_any e a c hok hlen w' h
  have P3 : Hid (∀ w', A.Kids w' a e.args → Calls Try.prog 7 #[exV e a c] w' fun e' w'' => e' = .returned (.bool (readsE e)) ∧ Below w'.heap.size w' w'') := fun w' h => oReads_any e a c hok w' h
  have P4 : Hid (∀ w', A.Kids w' a e.args → Calls Try.prog 8 #[exV e a c] w' fun e' w'' => e' = .returned (.bool (readsE e)) ∧ Below w'.heap.size w' w'') := fun w' h => rReads_any e a c hok hlen w' h
  have HB := Lib.hid hw
  have x0 := hx.cell 0
  have x1 := hx.cell 1
  have x2 := hx.cell 2
  have x3 := hx.cell 3
  simp only [List.getElem?_toArray, List.getElem?_cons_succ, List.getElem?_cons_zero] at x0 x1 x2 x3
  generalize pureE e = pb at *
  generalize readsE e = rb at *
  unfold exV at P1 P2 P3 P4
  unfold exV exO at *
  obtain ⟨w1, hw1⟩ : ∃ w1, w.alloc (.cells #[.int .i64 e.op, .int .i64 e.n, .string e.s, .slice a e.args.length c] 24) = w1 := ⟨_, rfl⟩
  rw [hw1] at HK1 HB x0 x1 x2 x3
  have HW1 := Lib.hid hw1
  have C1 := Lib.hid (fun d os => Calls.regrown_of (w := w1) (d := d) (os := os) (P1.out _ (HK1.below (below_regrown w1 d os))))
  have C2 := Lib.hid (fun d os => Calls.regrown_of (w := w1) (d := d) (os := os) (P2.out _ (HK1.below (below_regrown w1 d os))))
  have C3 := Lib.hid (fun d os => Calls.regrown_of (w := w1) (d := d) (os := os) (P3.out _ (HK1.below (below_regrown w1 d os))))
  have C4 := Lib.hid (fun d os => Calls.regrown_of (w := w1) (d := d) (os := os) (P4.out _ (HK1.below (below_regrown w1 d os))))
  have C5 := Lib.hid (fun d os => Calls.regrown_of (w := w1) (d := d) (os := os) (examples_any _))
  have r0 := fun d os => cell_regrown x0 d os
  have r1 := fun d os => cell_regrown x1 d os
  have r2 := fun d os => cell_regrown x2 d os
  have r3 := fun d os => cell_regrown x3 d os
  clear hok hlen hK hw hx HK1 hw1 P1 P2 P3 P4 x0 x1 x2 x3
  cases pb
  all_goals
    cases rb
    all_goals
      go_enter Try.func3, Try.ntmps3
      go_wp2_with fail
      rw [HW1.out]
      refine wp_region_quiet_below (by kernel_rfl) (by kernel_rfl) ?_
      repeat (go_big_quiet_step (first | with_reducible exact C1.out _ _ | with_reducible exact C2.out _ _ | with_reducible exact C3.out _ _ | with_reducible exact C4.out _ _ | with_reducible exact C5.out _ _))
      refine wpQuiet_nil ?_
      intro _ hw'
      obtain ⟨⟨dq, osq⟩, hw''⟩ := hw'
      subst hw''
      go_wp2_with fail
      go_ret
      exact ⟨rfl, below_2 HB.out (below_regrown _ _ _)⟩
end Go.Proofs.Ytgjnddjpinhkgaa.N
