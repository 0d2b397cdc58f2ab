/-
  The laws of layer 11: lists of variables joined; variables that are added.
  The laws of layer 11: what the statements of a procedure that passes the check have as types.
  The laws of layer 11: the types of the statements of a procedure that passes the check.
  The laws of layer 11: lists of names: which has a name, and a name more.
-/
import Derived.Test.YtkjefigebdbkaaaDoorTYLD
import Derived.Test.YtkjefigebdbkaaaDoorN19
import Derived.Test.YtkjefigebdbkaaaDoorN17
import Derived.Deep.AppendLies
namespace Go.Proofs.YtkjefigebdbkaaaDoor.Y
open Go.RowKit
open L (Str isName prt size_len below_2 below_box ret_bool ret_int eql_eq bytes_eq)
open A (Ex St Pm Pr V arity vE vEs absent exV exO exV_mk Bx okE okEs cE cEs PmsAt StrsAt PrIn OkP prV prO names valE ExsAt ExAt StsAt StAt Bodies RowK Own1 Stays)
open P (G Kd On off_of wp_region_G)

theorem run_append_0 {P : Program} (w : World) (t ty e : TypeId) (i : TypeInfo) (ht : P.underlying t = some (.slice e)) (hi : P.info? e = some i) (s : Option Addr) (n cap : Nat) (hle : n ≤ cap) (x : Option Addr) (c : Nat) :
    (Builtin.append_ #[t, t] ty #[.slice s n cap, .slice x 0 c]).run P w = .ok (.slice s n cap) w := by
  have hl : ∀ w', (Builtin.lenOf (.slice x 0 c)).run P w' = .ok 0 w' := fun _ => rfl
  have hc : (Builtin.firstCells i.size 0 (.slice x 0 c)).run P w = .ok #[] w := by
    cases x with
    | none => exact run_firstCells_none w i.size 0 0 c
    | some a => exact run_firstCells_some w i.size 0 a 0 c [] (by simp) (fun j u h => by simp at h)
  cases s <;> simp [Builtin.append_, run_underlying ht, sizeOf, typeInfo, hi, hle, hl, hc, storeCells]
theorem flat_get (l : List Pm) (j : Nat) (u : Value) (h : (kP.cs l)[j]? = some u) : ∃ k r, k < l.length ∧ r < 2 ∧ j = k * 2 + r := by
  have hlt := (List.getElem?_eq_some_iff.1 h).1
  rw [RowK.cs_len] at hlt
  have hs : kP.size = 2 := rfl
  rw [hs] at hlt
  exact ⟨j / 2, j % 2, by omega, by omega, by omega⟩
theorem pms_news {w : World} {b i : Nat} {l : List Pm} (h : ∀ j (h : j < l.length), w.cell? ⟨b, i + j * 2, none⟩ = some (.string l[j].name) ∧ w.cell? ⟨b, i + j * 2 + 1, none⟩ = some (.int .i64 l[j].ty)) :
    ∀ j u, (kP.cs l)[j]? = some u → w.cell? ((⟨b, i, none⟩ : Addr).add j) = some u := by
  intro j u hu
  obtain ⟨k, r, hk, hr, rfl⟩ := flat_get l j u hu
  have hg := RowK.cs_get kP l k hk r hr
  have hs : kP.size = 2 := rfl
  rw [hs] at hg
  rw [hg] at hu
  obtain ⟨h0, h1⟩ := h k hk
  rw [WideShapes.add_plain]
  have h2 : r = 0 ∨ r = 1 := by omega
  rcases h2 with rfl | rfl
  · rw [Nat.add_zero, h0]; exact hu
  · rw [← Nat.add_assoc, h1]; exact hu
/-- variables joined to variables of the call's own -/
theorem wpList_append_pms {w : World} {ops : Array Oper} {rest : List Oper} {o : Oper} {a : Act} {Q : Exit → Act → World → Prop} (hgd : o.guard = none) (s x : Operand)
    (ho : o.op = .call { callee := .builtin .append, args := #[s, x], argTypes := #[22, 22] })
    (base : Nat) (Z : Nat → Prop) (p : Option Addr) (n q : Nat) (l m : List Pm) (hn : n = l.length) (hs : a.eval s = .slice p n q) (hown : Own1 kP w base Z (.slice p l.length q) l)
    (xa : Option Addr) (mm xc : Nat) (hmm : mm = m.length) (hx : a.eval x = .slice xa mm xc) (hP : PmsAt w xa m) (hl : l.length + m.length ≤ 1000000) (hbase : base ≤ w.heap.size) (hZ : ∀ k, Z k → k < base)
    (h : ∀ p' q' w', Own1 kP w' base Z (.slice p' (l ++ m).length q') (l ++ m) → w.grownBy w' (Value.slice p l.length q).ownBlock → Go.wpList Tryd.prog ops Q rest (a.put o.dst (.slice p' (n + mm) q')) w') :
    Go.wpList Tryd.prog ops Q (o :: rest) a w := by
  subst hn hmm
  obtain ⟨i0, hi, hz0, hz1, hz2⟩ := A.info_parts3 kP.info
  rcases hP with rfl | ⟨b, i, rfl, hc⟩
  · obtain ⟨p2, q2, hv, hle⟩ := hown.shape
    injection hv with h1 h2 h3
    subst h1 h3
    refine wpList_plain hgd fun K hK' => ?_
    have hrun := run_append_0 (P := Tryd.prog) w 22 o.type 51 i0 kP.und hi p l.length q hle xa xc
    unfold Oper.wp
    simp [execOp, ho, resolve, invoke, builtin, hs, hx, hrun, Result.andThen]
    refine hK' _ _ ?_
    have := h p q w (by rw [List.append_nil]; exact hown) (World.grownBy.refl _ _)
    simpa using this
  · by_cases h0 : m.length = 0
    · obtain rfl : m = [] := List.eq_nil_of_length_eq_zero h0
      obtain ⟨p2, q2, hv, hle⟩ := hown.shape
      injection hv with h1 h2 h3
      subst h1 h3
      refine wpList_plain hgd fun K hK' => ?_
      have hrun := run_append_0 (P := Tryd.prog) w 22 o.type 51 i0 kP.und hi p l.length q hle (some ⟨b, i, none⟩) xc
      unfold Oper.wp
      simp [execOp, ho, resolve, invoke, builtin, hs, hx, hrun, Result.andThen]
      refine hK' _ _ ?_
      have := h p q w (by rw [List.append_nil]; exact hown) (World.grownBy.refl _ _)
      simpa using this
    · refine wpList_append_lies _ hgd s x kP.t ho base kP.e i0 _ kP.size kP.bytes kP.und hi hz0 hz1 hz2 kP.zs kP.pos (.slice p l.length q) l.length (kP.cs l) hs hown.row ⟨b, i, none⟩ m.length xc (kP.cs m) hx (RowK.cs_len kP m) (pms_news hc) ?_ (by omega) (by unfold maxLen; omega) ?_ hbase w.heap.size rfl ?_
      · intro u hu
        obtain ⟨y, hy, hu⟩ := List.mem_flatMap.1 hu
        exact kP.one y u hu
      · show (l.length + m.length) * 24 ≤ _
        omega
      · intro g cap w' h1 h2 h3 _
        refine h (some ⟨g, 0, none⟩) cap w' ⟨?_, fun g' hg hz => ?_, fun _ _ => trivial⟩ h2
        · rw [List.length_append, RowK.cs_app]; exact h1
        · have hk2 : g = g' := by injection hg
          subst hk2
          have := hZ g hz
          rcases h3 with h3 | h3
          · have := (hown.lt g h3).1; omega
          · omega
end Go.Proofs.YtkjefigebdbkaaaDoor.Y
namespace Go.Proofs.YtkjefigebdbkaaaDoor.Y
open Go.RowKit
open L (Str isName prt size_len below_2 below_box ret_bool ret_int eql_eq bytes_eq)
open A (Ex St Pm Pr V arity vE vEs absent exV exO exV_mk Bx okE okEs cE cEs PmsAt StrsAt PrIn OkP prV prO names valE ExsAt ExAt StsAt StAt Bodies RowK Own1 Stays okS okB cS cB preS preB preR preE walk)
open P (G Kd On off_of wp_region_G)

def nmE (x : ByteArray) : Ex := .mk 3 0 x []
/-- what the law asks of a statement -/
structure LwSt (g : Env) (s : St) : Prop where
  set : s.op = 1 ∨ s.op = 2 → ∃ t, 1 ≤ t ∧ t ≤ 3 ∧ ofE g (nmE s.name) = (t, 0) ∧ ofE g s.a = (t, 0)
  put : s.op = 3 → ofE g s.a = (2, 0) ∧ ∃ x, ofE g s.b = (x, 0) ∧ (x = 1 ∨ x = 2)
  del : s.op = 4 → ofE g s.a = (2, 0)
  cond : s.op = 5 → ofE g s.a = (3, 0)
  loop : s.op = 6 → ofE g s.a = (1, 0) ∧ ofE g s.b = (1, 0) ∧ ofE g (nmE s.name) = (1, 0)
  emit : s.op = 7 → ∃ x, ofE g s.a = (x, 0) ∧ (x = 1 ∨ x = 2)
end Go.Proofs.YtkjefigebdbkaaaDoor.Y
namespace Go.Proofs.YtkjefigebdbkaaaDoor.Y
open Go.RowKit
open L (Str isName prt size_len below_2 below_box ret_bool ret_int eql_eq bytes_eq)
open A (Ex St Pm Pr V arity vE vEs absent exV exO exV_mk Bx okE okEs cE cEs PmsAt StrsAt PrIn OkP prV prO names valE ExsAt ExAt StsAt StAt Bodies RowK Own1 Stays okS okB cS cB preS preB preR preE walk VT vcs vs small)
open P (G Kd On off_of wp_region_G)

/-- a row of the walk: its statement (a node's row holds an empty one) -/
structure RowSt (g : Env) (w5 wr : World) (g3 k : Nat) (s : St) (a5 : Option Addr) (c5 : Nat) (a6 : Option Addr) (c6 : Nat) (a7 : Option Addr) (c7 : Nat) (a8 : Option Addr) (c8 : Nat) : Prop where
  e0 : wr.cell? ⟨g3, k * 20 + 1, none⟩ = some (.int .i64 s.op)
  e1 : wr.cell? ⟨g3, k * 20 + 1 + 1, none⟩ = some (.string s.name)
  e2 : wr.cell? ⟨g3, k * 20 + 1 + 2, none⟩ = some (.int .i64 s.mx)
  e3 : wr.cell? ⟨g3, k * 20 + 1 + 3, none⟩ = some (.int .i64 s.a.op)
  e4 : wr.cell? ⟨g3, k * 20 + 1 + 4, none⟩ = some (.int .i64 s.a.n)
  e5 : wr.cell? ⟨g3, k * 20 + 1 + 5, none⟩ = some (.string s.a.s)
  e6 : wr.cell? ⟨g3, k * 20 + 1 + 6, none⟩ = some (.slice a5 s.a.args.length c5)
  e7 : wr.cell? ⟨g3, k * 20 + 1 + 7, none⟩ = some (.int .i64 s.b.op)
  e8 : wr.cell? ⟨g3, k * 20 + 1 + 8, none⟩ = some (.int .i64 s.b.n)
  e9 : wr.cell? ⟨g3, k * 20 + 1 + 9, none⟩ = some (.string s.b.s)
  e10 : wr.cell? ⟨g3, k * 20 + 1 + 10, none⟩ = some (.slice a6 s.b.args.length c6)
  e11 : wr.cell? ⟨g3, k * 20 + 1 + 11, none⟩ = some (.slice a7 s.body.length c7)
  e12 : wr.cell? ⟨g3, k * 20 + 1 + 12, none⟩ = some (.slice a8 s.els.length c8)
  ka : A.Kids w5 a5 s.a.args
  kb : A.Kids w5 a6 s.b.args
  oa : okE s.a ∧ 1 + cE s.a ≤ 1000000
  ob : okE s.b ∧ 1 + cE s.b ≤ 1000000
  nz : s.name.size ≤ 1000000000000000
  lw : LwSt g s
end Go.Proofs.YtkjefigebdbkaaaDoor.Y
namespace Go.Proofs.YtkjefigebdbkaaaDoor.Y
open Go.RowKit
open L (Str isName prt size_len below_2 below_box ret_bool ret_int eql_eq bytes_eq)
open A (Ex St Pm Pr V arity vE vEs absent exV exO exV_mk Bx okE okEs cE cEs PmsAt StrsAt PrIn OkP prV prO names valE ExsAt ExAt StsAt StAt Bodies RowK Own1 Stays)
open P (G Kd On off_of wp_region_G)

theorem isIn_drop {x : ByteArray} {l : List ByteArray} {k : Nat} (hk : k < l.length) : isIn x (l.drop k) = (decide (l[k] = x) || isIn x (l.drop (k + 1))) := by
  rw [List.drop_eq_getElem_cons hk]; unfold isIn; rw [List.any_cons]
end Go.Proofs.YtkjefigebdbkaaaDoor.Y
