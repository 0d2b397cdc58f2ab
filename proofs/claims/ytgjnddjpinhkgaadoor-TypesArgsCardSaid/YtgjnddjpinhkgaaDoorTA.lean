/-
  Declarations of texts that lie merged: the reference of layer 11.
-/
import Derived.Test.YtgjnddjpinhkgaaDoorM19
import Derived.Test.YtgjnddjpinhkgaaDoorM13
import Derived.Test.YtgjnddjpinhkgaaDoorM12
import Derived.Test.YtgjnddjpinhkgaaDoorR31
import Derived.Test.YtgjnddjpinhkgaaDoorR32
import Derived.Test.YtgjnddjpinhkgaaDoorQYLR
import Derived.Test.YtgjnddjpinhkgaaDoorQYLK
import Derived.Deep.AppendLies
namespace Go.Proofs.YtgjnddjpinhkgaaDoor.Y
open Go.RowKit
open L (Str isName prt size_len below_2 below_box ret_bool ret_int eql_eq bytes_eq)
open A (Ex St Pm Pr V arity vE vEs absent exV exO exV_mk Bx okE okEs cE cEs PmsAt StrsAt PrIn OkP prV prO names valE ExsAt ExAt StsAt StAt Bodies RowK Own1 Stays)
theorem flat_get (l : List Pm) (j : Nat) (u : Value) (h : (kP.cs l)[j]? = some u) : ∃ k r, k < l.length ∧ r < 2 ∧ j = k * 2 + r := by
  have hlt := (List.getElem?_eq_some_iff.1 h).1
  rw [RowK.cs_len] at hlt
  have hs : kP.size = 2 := rfl
  rw [hs] at hlt
  exact ⟨j / 2, j % 2, by omega, by omega, by omega⟩
theorem pms_news {w : World} {b i : Nat} {l : List Pm} (h : ∀ j (h : j < l.length), w.cell? ⟨b, i + j * 2, none⟩ = some (.string l[j].name) ∧ w.cell? ⟨b, i + j * 2 + 1, none⟩ = some (.int .i64 l[j].ty)) :
    ∀ j u, (kP.cs l)[j]? = some u → w.cell? ((⟨b, i, none⟩ : Addr).add j) = some u := by
  intro j u hu
  obtain ⟨k, r, hk, hr, rfl⟩ := flat_get l j u hu
  have hg := RowK.cs_get kP l k hk r hr
  have hs : kP.size = 2 := rfl
  rw [hs] at hg
  rw [hg] at hu
  obtain ⟨h0, h1⟩ := h k hk
  rw [WideShapes.add_plain]
  have h2 : r = 0 ∨ r = 1 := by omega
  rcases h2 with rfl | rfl
  · rw [Nat.add_zero, h0]; exact hu
  · rw [← Nat.add_assoc, h1]; exact hu
/-- variables joined to variables of the call's own -/
theorem wpList_append_pms {w : World} {ops : Array Oper} {rest : List Oper} {o : Oper} {a : Act} {Q : Exit → Act → World → Prop} (hgd : o.guard = none) (s x : Operand)
    (ho : o.op = .call { callee := .builtin .append, args := #[s, x], argTypes := #[22, 22] })
    (base : Nat) (Z : Nat → Prop) (p : Option Addr) (n q : Nat) (l m : List Pm) (hn : n = l.length) (hs : a.eval s = .slice p n q) (hown : Own1 kP w base Z (.slice p l.length q) l)
    (xa : Option Addr) (mm xc : Nat) (hmm : mm = m.length) (hx : a.eval x = .slice xa mm xc) (hP : PmsAt w xa m) (hl : l.length + m.length ≤ 1000000) (hbase : base ≤ w.heap.size) (hZ : ∀ k, Z k → k < base)
    (h : ∀ p' q' w', Own1 kP w' base Z (.slice p' (l ++ m).length q') (l ++ m) → w.grownBy w' (Value.slice p l.length q).ownBlock → Go.wpList Tryd.prog ops Q rest (a.put o.dst (.slice p' (n + mm) q')) w') :
    Go.wpList Tryd.prog ops Q (o :: rest) a w := by
  subst hn hmm
  obtain ⟨i0, hi, hz0, hz1, hz2⟩ := A.info_parts3 kP.info
  rcases hP with rfl | ⟨b, i, rfl, hc⟩
  · obtain ⟨p2, q2, hv, hle⟩ := hown.shape
    injection hv with h1 h2 h3
    subst h1 h3
    refine wpList_plain hgd fun K hK' => ?_
    have hrun := run_append_0 (P := Tryd.prog) w 22 o.type 40 i0 kP.und hi p l.length q hle xa xc
    unfold Oper.wp
    simp [execOp, ho, resolve, invoke, builtin, hs, hx, hrun, Result.andThen]
    refine hK' _ _ ?_
    have := h p q w (by rw [List.append_nil]; exact hown) (World.grownBy.refl _ _)
    simpa using this
  · by_cases h0 : m.length = 0
    · obtain rfl : m = [] := List.eq_nil_of_length_eq_zero h0
      obtain ⟨p2, q2, hv, hle⟩ := hown.shape
      injection hv with h1 h2 h3
      subst h1 h3
      refine wpList_plain hgd fun K hK' => ?_
      have hrun := run_append_0 (P := Tryd.prog) w 22 o.type 40 i0 kP.und hi p l.length q hle (some ⟨b, i, none⟩) xc
      unfold Oper.wp
      simp [execOp, ho, resolve, invoke, builtin, hs, hx, hrun, Result.andThen]
      refine hK' _ _ ?_
      have := h p q w (by rw [List.append_nil]; exact hown) (World.grownBy.refl _ _)
      simpa using this
    · refine wpList_append_lies _ hgd s x kP.t ho base kP.e i0 _ kP.size kP.bytes kP.und hi hz0 hz1 hz2 kP.zs kP.pos (.slice p l.length q) l.length (kP.cs l) hs hown.row ⟨b, i, none⟩ m.length xc (kP.cs m) hx (RowK.cs_len kP m) (pms_news hc) ?_ (by omega) (by unfold maxLen; omega) ?_ hbase w.heap.size rfl ?_
      · intro u hu
        obtain ⟨y, hy, hu⟩ := List.mem_flatMap.1 hu
        exact kP.one y u hu
      · show (l.length + m.length) * 24 ≤ _
        omega
      · intro g cap w' h1 h2 h3 _
        refine h (some ⟨g, 0, none⟩) cap w' ⟨?_, fun g' hg hz => ?_, fun _ _ => trivial⟩ h2
        · rw [List.length_append, RowK.cs_app]; exact h1
        · have hk2 : g = g' := by injection hg
          subst hk2
          have := hZ g hz
          rcases h3 with h3 | h3
          · have := (hown.lt g h3).1; omega
          · omega
end Go.Proofs.YtgjnddjpinhkgaaDoor.Y
namespace Go.Proofs.YtgjnddjpinhkgaaDoor.Y
open Go.RowKit
open L (Str isName prt size_len below_2 below_box ret_bool ret_int eql_eq bytes_eq)
open A (Ex St Pm Pr V arity vE vEs absent exV exO exV_mk Bx okE okEs cE cEs PmsAt StrsAt PrIn OkP prV prO names valE ExsAt ExAt StsAt StAt Bodies RowK Own1 Stays)
theorem isIn_drop {x : ByteArray} {l : List ByteArray} {k : Nat} (hk : k < l.length) : isIn x (l.drop k) = (decide (l[k] = x) || isIn x (l.drop (k + 1))) := by
  rw [List.drop_eq_getElem_cons hk]; unfold isIn; rw [List.any_cons]
set_option maxHeartbeats 4000000 in
set_option maxRecDepth 100000 in
theorem has_any (l : List ByteArray) (a : Option Addr) (c : Nat) (x : ByteArray) (hl : l.length ≤ 1000000000000000) (w : World) (hK : StrsAt w a l) :
    Calls Tryd.prog 20 #[.slice a l.length c, .string x] w fun e' w' => e' = .returned (.bool (isIn x l)) ∧ w' = w := by
  have HK := Lib.hid hK
  obtain ⟨R, hR⟩ : ∃ R, isIn x l = R := ⟨_, rfl⟩
  rw [hR]
  have HR : Hid (isIn x (l.drop 0) = R) := hR
  obtain ⟨m, hm⟩ : ∃ m, l.length = m := ⟨_, rfl⟩
  have HL := Lib.hid hm
  rw [hm] at hl ⊢
  clear hm hR hK
  go_enter Tryd.func20, Tryd.ntmps20
  go_wp2_with fail
  go_loopw [5] (fun s5 wr => ∃ k : Nat, k ≤ m ∧ s5 = .int .i64 k ∧ Hid (isIn x (l.drop k) = R) ∧ wr = w) (fun s5 _ => m - (intOf s5).toNat)
  case atStart => exact ⟨0, Nat.zero_le _, rfl, HR, rfl⟩
  case round =>
    obtain ⟨k, hk, rfl, HX, rfl⟩ := hrel
    by_cases hlt : k < m
    · have hlx : k < l.length := by rw [HL.out]; exact hlt
      obtain ⟨b3, i3, rfl, hcc⟩ := HK.out.open hlx
      have f0 := hcc k hlx
      have hx := HX.out
      rw [isIn_drop hlx] at hx
      generalize l[k] = q at f0 hx
      have hb := A.bytes_dec q x
      clear hcc
      by_cases hn : q = x
      · rw [decide_eq_true hn] at hb hx
        have HV : Hid (true = R) := hx
        clear hn hx
        go_wp2_with fail
        go_ret
        exact ⟨ret_bool HV.out, rfl⟩
      · rw [decide_eq_false hn] at hb hx
        have HX2 : Hid (isIn x (l.drop (k + 1)) = R) := hx
        clear hn hx
        go_wp2_with fail
        go_roundw
        case rel => exact ⟨k + 1, by omega, by go_num, HX2, trivial⟩
        case measure => simp [intOf]; omega
    · have hx := HX.out
      rw [List.drop_of_length_le (by have := HL.out; omega)] at hx
      have HV : Hid (false = R) := hx
      clear hx
      go_wp2_with fail
      go_ret
      exact ⟨ret_bool HV.out, rfl⟩
end Go.Proofs.YtgjnddjpinhkgaaDoor.Y
namespace Go.Proofs.YtgjnddjpinhkgaaDoor.P
open Go.RowKit
structure IS (F : Nat → Value → World → Prop) (W : World) (l : Array Bool) (w : World) (vs : List Value) : Prop where
  bel : Below W.heap.size W w
  f : ∀ j, On l j → F j (vs.getD j undef) w
theorem IS.step {F : Nat → Value → World → Prop} (hF : ∀ j x w w', F j x w → Below w.heap.size w w' → F j x w') {W : World} {l : Array Bool} {w w' : World} {vs : List Value} (h : IS F W l w vs) {i : Nat} (h0 : l.getD i true = false) (hi : i < vs.length) (hb : Below w.heap.size w w') {x : Value} (hx : F i x w') :
    IS F W (l.setIfInBounds i true) w' (vs.set i x) := by
  refine ⟨h.bel.trans (hb.mono h.bel.size), fun j hj => ?_⟩
  by_cases e : j = i
  · subst e; rw [getD_self hi]; exact hx
  · rw [getD_other e]
    exact hF _ _ _ _ (h.f j (((on_set h0 j).1 hj).resolve_left e)) hb
theorem IS.start (F : Nat → Value → World → Prop) (W : World) {l : Array Bool} (hl : ∀ j, ¬ On l j) (vs : List Value) : IS F W l { W with drawn := W.drawn + 1 } vs := ⟨L.below_drew W, fun j hj => absurd hj (hl j)⟩
end Go.Proofs.YtgjnddjpinhkgaaDoor.P
