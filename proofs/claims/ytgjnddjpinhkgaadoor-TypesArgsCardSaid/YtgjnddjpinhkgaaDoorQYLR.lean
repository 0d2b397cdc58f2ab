/-
  The laws of layer 11: a list with one more name.
-/
import Derived.Test.YtgjnddjpinhkgaaDoorQYLK
import Derived.Deep.AppendLies
import Derived.Test.YtgjnddjpinhkgaaDoorM19
namespace Go.Proofs.YtgjnddjpinhkgaaDoor.Y
open Go.RowKit
open L (Str isName prt size_len below_2 below_box ret_bool ret_int eql_eq bytes_eq)
open A (Ex St Pm Pr V arity vE vEs absent exV exO exV_mk Bx okE okEs cE cEs PmsAt StrsAt PrIn OkP prV prO names valE ExsAt ExAt StsAt StAt Bodies RowK Own1 Stays kN)
open P (G Kd On off_of)

theorem flat_getN (l : List ByteArray) (j : Nat) (u : Value) (h : (kN.cs l)[j]? = some u) : ∃ hj : j < l.length, u = .string l[j] := by
  have hlt := (List.getElem?_eq_some_iff.1 h).1
  rw [RowK.cs_len] at hlt
  have hs : kN.size = 1 := rfl
  rw [hs] at hlt
  have hj : j < l.length := by omega
  have hg := RowK.cs_get kN l j hj 0 (by decide)
  rw [hs, Nat.mul_one, Nat.add_zero, h] at hg
  exact ⟨hj, Option.some.inj hg⟩
/-- names joined to names of the call's own -/
theorem wpList_append_strs {w : World} {ops : Array Oper} {rest : List Oper} {o : Oper} {a : Act} {Q : Exit → Act → World → Prop} (hgd : o.guard = none) (s x : Operand)
    (ho : o.op = .call { callee := .builtin .append, args := #[s, x], argTypes := #[38, 38] })
    (base : Nat) (Z : Nat → Prop) (p : Option Addr) (n q : Nat) (l m : List ByteArray) (hn : n = l.length) (hs : a.eval s = .slice p n q) (hown : Own1 kN w base Z (.slice p l.length q) l)
    (xa : Option Addr) (mm xc : Nat) (hmm : mm = m.length) (hx : a.eval x = .slice xa mm xc) (hP : StrsAt w xa m) (hl : l.length + m.length ≤ 1000000) (hbase : base ≤ w.heap.size) (hZ : ∀ k, Z k → k < base)
    (h : ∀ p' q' w', Own1 kN w' base Z (.slice p' (l ++ m).length q') (l ++ m) → w.grownBy w' (Value.slice p l.length q).ownBlock → Go.wpList Tryd.prog ops Q rest (a.put o.dst (.slice p' (n + mm) q')) w') :
    Go.wpList Tryd.prog ops Q (o :: rest) a w := by
  subst hn hmm
  obtain ⟨i0, hi, hz0, hz1, hz2⟩ := A.info_parts3 kN.info
  have zero : m = [] → Go.wpList Tryd.prog ops Q (o :: rest) a w := by
    rintro rfl
    obtain ⟨p2, q2, hv, hle⟩ := hown.shape
    injection hv with h1 h2 h3
    subst h1 h3
    refine wpList_plain hgd fun K hK' => ?_
    have hrun := run_append_0 (P := Tryd.prog) w 38 o.type 9 i0 kN.und hi p l.length q hle xa xc
    unfold Oper.wp
    simp [execOp, ho, resolve, invoke, builtin, hs, hx, hrun, Result.andThen]
    refine hK' _ _ ?_
    have := h p q w (by rw [List.append_nil]; exact hown) (World.grownBy.refl _ _)
    simpa using this
  rcases hP with h0 | ⟨b, i, rfl, hc⟩
  · exact zero h0
  · by_cases h0 : m.length = 0
    · exact zero (List.eq_nil_of_length_eq_zero h0)
    · refine wpList_append_lies _ hgd s x kN.t ho base kN.e i0 _ kN.size kN.bytes kN.und hi hz0 hz1 hz2 kN.zs kN.pos (.slice p l.length q) l.length (kN.cs l) hs hown.row ⟨b, i, none⟩ m.length xc (kN.cs m) hx (RowK.cs_len kN m) ?_ ?_ (by omega) (by unfold maxLen; omega) ?_ hbase w.heap.size rfl ?_
      · intro j u hu
        obtain ⟨hj, rfl⟩ := flat_getN m j u hu
        rw [WideShapes.add_plain]
        exact hc j hj
      · intro u hu
        obtain ⟨y, hy, hu⟩ := List.mem_flatMap.1 hu
        exact kN.one y u hu
      · show (l.length + m.length) * 16 ≤ _
        omega
      · intro g cap w' h1 h2 h3 _
        refine h (some ⟨g, 0, none⟩) cap w' ⟨?_, fun g' hg hz => ?_, fun _ _ => trivial⟩ h2
        · rw [List.length_append, RowK.cs_app]; exact h1
        · have hk2 : g = g' := by injection hg
          subst hk2
          have := hZ g hz
          rcases h3 with h3 | h3
          · have := (hown.lt g h3).1; omega
          · omega
set_option maxHeartbeats 4000000 in
set_option maxRecDepth 100000 in
theorem more_any (l : List ByteArray) (a : Option Addr) (c : Nat) (x : ByteArray) (hl : l.length ≤ 100000) (w : World) (hK : StrsAt w a l) :
    Calls Tryd.prog 43 #[.slice a l.length c, .string x] w fun e' w' => ∃ p q, e' = .returned (.slice p (l.length + 1) q) ∧ StrsAt w' p (l ++ [x]) ∧ Below w.heap.size w w' := by
  have HK := Lib.hid hK
  have L1 : Hid (([] : List ByteArray).length + l.length ≤ 1000000) := by show _ ≤ _; simp; omega
  obtain ⟨m, hm⟩ : ∃ m, l.length = m := ⟨_, rfl⟩
  rw [hm]
  have HL := Lib.hid hm
  rw [hm] at hl
  clear hK hm
  go_enter Tryd.func43, Tryd.ntmps43
  go_wp2_with (at_builtin; first
    | (refine wpList_append_strs rfl (.tmp 6) (.tmp 7) rfl w.heap.size (fun _ => False) none 0 0 [] l rfl rfl Own1.nil a m c HL.out.symm rfl HK.out L1.out (Nat.le_refl _) (fun _ h => h.elim) ?_; intro p2 q2 w2 hown2 hgrow2; have HO2 : Hid (Own1 kN w2 w.heap.size (fun _ => False) (.slice p2 l.length q2) l) := hown2; have HB2 := Lib.hid ((Below.refl w.heap.size w).grown hgrow2 (Nat.le_refl _) (fun k hk => by cases hk)); have HZ2 := Lib.hid HB2.out.size; clear hown2 hgrow2)
    | (refine kN.wpList rfl (.tmp 9) (.tmp 11) rfl w.heap.size (.slice p2 l.length q2) l (by rw [HL.out]; rfl) HO2.out.row x _ rfl w2.heap.size rfl rfl (by rw [HL.out]; omega) HZ2.out ?_; intro g6 cap6 w6 hown6 hgrow6 hlie6; have HO6 := Lib.hid (HO2.out.push (by trivial) (fun k hk => hk.elim) hown6 hgrow6 hlie6); have HB6 := Lib.hid (HO2.out.frame HB2.out HZ2.out hgrow6); clear hown6 hgrow6 hlie6))
  have HO7 : Hid (Own1 kN w6 w.heap.size (fun _ => False) (.slice (some ⟨g6, 0, none⟩) (l ++ [x]).length cap6) (l ++ [x])) := by
    show Own1 _ _ _ _ _ _
    rw [List.length_append]
    exact HO6.out
  go_ret
  exact ⟨some ⟨g6, 0, none⟩, cap6, by rw [HL.out]; rfl, HO7.out.strs, HB6.out⟩
end Go.Proofs.YtgjnddjpinhkgaaDoor.Y
