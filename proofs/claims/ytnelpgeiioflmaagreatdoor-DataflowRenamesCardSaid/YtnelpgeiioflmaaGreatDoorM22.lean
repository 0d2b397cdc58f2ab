/-
  Names joined to names of the call's own: append of a list.
  What the reference of layer 14 returns: spread: contract.
  What slices.IndexFunc and slices.ContainsFunc over statements return for hasKey and hasBranch: contracts.
  What the program's hasBranch returns: contract.
  What the program's hasKey returns: contract.
-/
import Derived.Test.YtnelpgeiioflmaaGreatDoorM08
import Derived.Deep.AppendLies
import Derived.Test.YtnelpgeiioflmaaGreatDoorM21
namespace Go.Proofs.YtnelpgeiioflmaaGreatDoor.F
open Go.RowKit
open L (Str isName prt size_len below_2 below_box ret_bool ret_int eql_eq bytes_eq)
open A (StrsAt RowK Own1 Stays kN)

theorem run_append_0 {P : Program} (w : World) (t ty e : TypeId) (i : TypeInfo) (ht : P.underlying t = some (.slice e)) (hi : P.info? e = some i) (s : Option Addr) (n cap : Nat) (hle : n ≤ cap) (x : Option Addr) (c : Nat) :
    (Builtin.append_ #[t, t] ty #[.slice s n cap, .slice x 0 c]).run P w = .ok (.slice s n cap) w := by
  have hl : ∀ w', (Builtin.lenOf (.slice x 0 c)).run P w' = .ok 0 w' := fun _ => rfl
  have hc : (Builtin.firstCells i.size 0 (.slice x 0 c)).run P w = .ok #[] w := by
    cases x with
    | none => exact run_firstCells_none w i.size 0 0 c
    | some a => exact run_firstCells_some w i.size 0 a 0 c [] (by simp) (fun j u h => by simp at h)
  cases s <;> simp [Builtin.append_, run_underlying ht, sizeOf, typeInfo, hi, hle, hl, hc, storeCells]
theorem flat_getN (l : List ByteArray) (j : Nat) (u : Value) (h : (kN.cs l)[j]? = some u) : ∃ hj : j < l.length, u = .string l[j] := by
  have hlt := (List.getElem?_eq_some_iff.1 h).1
  rw [RowK.cs_len] at hlt
  have hs : kN.size = 1 := rfl
  rw [hs] at hlt
  have hj : j < l.length := by omega
  have hg := RowK.cs_get kN l j hj 0 (by decide)
  rw [hs, Nat.mul_one, Nat.add_zero, h] at hg
  exact ⟨hj, Option.some.inj hg⟩
theorem wpList_append_strs {w : World} {ops : Array Oper} {rest : List Oper} {o : Oper} {a : Act} {Q : Exit → Act → World → Prop} (hgd : o.guard = none) (s x : Operand)
    (ho : o.op = .call { callee := .builtin .append, args := #[s, x], argTypes := #[29, 29] })
    (base : Nat) (Z : Nat → Prop) (p : Option Addr) (n q : Nat) (l m : List ByteArray) (hn : n = l.length) (hs : a.eval s = .slice p n q) (hown : Own1 kN w base Z (.slice p l.length q) l)
    (xa : Option Addr) (mm xc : Nat) (hmm : mm = m.length) (hx : a.eval x = .slice xa mm xc) (hP : StrsAt w xa m) (hl : l.length + m.length ≤ 1000000) (hbase : base ≤ w.heap.size) (hZ : ∀ k, Z k → k < base)
    (h : ∀ p' q' w', Own1 kN w' base Z (.slice p' (l ++ m).length q') (l ++ m) → w.grownBy w' (Value.slice p l.length q).ownBlock → Go.wpList Tryz.prog ops Q rest (a.put o.dst (.slice p' (n + mm) q')) w') :
    Go.wpList Tryz.prog ops Q (o :: rest) a w := by
  subst hn hmm
  obtain ⟨i0, hi, hz0, hz1, hz2⟩ := A.info_parts3 kN.info
  have zero : m = [] → Go.wpList Tryz.prog ops Q (o :: rest) a w := by
    rintro rfl
    obtain ⟨p2, q2, hv, hle⟩ := hown.shape
    injection hv with h1 h2 h3
    subst h1 h3
    refine wpList_plain hgd fun K hK' => ?_
    have hrun := run_append_0 (P := Tryz.prog) w 29 o.type 9 i0 kN.und hi p l.length q hle xa xc
    unfold Oper.wp
    simp [execOp, ho, resolve, invoke, builtin, hs, hx, hrun, Result.andThen]
    refine hK' _ _ ?_
    have := h p q w (by rw [List.append_nil]; exact hown) (World.grownBy.refl _ _)
    simpa using this
  rcases hP with h0 | ⟨b, i, rfl, hc⟩
  · exact zero h0
  · by_cases h0 : m.length = 0
    · exact zero (List.eq_nil_of_length_eq_zero h0)
    · refine wpList_append_lies _ hgd s x kN.t ho base kN.e i0 _ kN.size kN.bytes kN.und hi hz0 hz1 hz2 kN.zs kN.pos (.slice p l.length q) l.length (kN.cs l) hs hown.row ⟨b, i, none⟩ m.length xc (kN.cs m) hx (RowK.cs_len kN m) ?_ ?_ (by omega) (by unfold maxLen; omega) ?_ hbase w.heap.size rfl ?_
      · intro j u hu
        obtain ⟨hj, rfl⟩ := flat_getN m j u hu
        rw [WideShapes.add_plain]
        exact hc j hj
      · intro u hu
        obtain ⟨y, hy, hu⟩ := List.mem_flatMap.1 hu
        exact kN.one y u hu
      · show (l.length + m.length) * 16 ≤ _
        omega
      · intro g cap w' h1 h2 h3 _
        refine h (some ⟨g, 0, none⟩) cap w' ⟨?_, fun g' hg hz => ?_, fun _ _ => trivial⟩ h2
        · rw [List.length_append, RowK.cs_app]; exact h1
        · have hk2 : g = g' := by injection hg
          subst hk2
          have := hZ g hz
          rcases h3 with h3 | h3
          · have := (hown.lt g h3).1; omega
          · omega
end Go.Proofs.YtnelpgeiioflmaaGreatDoor.F
namespace Go.Proofs.YtnelpgeiioflmaaGreatDoor.F
open Go.RowKit
open L (Str isName prt size_len below_2 below_box ret_bool ret_int eql_eq bytes_eq)
open A (Ex St Pm Pr exV exO exV_mk Bx okE okEs okB StrsAt RowK Own1 Stays kN cB cS)
open Y (isIn isIn_iff isIn_no)

theorem spB_drop {vs : List ByteArray} {u : Bool} {l : List St} {k : Nat} (hk : k < l.length) : spB vs u (l.drop k) = spB (spS vs u l[k]) u (l.drop (k + 1)) := by rw [List.drop_eq_getElem_cons hk, spB]
theorem spS_open (vs : List ByteArray) (u : Bool) (s : St) : spS vs u s = spB (spB (add vs (here (mem vs) u s.op s.a s.b) s.name) (here (mem vs) u s.op s.a s.b) s.body) (here (mem vs) u s.op s.a s.b) s.els := by
  obtain ⟨o, nm, mx, a, b, bd, el⟩ := s
  rw [spS]; rfl
theorem add_len (vs : List ByteArray) (h : Bool) (nm : ByteArray) : (add vs h nm).length ≤ vs.length + 1 := by
  unfold add
  split <;> simp
mutual
theorem spS_len : ∀ (s : St) (vs : List ByteArray) (u : Bool), (spS vs u s).length ≤ vs.length + cS s
  | .mk o nm mx a b bd el, vs, u => by
    rw [spS, A.cS_parts]
    have h1 := add_len vs (here (mem vs) u o a b) nm
    have h2 := spB_len bd (add vs (here (mem vs) u o a b) nm) (here (mem vs) u o a b)
    have h3 := spB_len el (spB (add vs (here (mem vs) u o a b) nm) (here (mem vs) u o a b) bd) (here (mem vs) u o a b)
    show _ ≤ vs.length + (1 + nm.size / 64 + A.cE a + A.cE b + cB bd + cB el)
    omega
theorem spB_len : ∀ (l : List St) (vs : List ByteArray) (u : Bool), (spB vs u l).length ≤ vs.length + cB l
  | [], vs, u => by rw [spB]; omega
  | s :: r, vs, u => by
    rw [spB, cB]
    have h1 := spS_len s vs u
    have h2 := spB_len r (spS vs u s) u
    omega
end
theorem cB_dropF {l : List St} {k : Nat} (hk : k < l.length) : cB (l.drop k) = cS l[k] + cB (l.drop (k + 1)) := by rw [List.drop_eq_getElem_cons hk, cB]
def stF (s : St) (a1 : Option Addr) (c1 : Nat) (a2 : Option Addr) (c2 : Nat) (a3 : Option Addr) (c3 : Nat) (a4 : Option Addr) (c4 : Nat) : Array Value :=
  #[.int .i64 s.op, .string s.name, .int .i64 s.mx, .int .i64 s.a.op, .int .i64 s.a.n, .string s.a.s, .slice a1 s.a.args.length c1, .int .i64 s.b.op, .int .i64 s.b.n, .string s.b.s, .slice a2 s.b.args.length c2, .slice a3 s.body.length c3, .slice a4 s.els.length c4]
def QS (l : List St) : Prop := ∀ (a : Option Addr) (c : Nat) (vs : List ByteArray) (va : Option Addr) (vc : Nat) (u : Bool) (w : World), okB l → l.length ≤ 1000000000000000 → StrsAt w va vs → A.Bodies w a l → vs.length + cB l ≤ 90000 →
  Calls Tryz.prog 60 #[.slice a l.length c, .slice va vs.length vc, .bool u] w fun e' w' => ∃ p q, e' = .returned (.slice p (spB vs u l).length q) ∧ StrsAt w' p (spB vs u l) ∧ Below w.heap.size w w'
set_option maxHeartbeats 16000000 in
set_option maxRecDepth 100000 in
theorem spread_step {l : List St} (hq : ∀ j (h : j < l.length), QS (l[j]).body ∧ QS (l[j]).els) : QS l := by
  intro a c vs va0 vc0 u w hok hl hS hK hn
  have HST := Lib.hid hq
  have HOK := Lib.hid hok
  have HK := Lib.hid hK
  obtain ⟨R, hR⟩ : ∃ R, spB vs u l = R := ⟨_, rfl⟩
  rw [hR]
  have HR : Hid (spB vs u (l.drop 0) = R) := hR
  have HN : Hid (vs.length + cB (l.drop 0) ≤ 90000) := hn
  have HS0 := Lib.hid hS
  obtain ⟨m, hm⟩ : ∃ m, l.length = m := ⟨_, rfl⟩
  have HL := Lib.hid hm
  rw [hm] at hl ⊢
  clear hm hR hS hK hn hq hok
  go_enter Tryz.func60, Tryz.ntmps60
  go_wp2_with fail
  go_loopw [1, 7] (fun s1 s7 wr => ∃ (k : Nat) (sn : List ByteArray) (va : Option Addr) (vc : Nat), k ≤ m ∧ s7 = .int .i64 k ∧ s1 = .slice va sn.length vc ∧ Hid (spB sn u (l.drop k) = R) ∧ Hid (StrsAt wr va sn) ∧ Hid (Below w.heap.size w wr) ∧ Hid (sn.length + cB (l.drop k) ≤ 90000)) (fun _ i _ => m - (intOf i).toNat)
  case atStart => exact ⟨0, vs, va0, vc0, Nat.zero_le _, rfl, rfl, HR, HS0.out, Below.refl _ _, HN⟩
  case round =>
    obtain ⟨k, sn, va, vc, hk, rfl, rfl, HX, HSk, HBr, HNk⟩ := hrel
    by_cases hlt : k < m
    · have hlx : k < l.length := by rw [HL.out]; exact hlt
      obtain ⟨b3, i3, rfl, hat⟩ := HK.out.open hlx
      obtain ⟨a1, c1, a2, c2, a3, c3, a4, c4, hcc0, hkk⟩ := hat.open
      have hcc := hcc0.below HBr.out
      have hoks := A.okS_open (HOK.out.get k hlx)
      have hcd := cB_dropF hlx
      have hcs := A.cS_parts l[k]
      have hnn := HNk.out
      have hx := HX.out
      rw [spB_drop hlx, spS_open] at hx
      obtain ⟨hqb, hqe⟩ := HST.out k hlx
      have TA : Hid (∀ wk, Below wr.heap.size wr wk → Calls Tryz.prog 41 #[exV (l[k]).a a1 c1, .slice va sn.length vc] wk fun e' w' => e' = .returned (.bool (tE (mem sn) (l[k]).a)) ∧ Below wk.heap.size wk w') := fun wk hb =>
        rtainted_any (by omega) (l[k]).a a1 c1 va vc wk hoks.a (HSk.out.below hb) ((hkk.a.below HBr.out).below hb)
      have TB : Hid (∀ wk, Below wr.heap.size wr wk → Calls Tryz.prog 41 #[exV (l[k]).b a2 c2, .slice va sn.length vc] wk fun e' w' => e' = .returned (.bool (tE (mem sn) (l[k]).b)) ∧ Below wk.heap.size wk w') := fun wk hb =>
        rtainted_any (by omega) (l[k]).b a2 c2 va vc wk hoks.b (HSk.out.below hb) ((hkk.b.below HBr.out).below hb)
      have HH : Hid (∀ wk, Below wr.heap.size wr wk → Calls Tryz.prog 38 #[.slice va sn.length vc, .string (l[k]).name] wk fun e' w' => e' = .returned (.bool (mem sn (l[k]).name)) ∧ Below wk.heap.size wk w') := fun wk hb =>
        (rhas_any sn va vc (l[k]).name (by omega) wk (HSk.out.below hb)).mono fun e w' h => ⟨h.1, by rw [h.2]; exact Below.refl _ _⟩
      have SB : Hid (∀ wk (s2 : List ByteArray) v2 q2 n2 (h : Bool), n2 = s2.length → Below wr.heap.size wr wk → StrsAt wk v2 s2 → s2.length + cB (l[k]).body ≤ 90000 → Calls Tryz.prog 60 #[.slice a3 (l[k]).body.length c3, .slice v2 n2 q2, .bool h] wk fun e' w' => ∃ p q, e' = .returned (.slice p (spB s2 h (l[k]).body).length q) ∧ StrsAt w' p (spB s2 h (l[k]).body) ∧ Below wk.heap.size wk w') := fun wk s2 v2 q2 n2 h hn hb hs hln => by
        subst hn
        exact hqb a3 c3 s2 v2 q2 h wk hoks.body hoks.bodyLen hs ((hkk.body.below HBr.out).below hb) hln
      have SE : Hid (∀ wk (s2 : List ByteArray) v2 q2 n2 (h : Bool), n2 = s2.length → Below wr.heap.size wr wk → StrsAt wk v2 s2 → s2.length + cB (l[k]).els ≤ 90000 → Calls Tryz.prog 60 #[.slice a4 (l[k]).els.length c4, .slice v2 n2 q2, .bool h] wk fun e' w' => ∃ p q, e' = .returned (.slice p (spB s2 h (l[k]).els).length q) ∧ StrsAt w' p (spB s2 h (l[k]).els) ∧ Below wk.heap.size wk w') := fun wk s2 v2 q2 n2 h hn hb hs hln => by
        subst hn
        exact hqe a4 c4 s2 v2 q2 h wk hoks.els hoks.elsLen hs ((hkk.els.below HBr.out).below hb) hln
      have LN : Hid (∀ (s2 : List ByteArray) (h : Bool), s2.length ≤ sn.length + 1 → s2.length + cB (l[k]).body ≤ 90000 ∧ (spB s2 h (l[k]).body).length + cB (l[k]).els ≤ 90000 ∧ (spB (spB s2 h (l[k]).body) h (l[k]).els).length + cB (l.drop (k + 1)) ≤ 90000) := fun s2 h h2 => by
        have e1 := spB_len (l[k]).body s2 h
        have e2 := spB_len (l[k]).els (spB s2 h (l[k]).body) h
        omega
      have L1 : Hid (([] : List ByteArray).length + sn.length ≤ 1000000) := by show _ ≤ _; simp; omega
      have hsn : sn.length ≤ 90000 := by omega
      have HSN := Lib.hid hsn
      have NX : Hid (∀ (h : Bool) (s2 : List ByteArray), (u || tE (mem sn) (l[k]).a || (decide ((l[k]).op = 6) && tE (mem sn) (l[k]).b)) = h → add sn h (l[k]).name = s2 → spB (spB (spB s2 h (l[k]).body) h (l[k]).els) u (l.drop (k + 1)) = R) := fun h s2 e1 e2 => by
        have e1' : here (mem sn) u (l[k]).op (l[k]).a (l[k]).b = h := e1
        rw [e1', e2] at hx
        exact hx
      have AD1 : Hid ((l[k]).name.size ≠ 0 → mem sn (l[k]).name = false → add sn true (l[k]).name = sn ++ [(l[k]).name]) := fun h1 h2 => by
        unfold add
        rw [if_pos ⟨rfl, h1, h2⟩]
      have AD2 : Hid ((l[k]).name.size = 0 → add sn true (l[k]).name = sn) := fun h1 => by
        unfold add
        rw [if_neg (fun z => z.2.1 h1)]
      have AD3 : Hid (mem sn (l[k]).name = true → add sn true (l[k]).name = sn) := fun h1 => by
        unfold add
        rw [if_neg (fun z => by have h2 : mem sn (l[k]).name = false := z.2.2; rw [h1] at h2; cases h2)]
      have AD0 : Hid (add sn false (l[k]).name = sn) := by
        show _ = _
        unfold add
        rw [if_neg (fun z => by cases z.1)]
      have hbz := below_box wr (A.stO l[k] a1 c1 a2 c2 a3 c3 a4 c4)
      have hxz := Bx.new wr (stF l[k] a1 c1 a2 c2 a3 c3 a4 c4) 44
      have f0 := hcc.k0
      have f1 := hcc.k1
      have f2 := hcc.k2
      have f3 := hcc.k3
      have f4 := hcc.k4
      have f5 := hcc.k5
      have f6 := hcc.k6
      have f7 := hcc.k7
      have f8 := hcc.k8
      have f9 := hcc.k9
      have f10 := hcc.k10
      have f11 := hcc.k11
      have f12 := hcc.k12
      clear hat hcc0 hkk hcc hoks hqb hqe hcd hcs hnn HX hx
      unfold A.stO at hbz
      unfold stF at hxz
      unfold exV at TA TB
      generalize tE (mem sn) (l[k]).a = ta at *
      generalize tE (mem sn) (l[k]).b = tb at *
      generalize mem sn (l[k]).name = hm at *
      generalize (l[k]).a.args.length = n1 at *
      generalize (l[k]).b.args.length = n2 at *
      generalize (l[k]).a.op = o1 at *
      generalize (l[k]).a.n = m1 at *
      generalize (l[k]).a.s = s1 at *
      generalize (l[k]).b.op = o2 at *
      generalize (l[k]).b.n = m2 at *
      generalize (l[k]).b.s = s2 at *
      generalize (l[k]).body.length = n3 at *
      generalize (l[k]).els.length = n4 at *
      generalize (l[k]).body = bd at *
      generalize (l[k]).els = el at *
      generalize (l[k]).op = o0 at *
      generalize (l[k]).name = s0 at *
      generalize (l[k]).mx = m0 at *
      have HXz := Lib.hid hxz
      have HBz := Lib.hid hbz
      clear hbz
      have y0 := hxz.cell 0
      have y1 := hxz.cell 1
      have y3 := hxz.cell 3
      have y4 := hxz.cell 4
      have y5 := hxz.cell 5
      have y6 := hxz.cell 6
      have y7 := hxz.cell 7
      have y8 := hxz.cell 8
      have y9 := hxz.cell 9
      have y10 := hxz.cell 10
      have y11 := hxz.cell 11
      have y12 := hxz.cell 12
      simp only [List.getElem?_toArray, List.getElem?_cons_zero, List.getElem?_cons_succ] at y0 y1 y3 y4 y5 y6 y7 y8 y9 y10 y11 y12
      clear hxz
      by_cases h6 : o0 = 6
      · subst h6
        cases u with
        | true =>
          by_cases hn : s0.size = 0
          · have be : s0.toList.isEmpty = true := by rw [A.empty_of]; exact decide_eq_true hn
            have HE := Lib.hid (AD2.out hn)
            clear hn
            go_wp2_with fail
            refine (SB.out _ sn va vc _ true rfl HBz.out (HSk.out.below HBz.out) (LN.out sn true (Nat.le_succ _)).1).mono ?_; rintro e' w7 ⟨p7, q7, rfl, hs7, hb7⟩
            have HB7 := Lib.hid (below_2 HBz.out hb7)
            have HS7 := Lib.hid hs7
            have z12 := (HXz.out.below hb7).cell 12
            simp only [List.getElem?_toArray, List.getElem?_cons_zero, List.getElem?_cons_succ] at z12
            clear hs7 hb7
            clear y0 y1 y3 y4 y5 y6 y7 y8 y9 y10 y11 y12
            go_wp2_with fail
            refine (SE.out _ (spB sn true bd) p7 q7 _ true rfl HB7.out HS7.out (LN.out sn true (Nat.le_succ _)).2.1).mono ?_; rintro e' w8 ⟨p8, q8, rfl, hs8, hb8⟩
            have HB8 := Lib.hid (below_2 HBr.out (below_2 HB7.out hb8))
            have HS8 := Lib.hid hs8
            have HG : Hid (spB (spB (spB sn true bd) true el) _ (l.drop (k + 1)) = R) := NX.out true sn (by simp) HE.out
            have HLn := Lib.hid (LN.out sn true (Nat.le_succ _)).2.2
            clear hs8 hb8 z12
            go_wp2_with fail
            go_roundw
            case rel => exact ⟨k + 1, spB (spB sn true bd) true el, p8, q8, by omega, by go_num, rfl, HG.out, HS8.out, HB8.out, HLn.out⟩
            case measure => simp [intOf]; omega
          · have be : s0.toList.isEmpty = false := by rw [A.empty_of]; exact decide_eq_false hn
            have HNe := Lib.hid hn
            clear hn
            go_wp2_with fail
            refine (HH.out _ HBz.out).mono ?_; rintro e' w3 ⟨rfl, hb3⟩
            have HB3 := Lib.hid (below_2 HBz.out hb3)
            have HX3 := Lib.hid (HXz.out.below hb3)
            clear hb3
            clear y0 y1 y3 y4 y5 y6 y7 y8 y9 y10 y11 y12
            have x0 := HX3.out.cell 0
            have x1 := HX3.out.cell 1
            have x3 := HX3.out.cell 3
            have x4 := HX3.out.cell 4
            have x5 := HX3.out.cell 5
            have x6 := HX3.out.cell 6
            have x7 := HX3.out.cell 7
            have x8 := HX3.out.cell 8
            have x9 := HX3.out.cell 9
            have x10 := HX3.out.cell 10
            have x11 := HX3.out.cell 11
            have x12 := HX3.out.cell 12
            simp only [List.getElem?_toArray, List.getElem?_cons_zero, List.getElem?_cons_succ] at x0 x1 x3 x4 x5 x6 x7 x8 x9 x10 x11 x12
            cases hm with
            | true =>
              have HE := Lib.hid (AD3.out rfl)
              go_wp2_with fail
              refine (SB.out _ sn va vc _ true rfl HB3.out (HSk.out.below HB3.out) (LN.out sn true (Nat.le_succ _)).1).mono ?_; rintro e' w7 ⟨p7, q7, rfl, hs7, hb7⟩
              have HB7 := Lib.hid (below_2 HB3.out hb7)
              have HS7 := Lib.hid hs7
              have z12 := (HX3.out.below hb7).cell 12
              simp only [List.getElem?_toArray, List.getElem?_cons_zero, List.getElem?_cons_succ] at z12
              clear hs7 hb7
              clear x0 x1 x3 x4 x5 x6 x7 x8 x9 x10 x11 x12
              go_wp2_with fail
              refine (SE.out _ (spB sn true bd) p7 q7 _ true rfl HB7.out HS7.out (LN.out sn true (Nat.le_succ _)).2.1).mono ?_; rintro e' w8 ⟨p8, q8, rfl, hs8, hb8⟩
              have HB8 := Lib.hid (below_2 HBr.out (below_2 HB7.out hb8))
              have HS8 := Lib.hid hs8
              have HG : Hid (spB (spB (spB sn true bd) true el) _ (l.drop (k + 1)) = R) := NX.out true sn (by simp) HE.out
              have HLn := Lib.hid (LN.out sn true (Nat.le_succ _)).2.2
              clear hs8 hb8 z12
              go_wp2_with fail
              go_roundw
              case rel => exact ⟨k + 1, spB (spB sn true bd) true el, p8, q8, by omega, by go_num, rfl, HG.out, HS8.out, HB8.out, HLn.out⟩
              case measure => simp [intOf]; omega
            | false =>
              have HE := Lib.hid (AD1.out HNe.out rfl)
              have HSw := Lib.hid (HSk.out.below HB3.out)
              go_wp2_with (at_builtin; first
                | (refine wpList_append_strs rfl (.tmp 51) (.tmp 52) rfl w3.heap.size (fun _ => False) none 0 0 [] sn rfl rfl Own1.nil va sn.length vc rfl rfl HSw.out L1.out (Nat.le_refl _) (fun _ h => h.elim) ?_; intro p2 q2 w4 hown2 hgrow2; have HO2 : Hid (Own1 kN w4 w3.heap.size (fun _ => False) (.slice p2 sn.length q2) sn) := hown2; have HB4 := Lib.hid ((Below.refl w3.heap.size w3).grown hgrow2 (Nat.le_refl _) (fun k hk => by cases hk)); have HZ4 := Lib.hid HB4.out.size; have k1 := (HX3.out.below HB4.out).cell 1; simp only [List.getElem?_toArray, List.getElem?_cons_zero, List.getElem?_cons_succ] at k1; rw [Nat.zero_add]; clear hown2 hgrow2)
                | (refine kN.wpList rfl (.tmp 54) (.tmp 57) rfl w3.heap.size (.slice p2 sn.length q2) sn rfl HO2.out.row s0 _ rfl w4.heap.size rfl rfl (by have := HSN.out; omega) HZ4.out ?_; intro g6 cap6 w6 hown6 hgrow6 hlie6; have HO6 := Lib.hid (HO2.out.push (y := s0) (by trivial) (fun k hk => hk.elim) hown6 hgrow6 hlie6); have HB6 := Lib.hid (HO2.out.frame HB4.out HZ4.out hgrow6); have HX6 := Lib.hid (HX3.out.below HB6.out); have j11 := HX6.out.cell 11; have j12 := HX6.out.cell 12; simp only [List.getElem?_toArray, List.getElem?_cons_zero, List.getElem?_cons_succ] at j11 j12; clear hown6 hgrow6 hlie6))
              have HB36 := Lib.hid (below_2 HB3.out HB6.out)
              have HO7 : Hid (StrsAt w6 (some ⟨g6, 0, none⟩) (sn ++ [s0])) := by
                have h7 : Own1 kN w6 w3.heap.size (fun _ => False) (.slice (some ⟨g6, 0, none⟩) (sn ++ [s0]).length cap6) (sn ++ [s0]) := by rw [List.length_append]; exact HO6.out
                exact h7.strs
              clear j11 j12
              refine (SB.out _ (sn ++ [s0]) (some ⟨g6, 0, none⟩) cap6 _ true (by simp) HB36.out HO7.out (LN.out (sn ++ [s0]) true (by simp)).1).mono ?_; rintro e' w7 ⟨p7, q7, rfl, hs7, hb7⟩
              have HB7 := Lib.hid (below_2 HB36.out hb7)
              have HS7 := Lib.hid hs7
              have z12 := (HX6.out.below hb7).cell 12
              simp only [List.getElem?_toArray, List.getElem?_cons_zero, List.getElem?_cons_succ] at z12
              clear hs7 hb7
              clear x0 x1 x3 x4 x5 x6 x7 x8 x9 x10 x11 x12
              go_wp2_with fail
              refine (SE.out _ (spB (sn ++ [s0]) true bd) p7 q7 _ true rfl HB7.out HS7.out (LN.out (sn ++ [s0]) true (by simp)).2.1).mono ?_; rintro e' w8 ⟨p8, q8, rfl, hs8, hb8⟩
              have HB8 := Lib.hid (below_2 HBr.out (below_2 HB7.out hb8))
              have HS8 := Lib.hid hs8
              have HG : Hid (spB (spB (spB (sn ++ [s0]) true bd) true el) _ (l.drop (k + 1)) = R) := NX.out true (sn ++ [s0]) (by simp) HE.out
              have HLn := Lib.hid (LN.out (sn ++ [s0]) true (by simp)).2.2
              clear hs8 hb8 z12
              go_wp2_with fail
              go_roundw
              case rel => exact ⟨k + 1, spB (spB (sn ++ [s0]) true bd) true el, p8, q8, by omega, by go_num, rfl, HG.out, HS8.out, HB8.out, HLn.out⟩
              case measure => simp [intOf]; omega
        | false =>
          go_wp2_with fail
          refine (TA.out _ HBz.out).mono ?_; rintro e' w1 ⟨rfl, hb1⟩
          have HB1 := Lib.hid (below_2 HBz.out hb1)
          have HX1 := Lib.hid (HXz.out.below hb1)
          clear hb1
          clear y0 y1 y3 y4 y5 y6 y7 y8 y9 y10 y11 y12
          have v0 := HX1.out.cell 0
          have v1 := HX1.out.cell 1
          have v3 := HX1.out.cell 3
          have v4 := HX1.out.cell 4
          have v5 := HX1.out.cell 5
          have v6 := HX1.out.cell 6
          have v7 := HX1.out.cell 7
          have v8 := HX1.out.cell 8
          have v9 := HX1.out.cell 9
          have v10 := HX1.out.cell 10
          have v11 := HX1.out.cell 11
          have v12 := HX1.out.cell 12
          simp only [List.getElem?_toArray, List.getElem?_cons_zero, List.getElem?_cons_succ] at v0 v1 v3 v4 v5 v6 v7 v8 v9 v10 v11 v12
          cases ta with
          | true =>
            by_cases hn : s0.size = 0
            · have be : s0.toList.isEmpty = true := by rw [A.empty_of]; exact decide_eq_true hn
              have HE := Lib.hid (AD2.out hn)
              clear hn
              go_wp2_with fail
              refine (SB.out _ sn va vc _ true rfl HB1.out (HSk.out.below HB1.out) (LN.out sn true (Nat.le_succ _)).1).mono ?_; rintro e' w7 ⟨p7, q7, rfl, hs7, hb7⟩
              have HB7 := Lib.hid (below_2 HB1.out hb7)
              have HS7 := Lib.hid hs7
              have z12 := (HX1.out.below hb7).cell 12
              simp only [List.getElem?_toArray, List.getElem?_cons_zero, List.getElem?_cons_succ] at z12
              clear hs7 hb7
              clear v0 v1 v3 v4 v5 v6 v7 v8 v9 v10 v11 v12
              go_wp2_with fail
              refine (SE.out _ (spB sn true bd) p7 q7 _ true rfl HB7.out HS7.out (LN.out sn true (Nat.le_succ _)).2.1).mono ?_; rintro e' w8 ⟨p8, q8, rfl, hs8, hb8⟩
              have HB8 := Lib.hid (below_2 HBr.out (below_2 HB7.out hb8))
              have HS8 := Lib.hid hs8
              have HG : Hid (spB (spB (spB sn true bd) true el) _ (l.drop (k + 1)) = R) := NX.out true sn (by simp) HE.out
              have HLn := Lib.hid (LN.out sn true (Nat.le_succ _)).2.2
              clear hs8 hb8 z12
              go_wp2_with fail
              go_roundw
              case rel => exact ⟨k + 1, spB (spB sn true bd) true el, p8, q8, by omega, by go_num, rfl, HG.out, HS8.out, HB8.out, HLn.out⟩
              case measure => simp [intOf]; omega
            · have be : s0.toList.isEmpty = false := by rw [A.empty_of]; exact decide_eq_false hn
              have HNe := Lib.hid hn
              clear hn
              go_wp2_with fail
              refine (HH.out _ HB1.out).mono ?_; rintro e' w3 ⟨rfl, hb3⟩
              have HB3 := Lib.hid (below_2 HB1.out hb3)
              have HX3 := Lib.hid (HX1.out.below hb3)
              clear hb3
              clear v0 v1 v3 v4 v5 v6 v7 v8 v9 v10 v11 v12
              have x0 := HX3.out.cell 0
              have x1 := HX3.out.cell 1
              have x3 := HX3.out.cell 3
              have x4 := HX3.out.cell 4
              have x5 := HX3.out.cell 5
              have x6 := HX3.out.cell 6
              have x7 := HX3.out.cell 7
              have x8 := HX3.out.cell 8
              have x9 := HX3.out.cell 9
              have x10 := HX3.out.cell 10
              have x11 := HX3.out.cell 11
              have x12 := HX3.out.cell 12
              simp only [List.getElem?_toArray, List.getElem?_cons_zero, List.getElem?_cons_succ] at x0 x1 x3 x4 x5 x6 x7 x8 x9 x10 x11 x12
              cases hm with
              | true =>
                have HE := Lib.hid (AD3.out rfl)
                go_wp2_with fail
                refine (SB.out _ sn va vc _ true rfl HB3.out (HSk.out.below HB3.out) (LN.out sn true (Nat.le_succ _)).1).mono ?_; rintro e' w7 ⟨p7, q7, rfl, hs7, hb7⟩
                have HB7 := Lib.hid (below_2 HB3.out hb7)
                have HS7 := Lib.hid hs7
                have z12 := (HX3.out.below hb7).cell 12
                simp only [List.getElem?_toArray, List.getElem?_cons_zero, List.getElem?_cons_succ] at z12
                clear hs7 hb7
                clear x0 x1 x3 x4 x5 x6 x7 x8 x9 x10 x11 x12
                go_wp2_with fail
                refine (SE.out _ (spB sn true bd) p7 q7 _ true rfl HB7.out HS7.out (LN.out sn true (Nat.le_succ _)).2.1).mono ?_; rintro e' w8 ⟨p8, q8, rfl, hs8, hb8⟩
                have HB8 := Lib.hid (below_2 HBr.out (below_2 HB7.out hb8))
                have HS8 := Lib.hid hs8
                have HG : Hid (spB (spB (spB sn true bd) true el) _ (l.drop (k + 1)) = R) := NX.out true sn (by simp) HE.out
                have HLn := Lib.hid (LN.out sn true (Nat.le_succ _)).2.2
                clear hs8 hb8 z12
                go_wp2_with fail
                go_roundw
                case rel => exact ⟨k + 1, spB (spB sn true bd) true el, p8, q8, by omega, by go_num, rfl, HG.out, HS8.out, HB8.out, HLn.out⟩
                case measure => simp [intOf]; omega
              | false =>
                have HE := Lib.hid (AD1.out HNe.out rfl)
                have HSw := Lib.hid (HSk.out.below HB3.out)
                go_wp2_with (at_builtin; first
                  | (refine wpList_append_strs rfl (.tmp 51) (.tmp 52) rfl w3.heap.size (fun _ => False) none 0 0 [] sn rfl rfl Own1.nil va sn.length vc rfl rfl HSw.out L1.out (Nat.le_refl _) (fun _ h => h.elim) ?_; intro p2 q2 w4 hown2 hgrow2; have HO2 : Hid (Own1 kN w4 w3.heap.size (fun _ => False) (.slice p2 sn.length q2) sn) := hown2; have HB4 := Lib.hid ((Below.refl w3.heap.size w3).grown hgrow2 (Nat.le_refl _) (fun k hk => by cases hk)); have HZ4 := Lib.hid HB4.out.size; have k1 := (HX3.out.below HB4.out).cell 1; simp only [List.getElem?_toArray, List.getElem?_cons_zero, List.getElem?_cons_succ] at k1; rw [Nat.zero_add]; clear hown2 hgrow2)
                  | (refine kN.wpList rfl (.tmp 54) (.tmp 57) rfl w3.heap.size (.slice p2 sn.length q2) sn rfl HO2.out.row s0 _ rfl w4.heap.size rfl rfl (by have := HSN.out; omega) HZ4.out ?_; intro g6 cap6 w6 hown6 hgrow6 hlie6; have HO6 := Lib.hid (HO2.out.push (y := s0) (by trivial) (fun k hk => hk.elim) hown6 hgrow6 hlie6); have HB6 := Lib.hid (HO2.out.frame HB4.out HZ4.out hgrow6); have HX6 := Lib.hid (HX3.out.below HB6.out); have j11 := HX6.out.cell 11; have j12 := HX6.out.cell 12; simp only [List.getElem?_toArray, List.getElem?_cons_zero, List.getElem?_cons_succ] at j11 j12; clear hown6 hgrow6 hlie6))
                have HB36 := Lib.hid (below_2 HB3.out HB6.out)
                have HO7 : Hid (StrsAt w6 (some ⟨g6, 0, none⟩) (sn ++ [s0])) := by
                  have h7 : Own1 kN w6 w3.heap.size (fun _ => False) (.slice (some ⟨g6, 0, none⟩) (sn ++ [s0]).length cap6) (sn ++ [s0]) := by rw [List.length_append]; exact HO6.out
                  exact h7.strs
                clear j11 j12
                refine (SB.out _ (sn ++ [s0]) (some ⟨g6, 0, none⟩) cap6 _ true (by simp) HB36.out HO7.out (LN.out (sn ++ [s0]) true (by simp)).1).mono ?_; rintro e' w7 ⟨p7, q7, rfl, hs7, hb7⟩
                have HB7 := Lib.hid (below_2 HB36.out hb7)
                have HS7 := Lib.hid hs7
                have z12 := (HX6.out.below hb7).cell 12
                simp only [List.getElem?_toArray, List.getElem?_cons_zero, List.getElem?_cons_succ] at z12
                clear hs7 hb7
                clear x0 x1 x3 x4 x5 x6 x7 x8 x9 x10 x11 x12
                go_wp2_with fail
                refine (SE.out _ (spB (sn ++ [s0]) true bd) p7 q7 _ true rfl HB7.out HS7.out (LN.out (sn ++ [s0]) true (by simp)).2.1).mono ?_; rintro e' w8 ⟨p8, q8, rfl, hs8, hb8⟩
                have HB8 := Lib.hid (below_2 HBr.out (below_2 HB7.out hb8))
                have HS8 := Lib.hid hs8
                have HG : Hid (spB (spB (spB (sn ++ [s0]) true bd) true el) _ (l.drop (k + 1)) = R) := NX.out true (sn ++ [s0]) (by simp) HE.out
                have HLn := Lib.hid (LN.out (sn ++ [s0]) true (by simp)).2.2
                clear hs8 hb8 z12
                go_wp2_with fail
                go_roundw
                case rel => exact ⟨k + 1, spB (spB (sn ++ [s0]) true bd) true el, p8, q8, by omega, by go_num, rfl, HG.out, HS8.out, HB8.out, HLn.out⟩
                case measure => simp [intOf]; omega
          | false =>
            go_wp2_with fail
            refine (TB.out _ HB1.out).mono ?_; rintro e' w2 ⟨rfl, hb2⟩
            have HB2 := Lib.hid (below_2 HB1.out hb2)
            have HX2 := Lib.hid (HX1.out.below hb2)
            clear hb2
            clear v0 v1 v3 v4 v5 v6 v7 v8 v9 v10 v11 v12
            have r0 := HX2.out.cell 0
            have r1 := HX2.out.cell 1
            have r3 := HX2.out.cell 3
            have r4 := HX2.out.cell 4
            have r5 := HX2.out.cell 5
            have r6 := HX2.out.cell 6
            have r7 := HX2.out.cell 7
            have r8 := HX2.out.cell 8
            have r9 := HX2.out.cell 9
            have r10 := HX2.out.cell 10
            have r11 := HX2.out.cell 11
            have r12 := HX2.out.cell 12
            simp only [List.getElem?_toArray, List.getElem?_cons_zero, List.getElem?_cons_succ] at r0 r1 r3 r4 r5 r6 r7 r8 r9 r10 r11 r12
            cases tb with
            | true =>
              by_cases hn : s0.size = 0
              · have be : s0.toList.isEmpty = true := by rw [A.empty_of]; exact decide_eq_true hn
                have HE := Lib.hid (AD2.out hn)
                clear hn
                go_wp2_with fail
                refine (SB.out _ sn va vc _ true rfl HB2.out (HSk.out.below HB2.out) (LN.out sn true (Nat.le_succ _)).1).mono ?_; rintro e' w7 ⟨p7, q7, rfl, hs7, hb7⟩
                have HB7 := Lib.hid (below_2 HB2.out hb7)
                have HS7 := Lib.hid hs7
                have z12 := (HX2.out.below hb7).cell 12
                simp only [List.getElem?_toArray, List.getElem?_cons_zero, List.getElem?_cons_succ] at z12
                clear hs7 hb7
                clear r0 r1 r3 r4 r5 r6 r7 r8 r9 r10 r11 r12
                go_wp2_with fail
                refine (SE.out _ (spB sn true bd) p7 q7 _ true rfl HB7.out HS7.out (LN.out sn true (Nat.le_succ _)).2.1).mono ?_; rintro e' w8 ⟨p8, q8, rfl, hs8, hb8⟩
                have HB8 := Lib.hid (below_2 HBr.out (below_2 HB7.out hb8))
                have HS8 := Lib.hid hs8
                have HG : Hid (spB (spB (spB sn true bd) true el) _ (l.drop (k + 1)) = R) := NX.out true sn (by simp) HE.out
                have HLn := Lib.hid (LN.out sn true (Nat.le_succ _)).2.2
                clear hs8 hb8 z12
                go_wp2_with fail
                go_roundw
                case rel => exact ⟨k + 1, spB (spB sn true bd) true el, p8, q8, by omega, by go_num, rfl, HG.out, HS8.out, HB8.out, HLn.out⟩
                case measure => simp [intOf]; omega
              · have be : s0.toList.isEmpty = false := by rw [A.empty_of]; exact decide_eq_false hn
                have HNe := Lib.hid hn
                clear hn
                go_wp2_with fail
                refine (HH.out _ HB2.out).mono ?_; rintro e' w3 ⟨rfl, hb3⟩
                have HB3 := Lib.hid (below_2 HB2.out hb3)
                have HX3 := Lib.hid (HX2.out.below hb3)
                clear hb3
                clear r0 r1 r3 r4 r5 r6 r7 r8 r9 r10 r11 r12
                have x0 := HX3.out.cell 0
                have x1 := HX3.out.cell 1
                have x3 := HX3.out.cell 3
                have x4 := HX3.out.cell 4
                have x5 := HX3.out.cell 5
                have x6 := HX3.out.cell 6
                have x7 := HX3.out.cell 7
                have x8 := HX3.out.cell 8
                have x9 := HX3.out.cell 9
                have x10 := HX3.out.cell 10
                have x11 := HX3.out.cell 11
                have x12 := HX3.out.cell 12
                simp only [List.getElem?_toArray, List.getElem?_cons_zero, List.getElem?_cons_succ] at x0 x1 x3 x4 x5 x6 x7 x8 x9 x10 x11 x12
                cases hm with
                | true =>
                  have HE := Lib.hid (AD3.out rfl)
                  go_wp2_with fail
                  refine (SB.out _ sn va vc _ true rfl HB3.out (HSk.out.below HB3.out) (LN.out sn true (Nat.le_succ _)).1).mono ?_; rintro e' w7 ⟨p7, q7, rfl, hs7, hb7⟩
                  have HB7 := Lib.hid (below_2 HB3.out hb7)
                  have HS7 := Lib.hid hs7
                  have z12 := (HX3.out.below hb7).cell 12
                  simp only [List.getElem?_toArray, List.getElem?_cons_zero, List.getElem?_cons_succ] at z12
                  clear hs7 hb7
                  clear x0 x1 x3 x4 x5 x6 x7 x8 x9 x10 x11 x12
                  go_wp2_with fail
                  refine (SE.out _ (spB sn true bd) p7 q7 _ true rfl HB7.out HS7.out (LN.out sn true (Nat.le_succ _)).2.1).mono ?_; rintro e' w8 ⟨p8, q8, rfl, hs8, hb8⟩
                  have HB8 := Lib.hid (below_2 HBr.out (below_2 HB7.out hb8))
                  have HS8 := Lib.hid hs8
                  have HG : Hid (spB (spB (spB sn true bd) true el) _ (l.drop (k + 1)) = R) := NX.out true sn (by simp) HE.out
                  have HLn := Lib.hid (LN.out sn true (Nat.le_succ _)).2.2
                  clear hs8 hb8 z12
                  go_wp2_with fail
                  go_roundw
                  case rel => exact ⟨k + 1, spB (spB sn true bd) true el, p8, q8, by omega, by go_num, rfl, HG.out, HS8.out, HB8.out, HLn.out⟩
                  case measure => simp [intOf]; omega
                | false =>
                  have HE := Lib.hid (AD1.out HNe.out rfl)
                  have HSw := Lib.hid (HSk.out.below HB3.out)
                  go_wp2_with (at_builtin; first
                    | (refine wpList_append_strs rfl (.tmp 51) (.tmp 52) rfl w3.heap.size (fun _ => False) none 0 0 [] sn rfl rfl Own1.nil va sn.length vc rfl rfl HSw.out L1.out (Nat.le_refl _) (fun _ h => h.elim) ?_; intro p2 q2 w4 hown2 hgrow2; have HO2 : Hid (Own1 kN w4 w3.heap.size (fun _ => False) (.slice p2 sn.length q2) sn) := hown2; have HB4 := Lib.hid ((Below.refl w3.heap.size w3).grown hgrow2 (Nat.le_refl _) (fun k hk => by cases hk)); have HZ4 := Lib.hid HB4.out.size; have k1 := (HX3.out.below HB4.out).cell 1; simp only [List.getElem?_toArray, List.getElem?_cons_zero, List.getElem?_cons_succ] at k1; rw [Nat.zero_add]; clear hown2 hgrow2)
                    | (refine kN.wpList rfl (.tmp 54) (.tmp 57) rfl w3.heap.size (.slice p2 sn.length q2) sn rfl HO2.out.row s0 _ rfl w4.heap.size rfl rfl (by have := HSN.out; omega) HZ4.out ?_; intro g6 cap6 w6 hown6 hgrow6 hlie6; have HO6 := Lib.hid (HO2.out.push (y := s0) (by trivial) (fun k hk => hk.elim) hown6 hgrow6 hlie6); have HB6 := Lib.hid (HO2.out.frame HB4.out HZ4.out hgrow6); have HX6 := Lib.hid (HX3.out.below HB6.out); have j11 := HX6.out.cell 11; have j12 := HX6.out.cell 12; simp only [List.getElem?_toArray, List.getElem?_cons_zero, List.getElem?_cons_succ] at j11 j12; clear hown6 hgrow6 hlie6))
                  have HB36 := Lib.hid (below_2 HB3.out HB6.out)
                  have HO7 : Hid (StrsAt w6 (some ⟨g6, 0, none⟩) (sn ++ [s0])) := by
                    have h7 : Own1 kN w6 w3.heap.size (fun _ => False) (.slice (some ⟨g6, 0, none⟩) (sn ++ [s0]).length cap6) (sn ++ [s0]) := by rw [List.length_append]; exact HO6.out
                    exact h7.strs
                  clear j11 j12
                  refine (SB.out _ (sn ++ [s0]) (some ⟨g6, 0, none⟩) cap6 _ true (by simp) HB36.out HO7.out (LN.out (sn ++ [s0]) true (by simp)).1).mono ?_; rintro e' w7 ⟨p7, q7, rfl, hs7, hb7⟩
                  have HB7 := Lib.hid (below_2 HB36.out hb7)
                  have HS7 := Lib.hid hs7
                  have z12 := (HX6.out.below hb7).cell 12
                  simp only [List.getElem?_toArray, List.getElem?_cons_zero, List.getElem?_cons_succ] at z12
                  clear hs7 hb7
                  clear x0 x1 x3 x4 x5 x6 x7 x8 x9 x10 x11 x12
                  go_wp2_with fail
                  refine (SE.out _ (spB (sn ++ [s0]) true bd) p7 q7 _ true rfl HB7.out HS7.out (LN.out (sn ++ [s0]) true (by simp)).2.1).mono ?_; rintro e' w8 ⟨p8, q8, rfl, hs8, hb8⟩
                  have HB8 := Lib.hid (below_2 HBr.out (below_2 HB7.out hb8))
                  have HS8 := Lib.hid hs8
                  have HG : Hid (spB (spB (spB (sn ++ [s0]) true bd) true el) _ (l.drop (k + 1)) = R) := NX.out true (sn ++ [s0]) (by simp) HE.out
                  have HLn := Lib.hid (LN.out (sn ++ [s0]) true (by simp)).2.2
                  clear hs8 hb8 z12
                  go_wp2_with fail
                  go_roundw
                  case rel => exact ⟨k + 1, spB (spB (sn ++ [s0]) true bd) true el, p8, q8, by omega, by go_num, rfl, HG.out, HS8.out, HB8.out, HLn.out⟩
                  case measure => simp [intOf]; omega
            | false =>
              go_wp2_with fail
              refine (SB.out _ sn va vc _ false rfl HB2.out (HSk.out.below HB2.out) (LN.out sn false (Nat.le_succ _)).1).mono ?_; rintro e' w7 ⟨p7, q7, rfl, hs7, hb7⟩
              have HB7 := Lib.hid (below_2 HB2.out hb7)
              have HS7 := Lib.hid hs7
              have z12 := (HX2.out.below hb7).cell 12
              simp only [List.getElem?_toArray, List.getElem?_cons_zero, List.getElem?_cons_succ] at z12
              clear hs7 hb7
              clear r0 r1 r3 r4 r5 r6 r7 r8 r9 r10 r11 r12
              go_wp2_with fail
              refine (SE.out _ (spB sn false bd) p7 q7 _ false rfl HB7.out HS7.out (LN.out sn false (Nat.le_succ _)).2.1).mono ?_; rintro e' w8 ⟨p8, q8, rfl, hs8, hb8⟩
              have HB8 := Lib.hid (below_2 HBr.out (below_2 HB7.out hb8))
              have HS8 := Lib.hid hs8
              have HG : Hid (spB (spB (spB sn false bd) false el) _ (l.drop (k + 1)) = R) := NX.out false sn (by simp) AD0.out
              have HLn := Lib.hid (LN.out sn false (Nat.le_succ _)).2.2
              clear hs8 hb8 z12
              go_wp2_with fail
              go_roundw
              case rel => exact ⟨k + 1, spB (spB sn false bd) false el, p8, q8, by omega, by go_num, rfl, HG.out, HS8.out, HB8.out, HLn.out⟩
              case measure => simp [intOf]; omega
      · have b6 : (o0 == 6) = false := beq_eq_false_iff_ne.2 h6
        have d6 : decide (o0 = 6) = false := decide_eq_false h6
        rw [d6] at NX
        clear h6 d6
        cases u with
        | true =>
          by_cases hn : s0.size = 0
          · have be : s0.toList.isEmpty = true := by rw [A.empty_of]; exact decide_eq_true hn
            have HE := Lib.hid (AD2.out hn)
            clear hn
            go_wp2_with fail
            refine (SB.out _ sn va vc _ true rfl HBz.out (HSk.out.below HBz.out) (LN.out sn true (Nat.le_succ _)).1).mono ?_; rintro e' w7 ⟨p7, q7, rfl, hs7, hb7⟩
            have HB7 := Lib.hid (below_2 HBz.out hb7)
            have HS7 := Lib.hid hs7
            have z12 := (HXz.out.below hb7).cell 12
            simp only [List.getElem?_toArray, List.getElem?_cons_zero, List.getElem?_cons_succ] at z12
            clear hs7 hb7
            clear y0 y1 y3 y4 y5 y6 y7 y8 y9 y10 y11 y12
            go_wp2_with fail
            refine (SE.out _ (spB sn true bd) p7 q7 _ true rfl HB7.out HS7.out (LN.out sn true (Nat.le_succ _)).2.1).mono ?_; rintro e' w8 ⟨p8, q8, rfl, hs8, hb8⟩
            have HB8 := Lib.hid (below_2 HBr.out (below_2 HB7.out hb8))
            have HS8 := Lib.hid hs8
            have HG : Hid (spB (spB (spB sn true bd) true el) _ (l.drop (k + 1)) = R) := NX.out true sn (by simp) HE.out
            have HLn := Lib.hid (LN.out sn true (Nat.le_succ _)).2.2
            clear hs8 hb8 z12
            go_wp2_with fail
            go_roundw
            case rel => exact ⟨k + 1, spB (spB sn true bd) true el, p8, q8, by omega, by go_num, rfl, HG.out, HS8.out, HB8.out, HLn.out⟩
            case measure => simp [intOf]; omega
          · have be : s0.toList.isEmpty = false := by rw [A.empty_of]; exact decide_eq_false hn
            have HNe := Lib.hid hn
            clear hn
            go_wp2_with fail
            refine (HH.out _ HBz.out).mono ?_; rintro e' w3 ⟨rfl, hb3⟩
            have HB3 := Lib.hid (below_2 HBz.out hb3)
            have HX3 := Lib.hid (HXz.out.below hb3)
            clear hb3
            clear y0 y1 y3 y4 y5 y6 y7 y8 y9 y10 y11 y12
            have x0 := HX3.out.cell 0
            have x1 := HX3.out.cell 1
            have x3 := HX3.out.cell 3
            have x4 := HX3.out.cell 4
            have x5 := HX3.out.cell 5
            have x6 := HX3.out.cell 6
            have x7 := HX3.out.cell 7
            have x8 := HX3.out.cell 8
            have x9 := HX3.out.cell 9
            have x10 := HX3.out.cell 10
            have x11 := HX3.out.cell 11
            have x12 := HX3.out.cell 12
            simp only [List.getElem?_toArray, List.getElem?_cons_zero, List.getElem?_cons_succ] at x0 x1 x3 x4 x5 x6 x7 x8 x9 x10 x11 x12
            cases hm with
            | true =>
              have HE := Lib.hid (AD3.out rfl)
              go_wp2_with fail
              refine (SB.out _ sn va vc _ true rfl HB3.out (HSk.out.below HB3.out) (LN.out sn true (Nat.le_succ _)).1).mono ?_; rintro e' w7 ⟨p7, q7, rfl, hs7, hb7⟩
              have HB7 := Lib.hid (below_2 HB3.out hb7)
              have HS7 := Lib.hid hs7
              have z12 := (HX3.out.below hb7).cell 12
              simp only [List.getElem?_toArray, List.getElem?_cons_zero, List.getElem?_cons_succ] at z12
              clear hs7 hb7
              clear x0 x1 x3 x4 x5 x6 x7 x8 x9 x10 x11 x12
              go_wp2_with fail
              refine (SE.out _ (spB sn true bd) p7 q7 _ true rfl HB7.out HS7.out (LN.out sn true (Nat.le_succ _)).2.1).mono ?_; rintro e' w8 ⟨p8, q8, rfl, hs8, hb8⟩
              have HB8 := Lib.hid (below_2 HBr.out (below_2 HB7.out hb8))
              have HS8 := Lib.hid hs8
              have HG : Hid (spB (spB (spB sn true bd) true el) _ (l.drop (k + 1)) = R) := NX.out true sn (by simp) HE.out
              have HLn := Lib.hid (LN.out sn true (Nat.le_succ _)).2.2
              clear hs8 hb8 z12
              go_wp2_with fail
              go_roundw
              case rel => exact ⟨k + 1, spB (spB sn true bd) true el, p8, q8, by omega, by go_num, rfl, HG.out, HS8.out, HB8.out, HLn.out⟩
              case measure => simp [intOf]; omega
            | false =>
              have HE := Lib.hid (AD1.out HNe.out rfl)
              have HSw := Lib.hid (HSk.out.below HB3.out)
              go_wp2_with (at_builtin; first
                | (refine wpList_append_strs rfl (.tmp 51) (.tmp 52) rfl w3.heap.size (fun _ => False) none 0 0 [] sn rfl rfl Own1.nil va sn.length vc rfl rfl HSw.out L1.out (Nat.le_refl _) (fun _ h => h.elim) ?_; intro p2 q2 w4 hown2 hgrow2; have HO2 : Hid (Own1 kN w4 w3.heap.size (fun _ => False) (.slice p2 sn.length q2) sn) := hown2; have HB4 := Lib.hid ((Below.refl w3.heap.size w3).grown hgrow2 (Nat.le_refl _) (fun k hk => by cases hk)); have HZ4 := Lib.hid HB4.out.size; have k1 := (HX3.out.below HB4.out).cell 1; simp only [List.getElem?_toArray, List.getElem?_cons_zero, List.getElem?_cons_succ] at k1; rw [Nat.zero_add]; clear hown2 hgrow2)
                | (refine kN.wpList rfl (.tmp 54) (.tmp 57) rfl w3.heap.size (.slice p2 sn.length q2) sn rfl HO2.out.row s0 _ rfl w4.heap.size rfl rfl (by have := HSN.out; omega) HZ4.out ?_; intro g6 cap6 w6 hown6 hgrow6 hlie6; have HO6 := Lib.hid (HO2.out.push (y := s0) (by trivial) (fun k hk => hk.elim) hown6 hgrow6 hlie6); have HB6 := Lib.hid (HO2.out.frame HB4.out HZ4.out hgrow6); have HX6 := Lib.hid (HX3.out.below HB6.out); have j11 := HX6.out.cell 11; have j12 := HX6.out.cell 12; simp only [List.getElem?_toArray, List.getElem?_cons_zero, List.getElem?_cons_succ] at j11 j12; clear hown6 hgrow6 hlie6))
              have HB36 := Lib.hid (below_2 HB3.out HB6.out)
              have HO7 : Hid (StrsAt w6 (some ⟨g6, 0, none⟩) (sn ++ [s0])) := by
                have h7 : Own1 kN w6 w3.heap.size (fun _ => False) (.slice (some ⟨g6, 0, none⟩) (sn ++ [s0]).length cap6) (sn ++ [s0]) := by rw [List.length_append]; exact HO6.out
                exact h7.strs
              clear j11 j12
              refine (SB.out _ (sn ++ [s0]) (some ⟨g6, 0, none⟩) cap6 _ true (by simp) HB36.out HO7.out (LN.out (sn ++ [s0]) true (by simp)).1).mono ?_; rintro e' w7 ⟨p7, q7, rfl, hs7, hb7⟩
              have HB7 := Lib.hid (below_2 HB36.out hb7)
              have HS7 := Lib.hid hs7
              have z12 := (HX6.out.below hb7).cell 12
              simp only [List.getElem?_toArray, List.getElem?_cons_zero, List.getElem?_cons_succ] at z12
              clear hs7 hb7
              clear x0 x1 x3 x4 x5 x6 x7 x8 x9 x10 x11 x12
              go_wp2_with fail
              refine (SE.out _ (spB (sn ++ [s0]) true bd) p7 q7 _ true rfl HB7.out HS7.out (LN.out (sn ++ [s0]) true (by simp)).2.1).mono ?_; rintro e' w8 ⟨p8, q8, rfl, hs8, hb8⟩
              have HB8 := Lib.hid (below_2 HBr.out (below_2 HB7.out hb8))
              have HS8 := Lib.hid hs8
              have HG : Hid (spB (spB (spB (sn ++ [s0]) true bd) true el) _ (l.drop (k + 1)) = R) := NX.out true (sn ++ [s0]) (by simp) HE.out
              have HLn := Lib.hid (LN.out (sn ++ [s0]) true (by simp)).2.2
              clear hs8 hb8 z12
              go_wp2_with fail
              go_roundw
              case rel => exact ⟨k + 1, spB (spB (sn ++ [s0]) true bd) true el, p8, q8, by omega, by go_num, rfl, HG.out, HS8.out, HB8.out, HLn.out⟩
              case measure => simp [intOf]; omega
        | false =>
          go_wp2_with fail
          refine (TA.out _ HBz.out).mono ?_; rintro e' w1 ⟨rfl, hb1⟩
          have HB1 := Lib.hid (below_2 HBz.out hb1)
          have HX1 := Lib.hid (HXz.out.below hb1)
          clear hb1
          clear y0 y1 y3 y4 y5 y6 y7 y8 y9 y10 y11 y12
          have v0 := HX1.out.cell 0
          have v1 := HX1.out.cell 1
          have v3 := HX1.out.cell 3
          have v4 := HX1.out.cell 4
          have v5 := HX1.out.cell 5
          have v6 := HX1.out.cell 6
          have v7 := HX1.out.cell 7
          have v8 := HX1.out.cell 8
          have v9 := HX1.out.cell 9
          have v10 := HX1.out.cell 10
          have v11 := HX1.out.cell 11
          have v12 := HX1.out.cell 12
          simp only [List.getElem?_toArray, List.getElem?_cons_zero, List.getElem?_cons_succ] at v0 v1 v3 v4 v5 v6 v7 v8 v9 v10 v11 v12
          cases ta with
          | true =>
            by_cases hn : s0.size = 0
            · have be : s0.toList.isEmpty = true := by rw [A.empty_of]; exact decide_eq_true hn
              have HE := Lib.hid (AD2.out hn)
              clear hn
              go_wp2_with fail
              refine (SB.out _ sn va vc _ true rfl HB1.out (HSk.out.below HB1.out) (LN.out sn true (Nat.le_succ _)).1).mono ?_; rintro e' w7 ⟨p7, q7, rfl, hs7, hb7⟩
              have HB7 := Lib.hid (below_2 HB1.out hb7)
              have HS7 := Lib.hid hs7
              have z12 := (HX1.out.below hb7).cell 12
              simp only [List.getElem?_toArray, List.getElem?_cons_zero, List.getElem?_cons_succ] at z12
              clear hs7 hb7
              clear v0 v1 v3 v4 v5 v6 v7 v8 v9 v10 v11 v12
              go_wp2_with fail
              refine (SE.out _ (spB sn true bd) p7 q7 _ true rfl HB7.out HS7.out (LN.out sn true (Nat.le_succ _)).2.1).mono ?_; rintro e' w8 ⟨p8, q8, rfl, hs8, hb8⟩
              have HB8 := Lib.hid (below_2 HBr.out (below_2 HB7.out hb8))
              have HS8 := Lib.hid hs8
              have HG : Hid (spB (spB (spB sn true bd) true el) _ (l.drop (k + 1)) = R) := NX.out true sn (by simp) HE.out
              have HLn := Lib.hid (LN.out sn true (Nat.le_succ _)).2.2
              clear hs8 hb8 z12
              go_wp2_with fail
              go_roundw
              case rel => exact ⟨k + 1, spB (spB sn true bd) true el, p8, q8, by omega, by go_num, rfl, HG.out, HS8.out, HB8.out, HLn.out⟩
              case measure => simp [intOf]; omega
            · have be : s0.toList.isEmpty = false := by rw [A.empty_of]; exact decide_eq_false hn
              have HNe := Lib.hid hn
              clear hn
              go_wp2_with fail
              refine (HH.out _ HB1.out).mono ?_; rintro e' w3 ⟨rfl, hb3⟩
              have HB3 := Lib.hid (below_2 HB1.out hb3)
              have HX3 := Lib.hid (HX1.out.below hb3)
              clear hb3
              clear v0 v1 v3 v4 v5 v6 v7 v8 v9 v10 v11 v12
              have x0 := HX3.out.cell 0
              have x1 := HX3.out.cell 1
              have x3 := HX3.out.cell 3
              have x4 := HX3.out.cell 4
              have x5 := HX3.out.cell 5
              have x6 := HX3.out.cell 6
              have x7 := HX3.out.cell 7
              have x8 := HX3.out.cell 8
              have x9 := HX3.out.cell 9
              have x10 := HX3.out.cell 10
              have x11 := HX3.out.cell 11
              have x12 := HX3.out.cell 12
              simp only [List.getElem?_toArray, List.getElem?_cons_zero, List.getElem?_cons_succ] at x0 x1 x3 x4 x5 x6 x7 x8 x9 x10 x11 x12
              cases hm with
              | true =>
                have HE := Lib.hid (AD3.out rfl)
                go_wp2_with fail
                refine (SB.out _ sn va vc _ true rfl HB3.out (HSk.out.below HB3.out) (LN.out sn true (Nat.le_succ _)).1).mono ?_; rintro e' w7 ⟨p7, q7, rfl, hs7, hb7⟩
                have HB7 := Lib.hid (below_2 HB3.out hb7)
                have HS7 := Lib.hid hs7
                have z12 := (HX3.out.below hb7).cell 12
                simp only [List.getElem?_toArray, List.getElem?_cons_zero, List.getElem?_cons_succ] at z12
                clear hs7 hb7
                clear x0 x1 x3 x4 x5 x6 x7 x8 x9 x10 x11 x12
                go_wp2_with fail
                refine (SE.out _ (spB sn true bd) p7 q7 _ true rfl HB7.out HS7.out (LN.out sn true (Nat.le_succ _)).2.1).mono ?_; rintro e' w8 ⟨p8, q8, rfl, hs8, hb8⟩
                have HB8 := Lib.hid (below_2 HBr.out (below_2 HB7.out hb8))
                have HS8 := Lib.hid hs8
                have HG : Hid (spB (spB (spB sn true bd) true el) _ (l.drop (k + 1)) = R) := NX.out true sn (by simp) HE.out
                have HLn := Lib.hid (LN.out sn true (Nat.le_succ _)).2.2
                clear hs8 hb8 z12
                go_wp2_with fail
                go_roundw
                case rel => exact ⟨k + 1, spB (spB sn true bd) true el, p8, q8, by omega, by go_num, rfl, HG.out, HS8.out, HB8.out, HLn.out⟩
                case measure => simp [intOf]; omega
              | false =>
                have HE := Lib.hid (AD1.out HNe.out rfl)
                have HSw := Lib.hid (HSk.out.below HB3.out)
                go_wp2_with (at_builtin; first
                  | (refine wpList_append_strs rfl (.tmp 51) (.tmp 52) rfl w3.heap.size (fun _ => False) none 0 0 [] sn rfl rfl Own1.nil va sn.length vc rfl rfl HSw.out L1.out (Nat.le_refl _) (fun _ h => h.elim) ?_; intro p2 q2 w4 hown2 hgrow2; have HO2 : Hid (Own1 kN w4 w3.heap.size (fun _ => False) (.slice p2 sn.length q2) sn) := hown2; have HB4 := Lib.hid ((Below.refl w3.heap.size w3).grown hgrow2 (Nat.le_refl _) (fun k hk => by cases hk)); have HZ4 := Lib.hid HB4.out.size; have k1 := (HX3.out.below HB4.out).cell 1; simp only [List.getElem?_toArray, List.getElem?_cons_zero, List.getElem?_cons_succ] at k1; rw [Nat.zero_add]; clear hown2 hgrow2)
                  | (refine kN.wpList rfl (.tmp 54) (.tmp 57) rfl w3.heap.size (.slice p2 sn.length q2) sn rfl HO2.out.row s0 _ rfl w4.heap.size rfl rfl (by have := HSN.out; omega) HZ4.out ?_; intro g6 cap6 w6 hown6 hgrow6 hlie6; have HO6 := Lib.hid (HO2.out.push (y := s0) (by trivial) (fun k hk => hk.elim) hown6 hgrow6 hlie6); have HB6 := Lib.hid (HO2.out.frame HB4.out HZ4.out hgrow6); have HX6 := Lib.hid (HX3.out.below HB6.out); have j11 := HX6.out.cell 11; have j12 := HX6.out.cell 12; simp only [List.getElem?_toArray, List.getElem?_cons_zero, List.getElem?_cons_succ] at j11 j12; clear hown6 hgrow6 hlie6))
                have HB36 := Lib.hid (below_2 HB3.out HB6.out)
                have HO7 : Hid (StrsAt w6 (some ⟨g6, 0, none⟩) (sn ++ [s0])) := by
                  have h7 : Own1 kN w6 w3.heap.size (fun _ => False) (.slice (some ⟨g6, 0, none⟩) (sn ++ [s0]).length cap6) (sn ++ [s0]) := by rw [List.length_append]; exact HO6.out
                  exact h7.strs
                clear j11 j12
                refine (SB.out _ (sn ++ [s0]) (some ⟨g6, 0, none⟩) cap6 _ true (by simp) HB36.out HO7.out (LN.out (sn ++ [s0]) true (by simp)).1).mono ?_; rintro e' w7 ⟨p7, q7, rfl, hs7, hb7⟩
                have HB7 := Lib.hid (below_2 HB36.out hb7)
                have HS7 := Lib.hid hs7
                have z12 := (HX6.out.below hb7).cell 12
                simp only [List.getElem?_toArray, List.getElem?_cons_zero, List.getElem?_cons_succ] at z12
                clear hs7 hb7
                clear x0 x1 x3 x4 x5 x6 x7 x8 x9 x10 x11 x12
                go_wp2_with fail
                refine (SE.out _ (spB (sn ++ [s0]) true bd) p7 q7 _ true rfl HB7.out HS7.out (LN.out (sn ++ [s0]) true (by simp)).2.1).mono ?_; rintro e' w8 ⟨p8, q8, rfl, hs8, hb8⟩
                have HB8 := Lib.hid (below_2 HBr.out (below_2 HB7.out hb8))
                have HS8 := Lib.hid hs8
                have HG : Hid (spB (spB (spB (sn ++ [s0]) true bd) true el) _ (l.drop (k + 1)) = R) := NX.out true (sn ++ [s0]) (by simp) HE.out
                have HLn := Lib.hid (LN.out (sn ++ [s0]) true (by simp)).2.2
                clear hs8 hb8 z12
                go_wp2_with fail
                go_roundw
                case rel => exact ⟨k + 1, spB (spB (sn ++ [s0]) true bd) true el, p8, q8, by omega, by go_num, rfl, HG.out, HS8.out, HB8.out, HLn.out⟩
                case measure => simp [intOf]; omega
          | false =>
            go_wp2_with fail
            refine (SB.out _ sn va vc _ false rfl HB1.out (HSk.out.below HB1.out) (LN.out sn false (Nat.le_succ _)).1).mono ?_; rintro e' w7 ⟨p7, q7, rfl, hs7, hb7⟩
            have HB7 := Lib.hid (below_2 HB1.out hb7)
            have HS7 := Lib.hid hs7
            have z12 := (HX1.out.below hb7).cell 12
            simp only [List.getElem?_toArray, List.getElem?_cons_zero, List.getElem?_cons_succ] at z12
            clear hs7 hb7
            clear v0 v1 v3 v4 v5 v6 v7 v8 v9 v10 v11 v12
            go_wp2_with fail
            refine (SE.out _ (spB sn false bd) p7 q7 _ false rfl HB7.out HS7.out (LN.out sn false (Nat.le_succ _)).2.1).mono ?_; rintro e' w8 ⟨p8, q8, rfl, hs8, hb8⟩
            have HB8 := Lib.hid (below_2 HBr.out (below_2 HB7.out hb8))
            have HS8 := Lib.hid hs8
            have HG : Hid (spB (spB (spB sn false bd) false el) _ (l.drop (k + 1)) = R) := NX.out false sn (by simp) AD0.out
            have HLn := Lib.hid (LN.out sn false (Nat.le_succ _)).2.2
            clear hs8 hb8 z12
            go_wp2_with fail
            go_roundw
            case rel => exact ⟨k + 1, spB (spB sn false bd) false el, p8, q8, by omega, by go_num, rfl, HG.out, HS8.out, HB8.out, HLn.out⟩
            case measure => simp [intOf]; omega
    · have hx := HX.out
      rw [List.drop_of_length_le (by have := HL.out; omega), spB] at hx
      have HV : Hid (sn = R) := hx
      clear hx
      go_wp2_with fail
      go_ret
      exact ⟨va, vc, by rw [← HV.out]; rfl, by rw [← HV.out]; exact HSk.out, HBr.out⟩
theorem spread_any : ∀ l, QS l := A.body_ind fun _ h => spread_step h
end Go.Proofs.YtnelpgeiioflmaaGreatDoor.F
namespace Go.Proofs.YtnelpgeiioflmaaGreatDoor.F
open Go.RowKit Go.WideMaps
open L (Str isName prt size_len below_2 below_box ret_bool ret_int eql_eq bytes_eq)
open A (Ex St Pm Pr exV exO exV_mk Bx okE okEs okS okB StKids)
set_option maxHeartbeats 4000000 in
set_option maxRecDepth 100000 in
theorem oindexK_any (f : St → Bool) (b : Nat) (l : List St) (a : Option Addr) (c : Nat) (hl : l.length ≤ 1000000000000000) (w : World) (hK : A.Bodies w a l)
    (hF : ∀ k (h : k < l.length) a1 c1 a2 c2 a3 c3 a4 c4 w', Below w.heap.size w w' → StKids w' l[k] a1 a2 a3 a4 → Calls Tryz.prog 40 #[.map (some b), .agg (stF l[k] a1 c1 a2 c2 a3 c3 a4 c4)] w' fun e' w'' => e' = .returned (.bool (f l[k])) ∧ Below w'.heap.size w' w'') :
    Calls Tryz.prog 61 #[.slice a l.length c, .func (Fn.func 40) #[.map (some b)] #[]] w fun e' w' => e' = .returned (.int .i64 (idxX f l 0)) ∧ Below w.heap.size w w' := by
  have HK := Lib.hid hK
  have HF := Lib.hid hF
  obtain ⟨R, hR⟩ : ∃ R, idxX f l 0 = R := ⟨_, rfl⟩
  rw [hR]
  have HR : Hid (idxX f (l.drop 0) 0 = R) := hR
  obtain ⟨m, hm⟩ : ∃ m, l.length = m := ⟨_, rfl⟩
  have HL := Lib.hid hm
  rw [hm] at hl ⊢
  clear hm hR hK hF
  go_enter Tryz.func61, Tryz.ntmps61
  go_wp2_with fail
  go_loopw [8] (fun s8 wr => ∃ k : Nat, k ≤ m ∧ s8 = .int .i64 k ∧ Hid (idxX f (l.drop k) k = R) ∧ Hid (Below w.heap.size w wr)) (fun s8 _ => m - (intOf s8).toNat)
  case atStart => exact ⟨0, Nat.zero_le _, rfl, HR, Below.refl _ _⟩
  case round =>
    obtain ⟨k, hk, rfl, HX2, HB⟩ := hrel
    by_cases hlt : k < m
    · have hlx : k < l.length := by rw [HL.out]; exact hlt
      have hx := HX2.out
      rw [List.drop_eq_getElem_cons hlx, idxX] at hx
      obtain ⟨b2, i2, rfl, hat⟩ := (HK.out.below HB.out).open hlx
      obtain ⟨a1, c1, a2, c2, a3, c3, a4, c4, hcc, hkk⟩ := hat.open
      have HC := Lib.hid (HF.out k hlx a1 c1 a2 c2 a3 c3 a4 c4 wr HB.out hkk)
      have f0 := hcc.k0
      have f1 := hcc.k1
      have f2 := hcc.k2
      have f3 := hcc.k3
      have f4 := hcc.k4
      have f5 := hcc.k5
      have f6 := hcc.k6
      have f7 := hcc.k7
      have f8 := hcc.k8
      have f9 := hcc.k9
      have f10 := hcc.k10
      have f11 := hcc.k11
      have f12 := hcc.k12
      clear hat hcc hkk
      unfold stF at HC
      generalize f l[k] = y at *
      generalize (l[k]).a.args.length = n1 at *
      generalize (l[k]).b.args.length = n2 at *
      generalize (l[k]).a.op = o1 at *
      generalize (l[k]).a.n = m1 at *
      generalize (l[k]).a.s = s1 at *
      generalize (l[k]).b.op = o2 at *
      generalize (l[k]).b.n = m2 at *
      generalize (l[k]).b.s = s2 at *
      generalize (l[k]).body.length = n3 at *
      generalize (l[k]).els.length = n4 at *
      generalize (l[k]).op = o0 at *
      generalize (l[k]).name = s0 at *
      generalize (l[k]).mx = m0 at *
      cases y
      · rw [if_neg (by decide)] at hx
        have HN := Lib.hid hx
        clear hx
        go_wp2_with fail
        refine HC.out.mono ?_; rintro e w2 ⟨rfl, hb2⟩
        have HB2 := Lib.hid (below_2 HB.out hb2)
        clear hb2
        go_wp2_with fail
        go_roundw
        case rel => exact ⟨k + 1, by omega, by go_num, HN, HB2⟩
        case measure => simp [intOf]; omega
      · rw [if_pos rfl] at hx
        have HV := Lib.hid hx
        clear hx
        go_wp2_with fail
        refine HC.out.mono ?_; rintro e w2 ⟨rfl, hb2⟩
        have HB2 := Lib.hid (below_2 HB.out hb2)
        clear hb2
        go_wp2_with fail
        go_ret
        exact ⟨ret_int HV.out, HB2.out⟩
    · have HV : Hid (-1 = R) := by
        show _ = _
        rw [← HX2.out, List.drop_of_length_le (by rw [HL.out]; omega), idxX]
      go_wp2_with fail
      go_ret
      exact ⟨ret_int HV.out, HB.out⟩
set_option maxHeartbeats 2000000 in
set_option maxRecDepth 100000 in
theorem ocontainsK_any (f : St → Bool) (b : Nat) (l : List St) (a : Option Addr) (c : Nat) (hl : l.length ≤ 1000000000000000) (w : World) (hK : A.Bodies w a l)
    (hF : ∀ k (h : k < l.length) a1 c1 a2 c2 a3 c3 a4 c4 w', Below w.heap.size w w' → StKids w' l[k] a1 a2 a3 a4 → Calls Tryz.prog 40 #[.map (some b), .agg (stF l[k] a1 c1 a2 c2 a3 c3 a4 c4)] w' fun e' w'' => e' = .returned (.bool (f l[k])) ∧ Below w'.heap.size w' w'') :
    Calls Tryz.prog 39 #[.slice a l.length c, .func (Fn.func 40) #[.map (some b)] #[]] w fun e' w' => e' = .returned (.bool (l.any f)) ∧ Below w.heap.size w w' := by
  have HC := Lib.hid (oindexK_any f b l a c hl w hK hF)
  have hv := idxX_any f l 0
  generalize idxX f l 0 = r at HC hv
  generalize l.any f = y at hv ⊢
  generalize l.length = m at HC ⊢
  clear hl hK hF
  go_enter Tryz.func39, Tryz.ntmps39
  go_wp2_with fail
  refine HC.out.mono ?_; rintro e w2 ⟨rfl, hb2⟩
  have HB2 := Lib.hid hb2
  clear hb2
  go_wp2_with fail
  go_ret
  exact ⟨rfl, HB2.out⟩
set_option maxHeartbeats 4000000 in
set_option maxRecDepth 100000 in
theorem oindexB_any (f : St → Bool) (b : Nat) (l : List St) (a : Option Addr) (c : Nat) (hl : l.length ≤ 1000000000000000) (w : World) (hK : A.Bodies w a l)
    (hF : ∀ k (h : k < l.length) a1 c1 a2 c2 a3 c3 a4 c4 w', Below w.heap.size w w' → StKids w' l[k] a1 a2 a3 a4 → Calls Tryz.prog 42 #[.map (some b), .agg (stF l[k] a1 c1 a2 c2 a3 c3 a4 c4)] w' fun e' w'' => e' = .returned (.bool (f l[k])) ∧ Below w'.heap.size w' w'') :
    Calls Tryz.prog 61 #[.slice a l.length c, .func (Fn.func 42) #[.map (some b)] #[]] w fun e' w' => e' = .returned (.int .i64 (idxX f l 0)) ∧ Below w.heap.size w w' := by
  have HK := Lib.hid hK
  have HF := Lib.hid hF
  obtain ⟨R, hR⟩ : ∃ R, idxX f l 0 = R := ⟨_, rfl⟩
  rw [hR]
  have HR : Hid (idxX f (l.drop 0) 0 = R) := hR
  obtain ⟨m, hm⟩ : ∃ m, l.length = m := ⟨_, rfl⟩
  have HL := Lib.hid hm
  rw [hm] at hl ⊢
  clear hm hR hK hF
  go_enter Tryz.func61, Tryz.ntmps61
  go_wp2_with fail
  go_loopw [8] (fun s8 wr => ∃ k : Nat, k ≤ m ∧ s8 = .int .i64 k ∧ Hid (idxX f (l.drop k) k = R) ∧ Hid (Below w.heap.size w wr)) (fun s8 _ => m - (intOf s8).toNat)
  case atStart => exact ⟨0, Nat.zero_le _, rfl, HR, Below.refl _ _⟩
  case round =>
    obtain ⟨k, hk, rfl, HX2, HB⟩ := hrel
    by_cases hlt : k < m
    · have hlx : k < l.length := by rw [HL.out]; exact hlt
      have hx := HX2.out
      rw [List.drop_eq_getElem_cons hlx, idxX] at hx
      obtain ⟨b2, i2, rfl, hat⟩ := (HK.out.below HB.out).open hlx
      obtain ⟨a1, c1, a2, c2, a3, c3, a4, c4, hcc, hkk⟩ := hat.open
      have HC := Lib.hid (HF.out k hlx a1 c1 a2 c2 a3 c3 a4 c4 wr HB.out hkk)
      have f0 := hcc.k0
      have f1 := hcc.k1
      have f2 := hcc.k2
      have f3 := hcc.k3
      have f4 := hcc.k4
      have f5 := hcc.k5
      have f6 := hcc.k6
      have f7 := hcc.k7
      have f8 := hcc.k8
      have f9 := hcc.k9
      have f10 := hcc.k10
      have f11 := hcc.k11
      have f12 := hcc.k12
      clear hat hcc hkk
      unfold stF at HC
      generalize f l[k] = y at *
      generalize (l[k]).a.args.length = n1 at *
      generalize (l[k]).b.args.length = n2 at *
      generalize (l[k]).a.op = o1 at *
      generalize (l[k]).a.n = m1 at *
      generalize (l[k]).a.s = s1 at *
      generalize (l[k]).b.op = o2 at *
      generalize (l[k]).b.n = m2 at *
      generalize (l[k]).b.s = s2 at *
      generalize (l[k]).body.length = n3 at *
      generalize (l[k]).els.length = n4 at *
      generalize (l[k]).op = o0 at *
      generalize (l[k]).name = s0 at *
      generalize (l[k]).mx = m0 at *
      cases y
      · rw [if_neg (by decide)] at hx
        have HN := Lib.hid hx
        clear hx
        go_wp2_with fail
        refine HC.out.mono ?_; rintro e w2 ⟨rfl, hb2⟩
        have HB2 := Lib.hid (below_2 HB.out hb2)
        clear hb2
        go_wp2_with fail
        go_roundw
        case rel => exact ⟨k + 1, by omega, by go_num, HN, HB2⟩
        case measure => simp [intOf]; omega
      · rw [if_pos rfl] at hx
        have HV := Lib.hid hx
        clear hx
        go_wp2_with fail
        refine HC.out.mono ?_; rintro e w2 ⟨rfl, hb2⟩
        have HB2 := Lib.hid (below_2 HB.out hb2)
        clear hb2
        go_wp2_with fail
        go_ret
        exact ⟨ret_int HV.out, HB2.out⟩
    · have HV : Hid (-1 = R) := by
        show _ = _
        rw [← HX2.out, List.drop_of_length_le (by rw [HL.out]; omega), idxX]
      go_wp2_with fail
      go_ret
      exact ⟨ret_int HV.out, HB.out⟩
set_option maxHeartbeats 2000000 in
set_option maxRecDepth 100000 in
theorem ocontainsB_any (f : St → Bool) (b : Nat) (l : List St) (a : Option Addr) (c : Nat) (hl : l.length ≤ 1000000000000000) (w : World) (hK : A.Bodies w a l)
    (hF : ∀ k (h : k < l.length) a1 c1 a2 c2 a3 c3 a4 c4 w', Below w.heap.size w w' → StKids w' l[k] a1 a2 a3 a4 → Calls Tryz.prog 42 #[.map (some b), .agg (stF l[k] a1 c1 a2 c2 a3 c3 a4 c4)] w' fun e' w'' => e' = .returned (.bool (f l[k])) ∧ Below w'.heap.size w' w'') :
    Calls Tryz.prog 39 #[.slice a l.length c, .func (Fn.func 42) #[.map (some b)] #[]] w fun e' w' => e' = .returned (.bool (l.any f)) ∧ Below w.heap.size w w' := by
  have HC := Lib.hid (oindexB_any f b l a c hl w hK hF)
  have hv := idxX_any f l 0
  generalize idxX f l 0 = r at HC hv
  generalize l.any f = y at hv ⊢
  generalize l.length = m at HC ⊢
  clear hl hK hF
  go_enter Tryz.func39, Tryz.ntmps39
  go_wp2_with fail
  refine HC.out.mono ?_; rintro e w2 ⟨rfl, hb2⟩
  have HB2 := Lib.hid hb2
  clear hb2
  go_wp2_with fail
  go_ret
  exact ⟨rfl, HB2.out⟩
end Go.Proofs.YtnelpgeiioflmaaGreatDoor.F
namespace Go.Proofs.YtnelpgeiioflmaaGreatDoor.F
open Go.RowKit Go.WideMaps
open L (Str isName prt size_len below_2 below_box ret_bool ret_int eql_eq bytes_eq)
open A (Ex St Pm Pr exV exO exV_mk Bx okE okEs okS okB StKids)
theorem bB_is (T : ByteArray → Bool) : ∀ l : List St, bB T l = l.any (bS T)
  | [] => by rw [bB]; rfl
  | s :: r => by rw [bB, List.any_cons, bB_is T r]
def QB (b N n : Nat) (g : ByteArray → Bool) (l : List St) : Prop := ∀ (a : Option Addr) (c : Nat) (w : World), okB l → l.length ≤ 1000000000000000 → MU w b N n g → A.Bodies w a l →
  Calls Tryz.prog 39 #[.slice a l.length c, .func (Fn.func 42) #[.map (some b)] #[]] w fun e' w' => e' = .returned (.bool (bB (nt g) l)) ∧ Below w.heap.size w w'
set_option maxHeartbeats 16000000 in
set_option maxRecDepth 100000 in
theorem oB_one {b N n : Nat} {g : ByteArray → Bool} (s : St) (hqb : QB b N n g s.body) (hqe : QB b N n g s.els) (a1 : Option Addr) (c1 : Nat) (a2 : Option Addr) (c2 : Nat) (a3 : Option Addr) (c3 : Nat) (a4 : Option Addr) (c4 : Nat) (w : World) (hok : okS s) (hM : MU w b N n g) (hK : StKids w s a1 a2 a3 a4) :
    Calls Tryz.prog 42 #[.map (some b), .agg (stF s a1 c1 a2 c2 a3 c3 a4 c4)] w fun e' w' => e' = .returned (.bool (bS (nt g) s)) ∧ Below w.heap.size w w' := by
  have hoks := A.okS_open hok
  have hb := below_box w (A.stO s a1 c1 a2 c2 a3 c3 a4 c4)
  have hbx := Bx.new w (stF s a1 c1 a2 c2 a3 c3 a4 c4) 44
  have HW := Lib.hid hb
  have TA : Hid (∀ wk, Below (w.alloc (A.stO s a1 c1 a2 c2 a3 c3 a4 c4)).heap.size (w.alloc (A.stO s a1 c1 a2 c2 a3 c3 a4 c4)) wk → Calls Tryz.prog 62 #[.map (some b), exV s.a a1 c1] wk fun e' w' => e' = .returned (.bool (tE (nt g) s.a)) ∧ Below wk.heap.size wk w') := fun wk h =>
    otainted_any s.a a1 c1 wk hoks.a ((hM.below hb).below h) ((hK.a.below hb).below h)
  have TB : Hid (∀ wk, Below (w.alloc (A.stO s a1 c1 a2 c2 a3 c3 a4 c4)).heap.size (w.alloc (A.stO s a1 c1 a2 c2 a3 c3 a4 c4)) wk → Calls Tryz.prog 62 #[.map (some b), exV s.b a2 c2] wk fun e' w' => e' = .returned (.bool (tE (nt g) s.b)) ∧ Below wk.heap.size wk w') := fun wk h =>
    otainted_any s.b a2 c2 wk hoks.b ((hM.below hb).below h) ((hK.b.below hb).below h)
  have KB : Hid (∀ wk, Below (w.alloc (A.stO s a1 c1 a2 c2 a3 c3 a4 c4)).heap.size (w.alloc (A.stO s a1 c1 a2 c2 a3 c3 a4 c4)) wk → Calls Tryz.prog 39 #[.slice a3 s.body.length c3, .func (Fn.func 42) #[.map (some b)] #[]] wk fun e' w' => e' = .returned (.bool (bB (nt g) s.body)) ∧ Below wk.heap.size wk w') := fun wk h =>
    hqb a3 c3 wk hoks.body hoks.bodyLen ((hM.below hb).below h) ((hK.body.below hb).below h)
  have KE : Hid (∀ wk, Below (w.alloc (A.stO s a1 c1 a2 c2 a3 c3 a4 c4)).heap.size (w.alloc (A.stO s a1 c1 a2 c2 a3 c3 a4 c4)) wk → Calls Tryz.prog 39 #[.slice a4 s.els.length c4, .func (Fn.func 42) #[.map (some b)] #[]] wk fun e' w' => e' = .returned (.bool (bB (nt g) s.els)) ∧ Below wk.heap.size wk w') := fun wk h =>
    hqe a4 c4 wk hoks.els hoks.elsLen ((hM.below hb).below h) ((hK.els.below hb).below h)
  have hop : bS (nt g) s = (((decide (s.op = 5) || decide (s.op = 6)) && (tE (nt g) s.a || tE (nt g) s.b)) || bB (nt g) s.body || bB (nt g) s.els) := by
    obtain ⟨o, nm, mx, a, b', bd, el⟩ := s
    rw [bS]; rfl
  rw [hop]
  have HX := Lib.hid hbx
  have HB0 : Hid (Below (w.alloc (A.stO s a1 c1 a2 c2 a3 c3 a4 c4)).heap.size (w.alloc (A.stO s a1 c1 a2 c2 a3 c3 a4 c4)) (w.alloc (A.stO s a1 c1 a2 c2 a3 c3 a4 c4))) := Below.refl _ _
  clear hop hok hM hK hqb hqe hoks hb hbx
  unfold A.stO at *
  unfold stF at *
  unfold exV at *
  generalize tE (nt g) s.a = ta at *
  generalize tE (nt g) s.b = tb at *
  generalize bB (nt g) s.body = kb at *
  generalize bB (nt g) s.els = ke at *
  generalize s.a.args.length = n1 at *
  generalize s.b.args.length = n2 at *
  generalize s.a.op = p1 at *
  generalize s.a.n = m1 at *
  generalize s.a.s = s1 at *
  generalize s.b.op = p2 at *
  generalize s.b.n = m2 at *
  generalize s.b.s = s2 at *
  generalize s.body.length = n3 at *
  generalize s.els.length = n4 at *
  generalize s.op = o0 at *
  generalize s.name = s0 at *
  generalize s.mx = m0 at *
  have y0 := HX.out.cell 0
  have y3 := HX.out.cell 3
  have y4 := HX.out.cell 4
  have y5 := HX.out.cell 5
  have y6 := HX.out.cell 6
  have y7 := HX.out.cell 7
  have y8 := HX.out.cell 8
  have y9 := HX.out.cell 9
  have y10 := HX.out.cell 10
  have y11 := HX.out.cell 11
  have y12 := HX.out.cell 12
  simp only [List.getElem?_toArray, List.getElem?_cons_zero, List.getElem?_cons_succ] at y0 y3 y4 y5 y6 y7 y8 y9 y10 y11 y12
  by_cases h1 : o0 = 5
  · subst h1
    go_enter Tryz.func42, Tryz.ntmps42
    go_wp2_with fail
    refine (TA.out _ HB0.out).mono ?_; rintro e' w15 ⟨rfl, hb15⟩
    have HB15 := Lib.hid (below_2 HB0.out hb15)
    have HX15 := Lib.hid (HX.out.below hb15)
    clear hb15 y0 y3 y4 y5 y6 y7 y8 y9 y10 y11 y12
    have q15_0 := HX15.out.cell 0
    have q15_3 := HX15.out.cell 3
    have q15_4 := HX15.out.cell 4
    have q15_5 := HX15.out.cell 5
    have q15_6 := HX15.out.cell 6
    have q15_7 := HX15.out.cell 7
    have q15_8 := HX15.out.cell 8
    have q15_9 := HX15.out.cell 9
    have q15_10 := HX15.out.cell 10
    have q15_11 := HX15.out.cell 11
    have q15_12 := HX15.out.cell 12
    simp only [List.getElem?_toArray, List.getElem?_cons_zero, List.getElem?_cons_succ] at q15_0 q15_3 q15_4 q15_5 q15_6 q15_7 q15_8 q15_9 q15_10 q15_11 q15_12
    cases ta with
    | true =>
      go_wp2_with fail
      go_ret
      exact ⟨ret_bool (by simp), (below_2 HW.out HB15.out)⟩
    | false =>
      go_wp2_with fail
      refine (TB.out _ HB15.out).mono ?_; rintro e' w16 ⟨rfl, hb16⟩
      have HB16 := Lib.hid (below_2 HB15.out hb16)
      have HX16 := Lib.hid (HX15.out.below hb16)
      clear hb16 q15_0 q15_3 q15_4 q15_5 q15_6 q15_7 q15_8 q15_9 q15_10 q15_11 q15_12
      have q16_0 := HX16.out.cell 0
      have q16_3 := HX16.out.cell 3
      have q16_4 := HX16.out.cell 4
      have q16_5 := HX16.out.cell 5
      have q16_6 := HX16.out.cell 6
      have q16_7 := HX16.out.cell 7
      have q16_8 := HX16.out.cell 8
      have q16_9 := HX16.out.cell 9
      have q16_10 := HX16.out.cell 10
      have q16_11 := HX16.out.cell 11
      have q16_12 := HX16.out.cell 12
      simp only [List.getElem?_toArray, List.getElem?_cons_zero, List.getElem?_cons_succ] at q16_0 q16_3 q16_4 q16_5 q16_6 q16_7 q16_8 q16_9 q16_10 q16_11 q16_12
      cases tb with
      | true =>
        go_wp2_with fail
        go_ret
        exact ⟨ret_bool (by simp), (below_2 HW.out HB16.out)⟩
      | false =>
        go_wp2_with fail
        refine (KB.out _ HB16.out).mono ?_; rintro e' w17 ⟨rfl, hb17⟩
        have HB17 := Lib.hid (below_2 HB16.out hb17)
        have HX17 := Lib.hid (HX16.out.below hb17)
        clear hb17 q16_0 q16_3 q16_4 q16_5 q16_6 q16_7 q16_8 q16_9 q16_10 q16_11 q16_12
        have q17_0 := HX17.out.cell 0
        have q17_3 := HX17.out.cell 3
        have q17_4 := HX17.out.cell 4
        have q17_5 := HX17.out.cell 5
        have q17_6 := HX17.out.cell 6
        have q17_7 := HX17.out.cell 7
        have q17_8 := HX17.out.cell 8
        have q17_9 := HX17.out.cell 9
        have q17_10 := HX17.out.cell 10
        have q17_11 := HX17.out.cell 11
        have q17_12 := HX17.out.cell 12
        simp only [List.getElem?_toArray, List.getElem?_cons_zero, List.getElem?_cons_succ] at q17_0 q17_3 q17_4 q17_5 q17_6 q17_7 q17_8 q17_9 q17_10 q17_11 q17_12
        cases kb with
        | true =>
          go_wp2_with fail
          go_ret
          exact ⟨ret_bool (by simp), (below_2 HW.out HB17.out)⟩
        | false =>
          go_wp2_with fail
          refine (KE.out _ HB17.out).mono ?_; rintro e' w18 ⟨rfl, hb18⟩
          have HB18 := Lib.hid (below_2 HB17.out hb18)
          clear hb18
          go_wp2_with fail
          go_ret
          exact ⟨ret_bool (by simp), (below_2 HW.out HB18.out)⟩
  · have b1 : (o0 == 5) = false := beq_eq_false_iff_ne.2 h1
    by_cases h2 : o0 = 6
    · subst h2
      go_enter Tryz.func42, Tryz.ntmps42
      go_wp2_with fail
      refine (TA.out _ HB0.out).mono ?_; rintro e' w19 ⟨rfl, hb19⟩
      have HB19 := Lib.hid (below_2 HB0.out hb19)
      have HX19 := Lib.hid (HX.out.below hb19)
      clear hb19 y0 y3 y4 y5 y6 y7 y8 y9 y10 y11 y12
      have q19_0 := HX19.out.cell 0
      have q19_3 := HX19.out.cell 3
      have q19_4 := HX19.out.cell 4
      have q19_5 := HX19.out.cell 5
      have q19_6 := HX19.out.cell 6
      have q19_7 := HX19.out.cell 7
      have q19_8 := HX19.out.cell 8
      have q19_9 := HX19.out.cell 9
      have q19_10 := HX19.out.cell 10
      have q19_11 := HX19.out.cell 11
      have q19_12 := HX19.out.cell 12
      simp only [List.getElem?_toArray, List.getElem?_cons_zero, List.getElem?_cons_succ] at q19_0 q19_3 q19_4 q19_5 q19_6 q19_7 q19_8 q19_9 q19_10 q19_11 q19_12
      cases ta with
      | true =>
        go_wp2_with fail
        go_ret
        exact ⟨ret_bool (by simp), (below_2 HW.out HB19.out)⟩
      | false =>
        go_wp2_with fail
        refine (TB.out _ HB19.out).mono ?_; rintro e' w20 ⟨rfl, hb20⟩
        have HB20 := Lib.hid (below_2 HB19.out hb20)
        have HX20 := Lib.hid (HX19.out.below hb20)
        clear hb20 q19_0 q19_3 q19_4 q19_5 q19_6 q19_7 q19_8 q19_9 q19_10 q19_11 q19_12
        have q20_0 := HX20.out.cell 0
        have q20_3 := HX20.out.cell 3
        have q20_4 := HX20.out.cell 4
        have q20_5 := HX20.out.cell 5
        have q20_6 := HX20.out.cell 6
        have q20_7 := HX20.out.cell 7
        have q20_8 := HX20.out.cell 8
        have q20_9 := HX20.out.cell 9
        have q20_10 := HX20.out.cell 10
        have q20_11 := HX20.out.cell 11
        have q20_12 := HX20.out.cell 12
        simp only [List.getElem?_toArray, List.getElem?_cons_zero, List.getElem?_cons_succ] at q20_0 q20_3 q20_4 q20_5 q20_6 q20_7 q20_8 q20_9 q20_10 q20_11 q20_12
        cases tb with
        | true =>
          go_wp2_with fail
          go_ret
          exact ⟨ret_bool (by simp), (below_2 HW.out HB20.out)⟩
        | false =>
          go_wp2_with fail
          refine (KB.out _ HB20.out).mono ?_; rintro e' w21 ⟨rfl, hb21⟩
          have HB21 := Lib.hid (below_2 HB20.out hb21)
          have HX21 := Lib.hid (HX20.out.below hb21)
          clear hb21 q20_0 q20_3 q20_4 q20_5 q20_6 q20_7 q20_8 q20_9 q20_10 q20_11 q20_12
          have q21_0 := HX21.out.cell 0
          have q21_3 := HX21.out.cell 3
          have q21_4 := HX21.out.cell 4
          have q21_5 := HX21.out.cell 5
          have q21_6 := HX21.out.cell 6
          have q21_7 := HX21.out.cell 7
          have q21_8 := HX21.out.cell 8
          have q21_9 := HX21.out.cell 9
          have q21_10 := HX21.out.cell 10
          have q21_11 := HX21.out.cell 11
          have q21_12 := HX21.out.cell 12
          simp only [List.getElem?_toArray, List.getElem?_cons_zero, List.getElem?_cons_succ] at q21_0 q21_3 q21_4 q21_5 q21_6 q21_7 q21_8 q21_9 q21_10 q21_11 q21_12
          cases kb with
          | true =>
            go_wp2_with fail
            go_ret
            exact ⟨ret_bool (by simp), (below_2 HW.out HB21.out)⟩
          | false =>
            go_wp2_with fail
            refine (KE.out _ HB21.out).mono ?_; rintro e' w22 ⟨rfl, hb22⟩
            have HB22 := Lib.hid (below_2 HB21.out hb22)
            clear hb22
            go_wp2_with fail
            go_ret
            exact ⟨ret_bool (by simp), (below_2 HW.out HB22.out)⟩
    · have b2 : (o0 == 6) = false := beq_eq_false_iff_ne.2 h2
      have d1 : decide (o0 = 5) = false := decide_eq_false h1
      have d2 : decide (o0 = 6) = false := decide_eq_false h2
      rw [d1, d2]
      clear h1 h2 d1 d2
      go_enter Tryz.func42, Tryz.ntmps42
      go_wp2_with fail
      refine (KB.out _ HB0.out).mono ?_; rintro e' w23 ⟨rfl, hb23⟩
      have HB23 := Lib.hid (below_2 HB0.out hb23)
      have HX23 := Lib.hid (HX.out.below hb23)
      clear hb23 y0 y3 y4 y5 y6 y7 y8 y9 y10 y11 y12
      have q23_0 := HX23.out.cell 0
      have q23_3 := HX23.out.cell 3
      have q23_4 := HX23.out.cell 4
      have q23_5 := HX23.out.cell 5
      have q23_6 := HX23.out.cell 6
      have q23_7 := HX23.out.cell 7
      have q23_8 := HX23.out.cell 8
      have q23_9 := HX23.out.cell 9
      have q23_10 := HX23.out.cell 10
      have q23_11 := HX23.out.cell 11
      have q23_12 := HX23.out.cell 12
      simp only [List.getElem?_toArray, List.getElem?_cons_zero, List.getElem?_cons_succ] at q23_0 q23_3 q23_4 q23_5 q23_6 q23_7 q23_8 q23_9 q23_10 q23_11 q23_12
      cases kb with
      | true =>
        go_wp2_with fail
        go_ret
        exact ⟨ret_bool (by simp), (below_2 HW.out HB23.out)⟩
      | false =>
        go_wp2_with fail
        refine (KE.out _ HB23.out).mono ?_; rintro e' w24 ⟨rfl, hb24⟩
        have HB24 := Lib.hid (below_2 HB23.out hb24)
        clear hb24
        go_wp2_with fail
        go_ret
        exact ⟨ret_bool (by simp), (below_2 HW.out HB24.out)⟩
theorem oB_any {b N n : Nat} {g : ByteArray → Bool} : ∀ l : List St, QB b N n g l := by
  refine A.body_ind (Q := fun l => QB b N n g l) fun l ih => ?_
  intro a c w hok hl hM hK
  have := ocontainsB_any (bS (nt g)) b l a c hl w hK fun k h a1 c1 a2 c2 a3 c3 a4 c4 w' hb hk =>
    oB_one l[k] (ih k h).1 (ih k h).2 a1 c1 a2 c2 a3 c3 a4 c4 w' (hok.get k h) (hM.below hb) hk
  rw [bB_is]
  exact this
end Go.Proofs.YtnelpgeiioflmaaGreatDoor.F
namespace Go.Proofs.YtnelpgeiioflmaaGreatDoor.F
open Go.RowKit Go.WideMaps
open L (Str isName prt size_len below_2 below_box ret_bool ret_int eql_eq bytes_eq)
open A (Ex St Pm Pr exV exO exV_mk Bx okE okEs okS okB StKids)
theorem kB_is (T : ByteArray → Bool) : ∀ l : List St, kB T l = l.any (kS T)
  | [] => by rw [kB]; rfl
  | s :: r => by rw [kB, List.any_cons, kB_is T r]
def QK (b N n : Nat) (g : ByteArray → Bool) (l : List St) : Prop := ∀ (a : Option Addr) (c : Nat) (w : World), okB l → l.length ≤ 1000000000000000 → MU w b N n g → A.Bodies w a l →
  Calls Tryz.prog 39 #[.slice a l.length c, .func (Fn.func 40) #[.map (some b)] #[]] w fun e' w' => e' = .returned (.bool (kB (nt g) l)) ∧ Below w.heap.size w w'
set_option maxHeartbeats 16000000 in
set_option maxRecDepth 100000 in
theorem oK_one {b N n : Nat} {g : ByteArray → Bool} (s : St) (hqb : QK b N n g s.body) (hqe : QK b N n g s.els) (a1 : Option Addr) (c1 : Nat) (a2 : Option Addr) (c2 : Nat) (a3 : Option Addr) (c3 : Nat) (a4 : Option Addr) (c4 : Nat) (w : World) (hok : okS s) (hM : MU w b N n g) (hK : StKids w s a1 a2 a3 a4) :
    Calls Tryz.prog 40 #[.map (some b), .agg (stF s a1 c1 a2 c2 a3 c3 a4 c4)] w fun e' w' => e' = .returned (.bool (kS (nt g) s)) ∧ Below w.heap.size w w' := by
  have hoks := A.okS_open hok
  have hb := below_box w (A.stO s a1 c1 a2 c2 a3 c3 a4 c4)
  have hbx := Bx.new w (stF s a1 c1 a2 c2 a3 c3 a4 c4) 44
  have HW := Lib.hid hb
  have TA : Hid (∀ wk, Below (w.alloc (A.stO s a1 c1 a2 c2 a3 c3 a4 c4)).heap.size (w.alloc (A.stO s a1 c1 a2 c2 a3 c3 a4 c4)) wk → Calls Tryz.prog 62 #[.map (some b), exV s.a a1 c1] wk fun e' w' => e' = .returned (.bool (tE (nt g) s.a)) ∧ Below wk.heap.size wk w') := fun wk h =>
    otainted_any s.a a1 c1 wk hoks.a ((hM.below hb).below h) ((hK.a.below hb).below h)
  have RA : Hid (∀ wk, Below (w.alloc (A.stO s a1 c1 a2 c2 a3 c3 a4 c4)).heap.size (w.alloc (A.stO s a1 c1 a2 c2 a3 c3 a4 c4)) wk → Calls Tryz.prog 63 #[.map (some b), exV s.a a1 c1] wk fun e' w' => e' = .returned (.bool (rE (nt g) s.a)) ∧ Below wk.heap.size wk w') := fun wk h =>
    oreads_any s.a a1 c1 wk hoks.a ((hM.below hb).below h) ((hK.a.below hb).below h)
  have RB : Hid (∀ wk, Below (w.alloc (A.stO s a1 c1 a2 c2 a3 c3 a4 c4)).heap.size (w.alloc (A.stO s a1 c1 a2 c2 a3 c3 a4 c4)) wk → Calls Tryz.prog 63 #[.map (some b), exV s.b a2 c2] wk fun e' w' => e' = .returned (.bool (rE (nt g) s.b)) ∧ Below wk.heap.size wk w') := fun wk h =>
    oreads_any s.b a2 c2 wk hoks.b ((hM.below hb).below h) ((hK.b.below hb).below h)
  have KB : Hid (∀ wk, Below (w.alloc (A.stO s a1 c1 a2 c2 a3 c3 a4 c4)).heap.size (w.alloc (A.stO s a1 c1 a2 c2 a3 c3 a4 c4)) wk → Calls Tryz.prog 39 #[.slice a3 s.body.length c3, .func (Fn.func 40) #[.map (some b)] #[]] wk fun e' w' => e' = .returned (.bool (kB (nt g) s.body)) ∧ Below wk.heap.size wk w') := fun wk h =>
    hqb a3 c3 wk hoks.body hoks.bodyLen ((hM.below hb).below h) ((hK.body.below hb).below h)
  have KE : Hid (∀ wk, Below (w.alloc (A.stO s a1 c1 a2 c2 a3 c3 a4 c4)).heap.size (w.alloc (A.stO s a1 c1 a2 c2 a3 c3 a4 c4)) wk → Calls Tryz.prog 39 #[.slice a4 s.els.length c4, .func (Fn.func 40) #[.map (some b)] #[]] wk fun e' w' => e' = .returned (.bool (kB (nt g) s.els)) ∧ Below wk.heap.size wk w') := fun wk h =>
    hqe a4 c4 wk hoks.els hoks.elsLen ((hM.below hb).below h) ((hK.els.below hb).below h)
  have hop : kS (nt g) s = (((decide (s.op = 3) || decide (s.op = 4)) && tE (nt g) s.a) || rE (nt g) s.a || rE (nt g) s.b || kB (nt g) s.body || kB (nt g) s.els) := by
    obtain ⟨o, nm, mx, a, b', bd, el⟩ := s
    rw [kS]; rfl
  rw [hop]
  have HX := Lib.hid hbx
  have HB0 : Hid (Below (w.alloc (A.stO s a1 c1 a2 c2 a3 c3 a4 c4)).heap.size (w.alloc (A.stO s a1 c1 a2 c2 a3 c3 a4 c4)) (w.alloc (A.stO s a1 c1 a2 c2 a3 c3 a4 c4))) := Below.refl _ _
  clear hop hok hM hK hqb hqe hoks hb hbx
  unfold A.stO at *
  unfold stF at *
  unfold exV at *
  generalize tE (nt g) s.a = ta at *
  generalize rE (nt g) s.a = ra at *
  generalize rE (nt g) s.b = rb at *
  generalize kB (nt g) s.body = kb at *
  generalize kB (nt g) s.els = ke at *
  generalize s.a.args.length = n1 at *
  generalize s.b.args.length = n2 at *
  generalize s.a.op = p1 at *
  generalize s.a.n = m1 at *
  generalize s.a.s = s1 at *
  generalize s.b.op = p2 at *
  generalize s.b.n = m2 at *
  generalize s.b.s = s2 at *
  generalize s.body.length = n3 at *
  generalize s.els.length = n4 at *
  generalize s.op = o0 at *
  generalize s.name = s0 at *
  generalize s.mx = m0 at *
  have y0 := HX.out.cell 0
  have y3 := HX.out.cell 3
  have y4 := HX.out.cell 4
  have y5 := HX.out.cell 5
  have y6 := HX.out.cell 6
  have y7 := HX.out.cell 7
  have y8 := HX.out.cell 8
  have y9 := HX.out.cell 9
  have y10 := HX.out.cell 10
  have y11 := HX.out.cell 11
  have y12 := HX.out.cell 12
  simp only [List.getElem?_toArray, List.getElem?_cons_zero, List.getElem?_cons_succ] at y0 y3 y4 y5 y6 y7 y8 y9 y10 y11 y12
  by_cases h1 : o0 = 3
  · subst h1
    go_enter Tryz.func40, Tryz.ntmps40
    go_wp2_with fail
    refine (TA.out _ HB0.out).mono ?_; rintro e' w1 ⟨rfl, hb1⟩
    have HB1 := Lib.hid (below_2 HB0.out hb1)
    have HX1 := Lib.hid (HX.out.below hb1)
    clear hb1 y0 y3 y4 y5 y6 y7 y8 y9 y10 y11 y12
    have q1_0 := HX1.out.cell 0
    have q1_3 := HX1.out.cell 3
    have q1_4 := HX1.out.cell 4
    have q1_5 := HX1.out.cell 5
    have q1_6 := HX1.out.cell 6
    have q1_7 := HX1.out.cell 7
    have q1_8 := HX1.out.cell 8
    have q1_9 := HX1.out.cell 9
    have q1_10 := HX1.out.cell 10
    have q1_11 := HX1.out.cell 11
    have q1_12 := HX1.out.cell 12
    simp only [List.getElem?_toArray, List.getElem?_cons_zero, List.getElem?_cons_succ] at q1_0 q1_3 q1_4 q1_5 q1_6 q1_7 q1_8 q1_9 q1_10 q1_11 q1_12
    cases ta with
    | true =>
      go_wp2_with fail
      go_ret
      exact ⟨ret_bool (by simp), (below_2 HW.out HB1.out)⟩
    | false =>
      go_wp2_with fail
      refine (RA.out _ HB1.out).mono ?_; rintro e' w2 ⟨rfl, hb2⟩
      have HB2 := Lib.hid (below_2 HB1.out hb2)
      have HX2 := Lib.hid (HX1.out.below hb2)
      clear hb2 q1_0 q1_3 q1_4 q1_5 q1_6 q1_7 q1_8 q1_9 q1_10 q1_11 q1_12
      have q2_0 := HX2.out.cell 0
      have q2_3 := HX2.out.cell 3
      have q2_4 := HX2.out.cell 4
      have q2_5 := HX2.out.cell 5
      have q2_6 := HX2.out.cell 6
      have q2_7 := HX2.out.cell 7
      have q2_8 := HX2.out.cell 8
      have q2_9 := HX2.out.cell 9
      have q2_10 := HX2.out.cell 10
      have q2_11 := HX2.out.cell 11
      have q2_12 := HX2.out.cell 12
      simp only [List.getElem?_toArray, List.getElem?_cons_zero, List.getElem?_cons_succ] at q2_0 q2_3 q2_4 q2_5 q2_6 q2_7 q2_8 q2_9 q2_10 q2_11 q2_12
      cases ra with
      | true =>
        go_wp2_with fail
        go_ret
        exact ⟨ret_bool (by simp), (below_2 HW.out HB2.out)⟩
      | false =>
        go_wp2_with fail
        refine (RB.out _ HB2.out).mono ?_; rintro e' w3 ⟨rfl, hb3⟩
        have HB3 := Lib.hid (below_2 HB2.out hb3)
        have HX3 := Lib.hid (HX2.out.below hb3)
        clear hb3 q2_0 q2_3 q2_4 q2_5 q2_6 q2_7 q2_8 q2_9 q2_10 q2_11 q2_12
        have q3_0 := HX3.out.cell 0
        have q3_3 := HX3.out.cell 3
        have q3_4 := HX3.out.cell 4
        have q3_5 := HX3.out.cell 5
        have q3_6 := HX3.out.cell 6
        have q3_7 := HX3.out.cell 7
        have q3_8 := HX3.out.cell 8
        have q3_9 := HX3.out.cell 9
        have q3_10 := HX3.out.cell 10
        have q3_11 := HX3.out.cell 11
        have q3_12 := HX3.out.cell 12
        simp only [List.getElem?_toArray, List.getElem?_cons_zero, List.getElem?_cons_succ] at q3_0 q3_3 q3_4 q3_5 q3_6 q3_7 q3_8 q3_9 q3_10 q3_11 q3_12
        cases rb with
        | true =>
          go_wp2_with fail
          go_ret
          exact ⟨ret_bool (by simp), (below_2 HW.out HB3.out)⟩
        | false =>
          go_wp2_with fail
          refine (KB.out _ HB3.out).mono ?_; rintro e' w4 ⟨rfl, hb4⟩
          have HB4 := Lib.hid (below_2 HB3.out hb4)
          have HX4 := Lib.hid (HX3.out.below hb4)
          clear hb4 q3_0 q3_3 q3_4 q3_5 q3_6 q3_7 q3_8 q3_9 q3_10 q3_11 q3_12
          have q4_0 := HX4.out.cell 0
          have q4_3 := HX4.out.cell 3
          have q4_4 := HX4.out.cell 4
          have q4_5 := HX4.out.cell 5
          have q4_6 := HX4.out.cell 6
          have q4_7 := HX4.out.cell 7
          have q4_8 := HX4.out.cell 8
          have q4_9 := HX4.out.cell 9
          have q4_10 := HX4.out.cell 10
          have q4_11 := HX4.out.cell 11
          have q4_12 := HX4.out.cell 12
          simp only [List.getElem?_toArray, List.getElem?_cons_zero, List.getElem?_cons_succ] at q4_0 q4_3 q4_4 q4_5 q4_6 q4_7 q4_8 q4_9 q4_10 q4_11 q4_12
          cases kb with
          | true =>
            go_wp2_with fail
            go_ret
            exact ⟨ret_bool (by simp), (below_2 HW.out HB4.out)⟩
          | false =>
            go_wp2_with fail
            refine (KE.out _ HB4.out).mono ?_; rintro e' w5 ⟨rfl, hb5⟩
            have HB5 := Lib.hid (below_2 HB4.out hb5)
            clear hb5
            go_wp2_with fail
            go_ret
            exact ⟨ret_bool (by simp), (below_2 HW.out HB5.out)⟩
  · have b1 : (o0 == 3) = false := beq_eq_false_iff_ne.2 h1
    by_cases h2 : o0 = 4
    · subst h2
      go_enter Tryz.func40, Tryz.ntmps40
      go_wp2_with fail
      refine (TA.out _ HB0.out).mono ?_; rintro e' w6 ⟨rfl, hb6⟩
      have HB6 := Lib.hid (below_2 HB0.out hb6)
      have HX6 := Lib.hid (HX.out.below hb6)
      clear hb6 y0 y3 y4 y5 y6 y7 y8 y9 y10 y11 y12
      have q6_0 := HX6.out.cell 0
      have q6_3 := HX6.out.cell 3
      have q6_4 := HX6.out.cell 4
      have q6_5 := HX6.out.cell 5
      have q6_6 := HX6.out.cell 6
      have q6_7 := HX6.out.cell 7
      have q6_8 := HX6.out.cell 8
      have q6_9 := HX6.out.cell 9
      have q6_10 := HX6.out.cell 10
      have q6_11 := HX6.out.cell 11
      have q6_12 := HX6.out.cell 12
      simp only [List.getElem?_toArray, List.getElem?_cons_zero, List.getElem?_cons_succ] at q6_0 q6_3 q6_4 q6_5 q6_6 q6_7 q6_8 q6_9 q6_10 q6_11 q6_12
      cases ta with
      | true =>
        go_wp2_with fail
        go_ret
        exact ⟨ret_bool (by simp), (below_2 HW.out HB6.out)⟩
      | false =>
        go_wp2_with fail
        refine (RA.out _ HB6.out).mono ?_; rintro e' w7 ⟨rfl, hb7⟩
        have HB7 := Lib.hid (below_2 HB6.out hb7)
        have HX7 := Lib.hid (HX6.out.below hb7)
        clear hb7 q6_0 q6_3 q6_4 q6_5 q6_6 q6_7 q6_8 q6_9 q6_10 q6_11 q6_12
        have q7_0 := HX7.out.cell 0
        have q7_3 := HX7.out.cell 3
        have q7_4 := HX7.out.cell 4
        have q7_5 := HX7.out.cell 5
        have q7_6 := HX7.out.cell 6
        have q7_7 := HX7.out.cell 7
        have q7_8 := HX7.out.cell 8
        have q7_9 := HX7.out.cell 9
        have q7_10 := HX7.out.cell 10
        have q7_11 := HX7.out.cell 11
        have q7_12 := HX7.out.cell 12
        simp only [List.getElem?_toArray, List.getElem?_cons_zero, List.getElem?_cons_succ] at q7_0 q7_3 q7_4 q7_5 q7_6 q7_7 q7_8 q7_9 q7_10 q7_11 q7_12
        cases ra with
        | true =>
          go_wp2_with fail
          go_ret
          exact ⟨ret_bool (by simp), (below_2 HW.out HB7.out)⟩
        | false =>
          go_wp2_with fail
          refine (RB.out _ HB7.out).mono ?_; rintro e' w8 ⟨rfl, hb8⟩
          have HB8 := Lib.hid (below_2 HB7.out hb8)
          have HX8 := Lib.hid (HX7.out.below hb8)
          clear hb8 q7_0 q7_3 q7_4 q7_5 q7_6 q7_7 q7_8 q7_9 q7_10 q7_11 q7_12
          have q8_0 := HX8.out.cell 0
          have q8_3 := HX8.out.cell 3
          have q8_4 := HX8.out.cell 4
          have q8_5 := HX8.out.cell 5
          have q8_6 := HX8.out.cell 6
          have q8_7 := HX8.out.cell 7
          have q8_8 := HX8.out.cell 8
          have q8_9 := HX8.out.cell 9
          have q8_10 := HX8.out.cell 10
          have q8_11 := HX8.out.cell 11
          have q8_12 := HX8.out.cell 12
          simp only [List.getElem?_toArray, List.getElem?_cons_zero, List.getElem?_cons_succ] at q8_0 q8_3 q8_4 q8_5 q8_6 q8_7 q8_8 q8_9 q8_10 q8_11 q8_12
          cases rb with
          | true =>
            go_wp2_with fail
            go_ret
            exact ⟨ret_bool (by simp), (below_2 HW.out HB8.out)⟩
          | false =>
            go_wp2_with fail
            refine (KB.out _ HB8.out).mono ?_; rintro e' w9 ⟨rfl, hb9⟩
            have HB9 := Lib.hid (below_2 HB8.out hb9)
            have HX9 := Lib.hid (HX8.out.below hb9)
            clear hb9 q8_0 q8_3 q8_4 q8_5 q8_6 q8_7 q8_8 q8_9 q8_10 q8_11 q8_12
            have q9_0 := HX9.out.cell 0
            have q9_3 := HX9.out.cell 3
            have q9_4 := HX9.out.cell 4
            have q9_5 := HX9.out.cell 5
            have q9_6 := HX9.out.cell 6
            have q9_7 := HX9.out.cell 7
            have q9_8 := HX9.out.cell 8
            have q9_9 := HX9.out.cell 9
            have q9_10 := HX9.out.cell 10
            have q9_11 := HX9.out.cell 11
            have q9_12 := HX9.out.cell 12
            simp only [List.getElem?_toArray, List.getElem?_cons_zero, List.getElem?_cons_succ] at q9_0 q9_3 q9_4 q9_5 q9_6 q9_7 q9_8 q9_9 q9_10 q9_11 q9_12
            cases kb with
            | true =>
              go_wp2_with fail
              go_ret
              exact ⟨ret_bool (by simp), (below_2 HW.out HB9.out)⟩
            | false =>
              go_wp2_with fail
              refine (KE.out _ HB9.out).mono ?_; rintro e' w10 ⟨rfl, hb10⟩
              have HB10 := Lib.hid (below_2 HB9.out hb10)
              clear hb10
              go_wp2_with fail
              go_ret
              exact ⟨ret_bool (by simp), (below_2 HW.out HB10.out)⟩
    · have b2 : (o0 == 4) = false := beq_eq_false_iff_ne.2 h2
      have d1 : decide (o0 = 3) = false := decide_eq_false h1
      have d2 : decide (o0 = 4) = false := decide_eq_false h2
      rw [d1, d2]
      clear h1 h2 d1 d2
      go_enter Tryz.func40, Tryz.ntmps40
      go_wp2_with fail
      refine (RA.out _ HB0.out).mono ?_; rintro e' w11 ⟨rfl, hb11⟩
      have HB11 := Lib.hid (below_2 HB0.out hb11)
      have HX11 := Lib.hid (HX.out.below hb11)
      clear hb11 y0 y3 y4 y5 y6 y7 y8 y9 y10 y11 y12
      have q11_0 := HX11.out.cell 0
      have q11_3 := HX11.out.cell 3
      have q11_4 := HX11.out.cell 4
      have q11_5 := HX11.out.cell 5
      have q11_6 := HX11.out.cell 6
      have q11_7 := HX11.out.cell 7
      have q11_8 := HX11.out.cell 8
      have q11_9 := HX11.out.cell 9
      have q11_10 := HX11.out.cell 10
      have q11_11 := HX11.out.cell 11
      have q11_12 := HX11.out.cell 12
      simp only [List.getElem?_toArray, List.getElem?_cons_zero, List.getElem?_cons_succ] at q11_0 q11_3 q11_4 q11_5 q11_6 q11_7 q11_8 q11_9 q11_10 q11_11 q11_12
      cases ra with
      | true =>
        go_wp2_with fail
        go_ret
        exact ⟨ret_bool (by simp), (below_2 HW.out HB11.out)⟩
      | false =>
        go_wp2_with fail
        refine (RB.out _ HB11.out).mono ?_; rintro e' w12 ⟨rfl, hb12⟩
        have HB12 := Lib.hid (below_2 HB11.out hb12)
        have HX12 := Lib.hid (HX11.out.below hb12)
        clear hb12 q11_0 q11_3 q11_4 q11_5 q11_6 q11_7 q11_8 q11_9 q11_10 q11_11 q11_12
        have q12_0 := HX12.out.cell 0
        have q12_3 := HX12.out.cell 3
        have q12_4 := HX12.out.cell 4
        have q12_5 := HX12.out.cell 5
        have q12_6 := HX12.out.cell 6
        have q12_7 := HX12.out.cell 7
        have q12_8 := HX12.out.cell 8
        have q12_9 := HX12.out.cell 9
        have q12_10 := HX12.out.cell 10
        have q12_11 := HX12.out.cell 11
        have q12_12 := HX12.out.cell 12
        simp only [List.getElem?_toArray, List.getElem?_cons_zero, List.getElem?_cons_succ] at q12_0 q12_3 q12_4 q12_5 q12_6 q12_7 q12_8 q12_9 q12_10 q12_11 q12_12
        cases rb with
        | true =>
          go_wp2_with fail
          go_ret
          exact ⟨ret_bool (by simp), (below_2 HW.out HB12.out)⟩
        | false =>
          go_wp2_with fail
          refine (KB.out _ HB12.out).mono ?_; rintro e' w13 ⟨rfl, hb13⟩
          have HB13 := Lib.hid (below_2 HB12.out hb13)
          have HX13 := Lib.hid (HX12.out.below hb13)
          clear hb13 q12_0 q12_3 q12_4 q12_5 q12_6 q12_7 q12_8 q12_9 q12_10 q12_11 q12_12
          have q13_0 := HX13.out.cell 0
          have q13_3 := HX13.out.cell 3
          have q13_4 := HX13.out.cell 4
          have q13_5 := HX13.out.cell 5
          have q13_6 := HX13.out.cell 6
          have q13_7 := HX13.out.cell 7
          have q13_8 := HX13.out.cell 8
          have q13_9 := HX13.out.cell 9
          have q13_10 := HX13.out.cell 10
          have q13_11 := HX13.out.cell 11
          have q13_12 := HX13.out.cell 12
          simp only [List.getElem?_toArray, List.getElem?_cons_zero, List.getElem?_cons_succ] at q13_0 q13_3 q13_4 q13_5 q13_6 q13_7 q13_8 q13_9 q13_10 q13_11 q13_12
          cases kb with
          | true =>
            go_wp2_with fail
            go_ret
            exact ⟨ret_bool (by simp), (below_2 HW.out HB13.out)⟩
          | false =>
            go_wp2_with fail
            refine (KE.out _ HB13.out).mono ?_; rintro e' w14 ⟨rfl, hb14⟩
            have HB14 := Lib.hid (below_2 HB13.out hb14)
            clear hb14
            go_wp2_with fail
            go_ret
            exact ⟨ret_bool (by simp), (below_2 HW.out HB14.out)⟩
theorem oK_any {b N n : Nat} {g : ByteArray → Bool} : ∀ l : List St, QK b N n g l := by
  refine A.body_ind (Q := fun l => QK b N n g l) fun l ih => ?_
  intro a c w hok hl hM hK
  have := ocontainsK_any (kS (nt g)) b l a c hl w hK fun k h a1 c1 a2 c2 a3 c3 a4 c4 w' hb hk =>
    oK_one l[k] (ih k h).1 (ih k h).2 a1 c1 a2 c2 a3 c3 a4 c4 w' (hok.get k h) (hM.below hb) hk
  rw [kB_is]
  exact this
end Go.Proofs.YtnelpgeiioflmaaGreatDoor.F
