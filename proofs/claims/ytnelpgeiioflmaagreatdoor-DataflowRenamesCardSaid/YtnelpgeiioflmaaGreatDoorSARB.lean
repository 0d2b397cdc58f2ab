/-
  What the reference of layer 8 returns: renameBody: a contract.
-/
import Derived.Test.YtnelpgeiioflmaaGreatDoorSARE
import Derived.Test.YtnelpgeiioflmaaGreatDoorM08
namespace Go.Proofs.YtnelpgeiioflmaaGreatDoor.A
open Go.RowKit
open L (Str isName prt size_len below_2 below_box ret_bool ret_int eql_eq bytes_eq)

def QRB (f t : ByteArray) (l : List St) : Prop := ∀ (a : Option Addr) (c : Nat) (w : World), okB l → l.length ≤ 1000000000000000 → cB l ≤ 1000000 → Bodies w a l →
  Calls Tryz.prog 51 #[.slice a l.length c, .string f, .string t] w fun e' w' => GivesS w (l.map (renS f t)) e' w'
theorem kids_set {w : World} {b i : Nat} {u : Value} {p : Option Addr} {x : List Ex} (h : KidsF (fun j => j < b + 1) w p x) : KidsF (fun j => j < b + 1) (w.setCell ⟨b, i, none⟩ u) p x :=
  h.next ⟨fun j _ hz => Below.heap_setCell _ _ _ _ (by have h2 : ¬ j < b + 1 := hz; show j ≠ b; omega), fun _ hj => Or.inl hj⟩
theorem bodies_set {w : World} {b i : Nat} {u : Value} {p : Option Addr} {x : List St} (h : BodiesF (fun j => j < b + 1) w p x) : BodiesF (fun j => j < b + 1) (w.setCell ⟨b, i, none⟩ u) p x :=
  h.next ⟨fun j _ hz => Below.heap_setCell _ _ _ _ (by have h2 : ¬ j < b + 1 := hz; show j ≠ b; omega), fun _ hj => Or.inl hj⟩
theorem kids_on {w w' : World} {b : Nat} {p : Option Addr} {x : List Ex} (h : KidsF (fun j => j < b + 1) w p x) (hb : Below w.heap.size w w') : KidsF (fun j => j < b + 1) w' p x := h.next ⟨fun j hj _ => hb.block j hj, fun _ hj => Or.inl hj⟩
theorem bodies_on {w w' : World} {b : Nat} {p : Option Addr} {x : List St} (h : BodiesF (fun j => j < b + 1) w p x) (hb : Below w.heap.size w w') : BodiesF (fun j => j < b + 1) w' p x := h.next ⟨fun j hj _ => hb.block j hj, fun _ hj => Or.inl hj⟩
theorem kids_dn {w : World} {b n : Nat} {p : Option Addr} {x : List Ex} (h : KidsF (fun j => j < n) w p x) (hb : b < n) : KidsF (fun j => j < b + 1) w p x := h.next ⟨fun _ _ _ => rfl, fun _ hj => Or.inl (Nat.lt_of_lt_of_le hj hb)⟩
theorem bodies_dn {w : World} {b n : Nat} {p : Option Addr} {x : List St} (h : BodiesF (fun j => j < n) w p x) (hb : b < n) : BodiesF (fun j => j < b + 1) w p x := h.next ⟨fun _ _ _ => rfl, fun _ hj => Or.inl (Nat.lt_of_lt_of_le hj hb)⟩
set_option maxHeartbeats 16000000 in
set_option maxRecDepth 100000 in
theorem rrenameBody_any {f t : ByteArray} : ∀ l, QRB f t l := by
  refine body_ind fun l ih => ?_
  intro a c w hok hl hsz hK
  have HIH := Lib.hid ih
  have HOK := Lib.hid hok
  have HK := Lib.hid hK
  have HS : Hid (∀ k (h : k < l.length), cS l[k] ≤ 1000000) := fun k h => by have := cB_get h; omega
  have hlm : l.length ≤ 1000000 := by have := cB_len l; omega
  obtain ⟨m, hm⟩ : ∃ m, l.length = m := ⟨_, rfl⟩
  have HL := Lib.hid hm
  rw [hm] at hlm ⊢
  clear hok hsz ih hK hm hl
  go_enter Tryz.func51, Tryz.ntmps51
  go_wp2_with fail
  go_loopw [7, 8] (fun v i wr => ∃ (k : Nat) (lt : List SX) (p : Option Addr) (q : Nat), k ≤ m ∧ i = .int .i64 k ∧ v = .slice p lt.length q ∧ Hid (Own1 kS wr w.heap.size (fun j => j < w.heap.size) (.slice p lt.length q) lt) ∧ Hid (lt.map SX.s = (l.take k).map (renS f t)) ∧ Hid (Below w.heap.size w wr)) (fun _ i _ => m - (intOf i).toNat)
  case atStart => exact ⟨0, [], none, 0, Nat.zero_le _, rfl, rfl, Own1.nil, rfl, Below.refl _ _⟩
  case round =>
    obtain ⟨k, lt, p, q, hk, rfl, rfl, HO, HX, HB⟩ := hrel
    have hll : lt.length ≤ k := by have := congrArg List.length HX.out; rw [List.length_map, List.length_map, List.length_take] at this; omega
    by_cases hlt : k < m
    · have hlx : k < l.length := by rw [HL.out]; exact hlt
      obtain ⟨b2, i2, rfl, hat⟩ := (HK.out.below HB.out).open hlx
      have ho := okS_open (HOK.out.get k hlx)
      have hcs := HS.out k hlx
      obtain ⟨q1, q2⟩ := HIH.out k hlx
      have HN : Hid ((l.take (k + 1)).map (renS f t) = (l.take k).map (renS f t) ++ [renS f t l[k]]) := by
        show _ = _
        rw [List.take_succ_eq_append_getElem hlx, List.map_append]; rfl
      generalize l[k] = s at hat ho hcs q1 q2 HN
      have hsp := cS_parts s
      obtain ⟨a1, c1, a2, c2, a3, c3, a4, c4, hcc, hks⟩ := hat.open
      have HSW := Lib.hid (fun w' => rswap_any s.name f t w')
      have hz : w.heap.size ≤ wr.heap.size := HB.out.size
      have HCA := Lib.hid (fun w' (hb : Below wr.heap.size wr w') => rrenameExpr_any (f := f) (t := t) s.a a1 c1 w' ho.a (by omega) (hks.below hb).a)
      have HCB := Lib.hid (fun w' (hb : Below wr.heap.size wr w') => rrenameExpr_any (f := f) (t := t) s.b a2 c2 w' ho.b (by omega) (hks.below hb).b)
      have HQ1 := Lib.hid (fun w' (hb : Below wr.heap.size wr w') => q1 a3 c3 w' ho.body ho.bodyLen (by omega) (hks.below hb).body)
      have HQ2 := Lib.hid (fun w' (hb : Below wr.heap.size wr w') => q2 a4 c4 w' ho.els ho.elsLen (by omega) (hks.below hb).els)
      have HS2 : Hid (renS f t s = .mk s.op (swap f t s.name) s.mx (renE f t s.a) (renE f t s.b) (renB f t s.body) (renB f t s.els)) := by
        show _ = _
        obtain ⟨o, nm, mx, a, b, bd, el⟩ := s
        rw [renS]; rfl
      have HW3 := Lib.hid (below_box wr (.cells #[.int .i64 s.op, .string (swap f t s.name), .int .i64 s.mx, .int .i64 s.a.op, .int .i64 s.a.n, .string s.a.s, .slice a1 s.a.args.length c1, .int .i64 s.b.op, .int .i64 s.b.n, .string s.b.s, .slice a2 s.b.args.length c2, .slice a3 s.body.length c3, .slice a4 s.els.length c4] 44))
      have HX3 := Lib.hid (Bx.new wr #[.int .i64 s.op, .string (swap f t s.name), .int .i64 s.mx, .int .i64 s.a.op, .int .i64 s.a.n, .string s.a.s, .slice a1 s.a.args.length c1, .int .i64 s.b.op, .int .i64 s.b.n, .string s.b.s, .slice a2 s.b.args.length c2, .slice a3 s.body.length c3, .slice a4 s.els.length c4] 44)
      obtain ⟨k0, k1, k2, k3, k4, k5, k6, k7, k8, k9, k10, k11, k12⟩ := hcc
      unfold exV at HCA HCB
      clear hat ho hcs q1 q2 hsp hks
      go_wp2_with fail
      refine (HSW.out _).mono ?_; rintro e' w3 ⟨rfl, rfl⟩
      go_wp2_with fail
      with_reducible refine (HCA.out _ HW3.out).mono ?_
      rintro e' v3 ⟨pA, qA, rfl, hkA, hb3⟩
      have hX3 := HX3.out.below hb3
      have HKA := Lib.hid (kids_dn hkA HX3.out.lt)
      have n3 := hX3.cell 3
      have f3 := hX3.free 3
      have n4 := hX3.cell 4
      have f4 := hX3.free 4
      have n5 := hX3.cell 5
      have f5 := hX3.free 5
      have n6 := hX3.cell 6
      have f6 := hX3.free 6
      simp at n3 n4 n5 n6
      have hX4 := ((((hX3.set 3 (u := .int .i64 (renE f t s.a).op)).set 4 (u := .int .i64 (renE f t s.a).n)).set 5 (u := .string (renE f t s.a).s)).set 6 (u := .slice pA (renE f t s.a).args.length qA))
      simp only [List.setIfInBounds_toArray, List.set_cons_succ, List.set_cons_zero] at hX4
      have HW4 := Lib.hid (((((below_2 HW3.out hb3).setCell (p := ⟨wr.heap.size, 3, none⟩) (Nat.le_refl _) (.int .i64 (renE f t s.a).op)).setCell (p := ⟨wr.heap.size, 4, none⟩) (Nat.le_refl _) (.int .i64 (renE f t s.a).n)).setCell (p := ⟨wr.heap.size, 5, none⟩) (Nat.le_refl _) (.string (renE f t s.a).s)).setCell (p := ⟨wr.heap.size, 6, none⟩) (Nat.le_refl _) (.slice pA (renE f t s.a).args.length qA))
      have HKA := Lib.hid (kids_set (i := 6) (u := .slice pA (renE f t s.a).args.length qA) (kids_set (i := 5) (u := .string (renE f t s.a).s) (kids_set (i := 4) (u := .int .i64 (renE f t s.a).n) (kids_set (i := 3) (u := .int .i64 (renE f t s.a).op) HKA.out))))
      have HX4 := Lib.hid hX4
      clear hkA hb3 hX3 hX4
      unfold exV
      go_upto_region 8 with fail
      generalize ((((v3.setCell ⟨wr.heap.size, 3, none⟩ (.int .i64 (renE f t s.a).op)).setCell ⟨wr.heap.size, 4, none⟩ (.int .i64 (renE f t s.a).n)).setCell ⟨wr.heap.size, 5, none⟩ (.string (renE f t s.a).s)).setCell ⟨wr.heap.size, 6, none⟩ (.slice pA (renE f t s.a).args.length qA)) = u3 at *
      have j7 := HX4.out.cell 7
      have j8 := HX4.out.cell 8
      have j9 := HX4.out.cell 9
      have j10 := HX4.out.cell 10
      simp at j7 j8 j9 j10
      clear n3 f3 n4 f4 n5 f5 n6 f6
      go_wp2_with fail
      clear j7 j8 j9 j10
      with_reducible refine (HCB.out _ HW4.out).mono ?_
      rintro e' v4 ⟨pB, qB, rfl, hkB, hb4⟩
      have hX4 := HX4.out.below hb4
      have HKB := Lib.hid (kids_dn hkB HX4.out.lt)
      have HKA := Lib.hid (kids_on HKA.out hb4)
      have n7 := hX4.cell 7
      have f7 := hX4.free 7
      have n8 := hX4.cell 8
      have f8 := hX4.free 8
      have n9 := hX4.cell 9
      have f9 := hX4.free 9
      have n10 := hX4.cell 10
      have f10 := hX4.free 10
      simp at n7 n8 n9 n10
      have hX5 := ((((hX4.set 7 (u := .int .i64 (renE f t s.b).op)).set 8 (u := .int .i64 (renE f t s.b).n)).set 9 (u := .string (renE f t s.b).s)).set 10 (u := .slice pB (renE f t s.b).args.length qB))
      simp only [List.setIfInBounds_toArray, List.set_cons_succ, List.set_cons_zero] at hX5
      have HW5 := Lib.hid (((((below_2 HW4.out hb4).setCell (p := ⟨wr.heap.size, 7, none⟩) (Nat.le_refl _) (.int .i64 (renE f t s.b).op)).setCell (p := ⟨wr.heap.size, 8, none⟩) (Nat.le_refl _) (.int .i64 (renE f t s.b).n)).setCell (p := ⟨wr.heap.size, 9, none⟩) (Nat.le_refl _) (.string (renE f t s.b).s)).setCell (p := ⟨wr.heap.size, 10, none⟩) (Nat.le_refl _) (.slice pB (renE f t s.b).args.length qB))
      have HKB := Lib.hid (kids_set (i := 10) (u := .slice pB (renE f t s.b).args.length qB) (kids_set (i := 9) (u := .string (renE f t s.b).s) (kids_set (i := 8) (u := .int .i64 (renE f t s.b).n) (kids_set (i := 7) (u := .int .i64 (renE f t s.b).op) HKB.out))))
      have HKA := Lib.hid (kids_set (i := 10) (u := .slice pB (renE f t s.b).args.length qB) (kids_set (i := 9) (u := .string (renE f t s.b).s) (kids_set (i := 8) (u := .int .i64 (renE f t s.b).n) (kids_set (i := 7) (u := .int .i64 (renE f t s.b).op) HKA.out))))
      have HX5 := Lib.hid hX5
      clear hkB hb4 hX4 hX5
      unfold exV
      go_upto_region 9 with fail
      generalize ((((v4.setCell ⟨wr.heap.size, 7, none⟩ (.int .i64 (renE f t s.b).op)).setCell ⟨wr.heap.size, 8, none⟩ (.int .i64 (renE f t s.b).n)).setCell ⟨wr.heap.size, 9, none⟩ (.string (renE f t s.b).s)).setCell ⟨wr.heap.size, 10, none⟩ (.slice pB (renE f t s.b).args.length qB)) = u4 at *
      have j11 := HX5.out.cell 11
      simp at j11
      clear n7 f7 n8 f8 n9 f9 n10 f10
      go_wp2_with fail
      clear j11
      with_reducible refine (HQ1.out _ HW5.out).mono ?_
      rintro e' v5 ⟨pC, qC, rfl, hkC, hb5⟩
      have hX5 := HX5.out.below hb5
      have HKC := Lib.hid (bodies_dn hkC HX5.out.lt)
      have HKA := Lib.hid (kids_on HKA.out hb5)
      have HKB := Lib.hid (kids_on HKB.out hb5)
      have n11 := hX5.cell 11
      have f11 := hX5.free 11
      simp at n11
      have hX6 := (hX5.set 11 (u := .slice pC s.body.length qC))
      simp only [List.setIfInBounds_toArray, List.set_cons_succ, List.set_cons_zero] at hX6
      have HW6 := Lib.hid ((below_2 HW5.out hb5).setCell (p := ⟨wr.heap.size, 11, none⟩) (Nat.le_refl _) (.slice pC s.body.length qC))
      have HKC := Lib.hid (bodies_set (i := 11) (u := .slice pC s.body.length qC) HKC.out)
      have HKA := Lib.hid (kids_set (i := 11) (u := .slice pC s.body.length qC) HKA.out)
      have HKB := Lib.hid (kids_set (i := 11) (u := .slice pC s.body.length qC) HKB.out)
      have HX6 := Lib.hid hX6
      clear hkC hb5 hX5 hX6
      go_upto_region 10 with fail
      generalize (v5.setCell ⟨wr.heap.size, 11, none⟩ (.slice pC s.body.length qC)) = u5 at *
      have j12 := HX6.out.cell 12
      simp at j12
      clear n11 f11
      go_wp2_with fail
      clear j12
      with_reducible refine (HQ2.out _ HW6.out).mono ?_
      rintro e' v6 ⟨pD, qD, rfl, hkD, hb6⟩
      have hX6 := HX6.out.below hb6
      have HKD := Lib.hid (bodies_dn hkD HX6.out.lt)
      have HKA := Lib.hid (kids_on HKA.out hb6)
      have HKB := Lib.hid (kids_on HKB.out hb6)
      have HKC := Lib.hid (bodies_on HKC.out hb6)
      have n12 := hX6.cell 12
      have f12 := hX6.free 12
      simp at n12
      have hX7 := (hX6.set 12 (u := .slice pD s.els.length qD))
      simp only [List.setIfInBounds_toArray, List.set_cons_succ, List.set_cons_zero] at hX7
      have HW7 := Lib.hid ((below_2 HW6.out hb6).setCell (p := ⟨wr.heap.size, 12, none⟩) (Nat.le_refl _) (.slice pD s.els.length qD))
      have HKD := Lib.hid (bodies_set (i := 12) (u := .slice pD s.els.length qD) HKD.out)
      have HKA := Lib.hid (kids_set (i := 12) (u := .slice pD s.els.length qD) HKA.out)
      have HKB := Lib.hid (kids_set (i := 12) (u := .slice pD s.els.length qD) HKB.out)
      have HKC := Lib.hid (bodies_set (i := 12) (u := .slice pD s.els.length qD) HKC.out)
      have HX7 := Lib.hid hX7
      clear hkD hb6 hX6 hX7
      go_upto_region 11 with fail
      generalize (v6.setCell ⟨wr.heap.size, 12, none⟩ (.slice pD s.els.length qD)) = u6 at *
      have hzz7 := HX7.out.lt
      have HO7 := Lib.hid (HO.out.below HW7.out)
      obtain ⟨y, hy⟩ : ∃ y : SX, y = ⟨.mk s.op (swap f t s.name) s.mx (renE f t s.a) (renE f t s.b) (renB f t s.body) (renB f t s.els), pA, qA, pB, qB, pC, qC, pD, qD⟩ := ⟨_, rfl⟩
      rw [← renB_map] at HKC HKD
      have hK6 : kS.inn (fun j => j < w.heap.size ∨ (Value.slice p lt.length q).ownBlock = some j) u6 y := by
        have hst : Stays (fun j => j < wr.heap.size + 1) (fun j => j < w.heap.size ∨ (Value.slice p lt.length q).ownBlock = some j) u6 u6 := ⟨fun _ _ _ => rfl, fun j hj => by
          rcases hj with hj | hj
          · left; show j < wr.heap.size + 1; omega
          · left; have := (HO.out.lt j hj).2; show j < wr.heap.size + 1; omega⟩
        rw [hy]
        exact ⟨HKA.out.next hst, HKB.out.next hst, HKC.out.next hst, HKD.out.next hst⟩
      have HK6 := Lib.hid hK6
      have HY := Lib.hid hy
      have c0' := HX7.out.cell 0
      have c1' := HX7.out.cell 1
      have c2' := HX7.out.cell 2
      have c3' := HX7.out.cell 3
      have c4' := HX7.out.cell 4
      have c5' := HX7.out.cell 5
      have c6' := HX7.out.cell 6
      have c7' := HX7.out.cell 7
      have c8' := HX7.out.cell 8
      have c9' := HX7.out.cell 9
      have c10' := HX7.out.cell 10
      have c11' := HX7.out.cell 11
      have c12' := HX7.out.cell 12
      simp at c0' c1' c2' c3' c4' c5' c6' c7' c8' c9' c10' c11' c12'
      have HCS : Hid ([.int .i64 s.op, .string (swap f t s.name), .int .i64 s.mx, .int .i64 (renE f t s.a).op, .int .i64 (renE f t s.a).n, .string (renE f t s.a).s, .slice pA (renE f t s.a).args.length qA, .int .i64 (renE f t s.b).op, .int .i64 (renE f t s.b).n, .string (renE f t s.b).s, .slice pB (renE f t s.b).args.length qB, .slice pC s.body.length qC, .slice pD s.els.length qD] = kS.f y) := by
        show _ = _
        rw [hy, ← renB_len f t s.body, ← renB_len f t s.els]
        rfl
      have HYS : Hid (y.s = renS f t s) := by show _ = _; rw [hy, HS2.out]
      clear hK6 hy
      go_wp2_with (at_builtin; refine kS.wpList rfl (.tmp 50) (.tmp 52) rfl w.heap.size (.slice p lt.length q) lt rfl HO7.out.row y _ HCS.out u6.heap.size rfl rfl (by omega) (by omega) ?_; intro g6 cap6 w6 hown6 hgrow6 hlie6)
      have HO6 := Lib.hid (HO7.out.push HK6.out (fun j hj => by show j < u6.heap.size; have h2 : j < w.heap.size := hj; omega) hown6 hgrow6 hlie6)
      have HB6 := Lib.hid (HO7.out.frame (HB.out.trans (HW7.out.mono hz)) (by omega) hgrow6)
      have HX6 : Hid ((lt ++ [y]).map SX.s = (l.take (k + 1)).map (renS f t)) := by show _ = _; rw [HN.out, List.map_append, HX.out, List.map_singleton, HYS.out]
      have HL6 : Hid ((lt ++ [y]).length = lt.length + 1) := by show _ = _; simp
      clear hown6 hgrow6 hlie6
      go_wp2_with fail
      go_roundw
      case rel =>
        exact ⟨k + 1, lt ++ [y], some ⟨g6, 0, none⟩, cap6, by omega, by go_num, by rw [HL6.out], by show Own1 _ _ _ _ _ _; rw [HL6.out]; exact HO6.out, HX6.out, HB6.out⟩
      case measure => simp [intOf]; omega
    · have HXE : Hid (lt.map SX.s = l.map (renS f t)) := by
        show _ = _
        rw [HX.out, List.take_of_length_le (by rw [HL.out]; omega)]
      have hK := HO.out.bodies
      have hlen : lt.length = (l.map (renS f t)).length := by rw [← HXE.out, List.length_map]
      have HV : Hid (GivesS w (l.map (renS f t)) (.returned (.slice p lt.length q)) wr) := by
        refine ⟨p, q, by rw [hlen], ?_, HB.out⟩
        rw [← HXE.out]
        exact hK
      clear hK hlen
      go_wp2_with fail
      go_ret
      exact HV.out
end Go.Proofs.YtnelpgeiioflmaaGreatDoor.A
