/-
  What the reference of layer 8 returns: renameExpr: a contract.
-/
import Derived.Deep.RegionLaw
import Derived.Test.YtnelpgeiioflmaaGreatDoorM08
import Derived.Test.YtnelpgeiioflmaaGreatDoorM07
namespace Go.Proofs.YtnelpgeiioflmaaGreatDoor.A
open Go.RowKit
open L (Str isName prt size_len below_2 below_box ret_bool ret_int eql_eq bytes_eq)

def QR (f t : ByteArray) (e : Ex) : Prop := ∀ (a : Option Addr) (c : Nat) (w : World), okE e → cE e ≤ 1000000 → Kids w a e.args →
  Calls Tryz.prog 73 #[exV e a c, .string f, .string t] w fun e' w' => GivesE w (renE f t e) e' w'
set_option maxHeartbeats 8000000 in
set_option maxRecDepth 100000 in
theorem rrenameExpr_any {f t : ByteArray} : ∀ e, QR f t e := by
  refine Ex.ind (P := QR f t) ?_
  intro o n s l ih a c w hok hsz hK
  obtain ⟨_, hl, hoks⟩ := okE_open hok
  have hsz2 : 1 + s.size / 64 + cEs l ≤ 1000000 := by rw [cE] at hsz; exact hsz
  have HS : Hid (∀ k (h : k < l.length), cE l[k] ≤ 1000000) := fun k h => by have := cEs_get h; omega
  have hlm : l.length ≤ 1000000 := by have := cEs_len l; omega
  have HIH := Lib.hid ih
  have HOK := Lib.hid hoks
  have HK : Hid (Kids w a l) := hK
  have hbx1 := Bx.new w #[.int .i64 o, .int .i64 n, .string s, .slice a l.length c] 42
  have hx : renE f t (.mk o n s l) = .mk o n (if o = 3 then swap f t s else s) (renEs f t l) := by rw [renE]
  rw [hx]
  have HSW : Hid (∀ w', Calls Tryz.prog 52 #[.string s, .string f, .string t] w' fun e w'' => e = .returned (.string (swap f t s)) ∧ w'' = w') := fun w' => rswap_any s f t w'
  obtain ⟨s', hs'⟩ : ∃ s', (if o = 3 then swap f t s else s) = s' := ⟨_, rfl⟩
  rw [hs']
  obtain ⟨m, hm⟩ : ∃ m, l.length = m := ⟨_, rfl⟩
  have HL := Lib.hid hm
  simp only [exV_mk] 
  rw [hm] at hlm ⊢
  have HEnd : Hid (∀ w1, w1 = (((w.alloc (.cells #[.int .i64 o, .int .i64 n, .string s, .slice a m c] 42)).alloc (.cells #[.int .i64 0, .int .i64 0, .string ⟨#[]⟩, .slice none 0 0] 42)).alloc (.cells #[.int .i64 o, .int .i64 n, .string s', .slice none 0 0] 42)) → Bx w1 w.heap.size #[.int .i64 o, .int .i64 n, .string s, .slice a m c] 42 ∧ Bx w1 (w.heap.size + 1) #[.int .i64 0, .int .i64 0, .string ⟨#[]⟩, .slice none 0 0] 42 ∧ Bx w1 (w.heap.size + 2) #[.int .i64 o, .int .i64 n, .string s', .slice none 0 0] 42 ∧ Below w.heap.size w w1 ∧ w1.heap.size = w.heap.size + 3) := by
    intro w1 hw1
    subst hw1
    refine ⟨?_, ?_, ?_, ?_, by simp⟩
    · exact ((Bx.new w _ _).below (below_box _ _)).below (below_box _ _)
    · have := (Bx.new (w.alloc (.cells #[.int .i64 o, .int .i64 n, .string s, .slice a m c] 42)) #[.int .i64 0, .int .i64 0, .string ⟨#[]⟩, .slice none 0 0] 42)
      rw [show (w.alloc (.cells #[.int .i64 o, .int .i64 n, .string s, .slice a m c] 42)).heap.size = w.heap.size + 1 by simp] at this
      exact this.below (below_box _ _)
    · have := (Bx.new ((w.alloc (.cells #[.int .i64 o, .int .i64 n, .string s, .slice a m c] 42)).alloc (.cells #[.int .i64 0, .int .i64 0, .string ⟨#[]⟩, .slice none 0 0] 42)) #[.int .i64 o, .int .i64 n, .string s', .slice none 0 0] 42)
      rw [show ((w.alloc (.cells #[.int .i64 o, .int .i64 n, .string s, .slice a m c] 42)).alloc (.cells #[.int .i64 0, .int .i64 0, .string ⟨#[]⟩, .slice none 0 0] 42)).heap.size = w.heap.size + 2 by simp] at this
      exact this
    · exact below_2 (below_2 (below_box _ _) (below_box _ _)) (below_box _ _)
  clear hok hoks hsz hsz2 ih hK hbx1 hx hm hl
  by_cases h3 : o = 3
  case' pos =>
    have b3 : (o == 3) = true := beq_iff_eq.2 h3
    rw [if_pos h3] at hs'
    rw [hs'] at HSW
    clear h3 hs'
    go_enter Tryz.func73, Tryz.ntmps73
    go_wp2_with fail
    refine (HSW.out _).mono ?_; rintro e' w3 ⟨rfl, rfl⟩
    go_wp2_with fail
  case' neg =>
    have b3 : (o == 3) = false := beq_eq_false_iff_ne.2 h3
    rw [if_neg h3] at hs'
    have HSS := Lib.hid hs'
    clear h3 HSW hs'
    go_enter Tryz.func73, Tryz.ntmps73
    go_wp2_with fail
  all_goals
    clear b3
    go_loopw [8] (fun i wr => ∃ (k : Nat) (lt : List ET) (p : Option Addr) (q : Nat), k ≤ m ∧ i = .int .i64 k ∧ Hid (Bx wr w.heap.size #[.int .i64 o, .int .i64 n, .string s, .slice a m c] 42) ∧ Hid (Bx wr (w.heap.size + 1) #[.int .i64 0, .int .i64 0, .string ⟨#[]⟩, .slice none 0 0] 42) ∧ Hid (Bx wr (w.heap.size + 2) #[.int .i64 o, .int .i64 n, .string s', .slice p lt.length q] 42) ∧ Hid (Own1 kE wr (w.heap.size + 3) (fun j => j < w.heap.size + 3) (.slice p lt.length q) lt) ∧ Hid (lt.map ET.e = (l.take k).map (renE f t)) ∧ Hid (Below w.heap.size w wr)) (fun i _ => m - (intOf i).toNat)
    case atStart =>
      have hE := HEnd.out
      try (rw [← HSS.out] at hE ⊢)
      obtain ⟨h1, h2, h3, h4, _⟩ := hE _ rfl
      exact ⟨0, [], none, 0, Nat.zero_le _, rfl, h1, h2, h3, Own1.nil, rfl, h4⟩
    case round =>
      obtain ⟨k, lt, p, q, hk, rfl, HX1, HX2, HX3, HO, HX, HB⟩ := hrel
      have hll : lt.length ≤ k := by have := congrArg List.length HX.out; rw [List.length_map, List.length_map, List.length_take] at this; omega
      have hlt7 := HX3.out.lt
      have c3 := HX1.out.cell 3
      simp at c3
      by_cases hlt : k < m
      · have hlx : k < l.length := by rw [HL.out]; exact hlt
        obtain ⟨b2, i2, rfl, hat⟩ := (HK.out.below HB.out).open hlx
        obtain ⟨d0, d1, d2, a4, c4, d3, hk4⟩ := hat.open
        have HC := Lib.hid (HIH.out k hlx a4 c4 wr.drew (HOK.out.get k hlx) (HS.out k hlx) (hk4.below (L.below_drew wr)))
        have HN : Hid ((l.take (k + 1)).map (renE f t) = (l.take k).map (renE f t) ++ [renE f t l[k]]) := by
          show _ = _
          rw [List.take_succ_eq_append_getElem hlx, List.map_append]; rfl
        have e3 := HX3.out.cell 3
        simp at e3
        clear hat hk4
        generalize renE f t l[k] = y at HC HN
        unfold exV at HC
        generalize l[k].args.length = m2 at *
        generalize l[k].op = o2 at *
        generalize l[k].n = n2 at *
        generalize l[k].s = s2 at *
        go_wp2_with fail
        go_region_law
          (first
            | (refine kE.step rfl (.tmp 33) (.tmp 42) rfl (w.heap.size + 3) (.slice p lt.length q) lt rfl HO4.out.row ⟨y, p5, q5⟩ _ rfl w4.heap.size rfl rfl (by omega) (by omega) ?_; intro g6 cap6 w6 hown6 hgrow6 hlie6; have HO6 := Lib.hid (HO4.out.push HK5.out (fun j hj => by omega) hown6 hgrow6 hlie6); have HF6 := Lib.hid (HO4.out.frame (Below.refl (w.heap.size + 3) w4) (by omega) hgrow6); have hC6 := HX34.out.keep (HF6.out.block (w.heap.size + 2) (by omega)); have r3 := hC6.cell 3; have r4 := hC6.free 3; simp at r3; have HC6 := Lib.hid hC6; clear hown6 hgrow6 hlie6 hC6)
            | (go_simp; go_at_call 73; refine HC.out.mono ?_; rintro e' w4 ⟨p5, q5, rfl, hk5, hb5⟩; have HB4 := Lib.hid (below_2 (L.below_drew _) hb5); have HO4 := Lib.hid (HO.out.below HB4.out); have hz4 := HB4.out.size; have hX4 := HX3.out.below HB4.out; have t3 := hX4.cell 3; simp at t3; have HX34 := Lib.hid hX4; have hba := below_box w4 (.cells #[.int .i64 y.op, .int .i64 y.n, .string y.s, .slice p5 y.args.length q5] 42); have t2 := (hba.cell (block_lt_of_cell t3)).trans t3; have HK5 : Hid (kE.inn (fun j => j < w.heap.size + 3 ∨ (Value.slice p lt.length q).ownBlock = some j) w4 ⟨y, p5, q5⟩) := KidsF.next hk5 ⟨fun _ _ _ => rfl, fun j hj => Or.inl (hj.elim (fun h => (show j < wr.heap.size by have h2 : j < w.heap.size + 3 := h; omega)) (fun h => (HO.out.lt j h).2))⟩; unfold exV; clear hk5 hb5 hX4 hba))
        all_goals
          have HX6 : Hid ((lt ++ [(⟨y, p5, q5⟩ : ET)]).map ET.e = (l.take (k + 1)).map (renE f t)) := by show _ = _; rw [HN.out, List.map_append, HX.out]; rfl
          have HL6 : Hid ((lt ++ [(⟨y, p5, q5⟩ : ET)]).length = lt.length + 1) := by show _ = _; simp
          have hC8 := HC6.out.set 3 (u := .slice (some ⟨g6, 0, none⟩) (lt.length + 1) cap6)
          simp only [List.setIfInBounds_toArray, List.set_cons_succ, List.set_cons_zero] at hC8
          have HC8 := Lib.hid hC8
          have HO8 := Lib.hid (HO6.out.next (Z' := fun j => j < w.heap.size + 3) (w' := w6.setCell ⟨w.heap.size + 2, 3, none⟩ (.slice (some ⟨g6, 0, none⟩) (lt.length + 1) cap6)) ⟨fun j _ hz => Below.heap_setCell _ _ _ _ (show j ≠ w.heap.size + 2 by omega), fun j hj => Or.inl hj⟩)
          have hB46 := HF6.out
          have hX1 := ((HX1.out.below HB4.out).keep (hB46.block w.heap.size (by omega))).keep (Below.heap_setCell w6 ⟨w.heap.size + 2, 3, none⟩ (.slice (some ⟨g6, 0, none⟩) (lt.length + 1) cap6) w.heap.size (show w.heap.size ≠ w.heap.size + 2 by omega))
          have hX2 := ((HX2.out.below HB4.out).keep (hB46.block (w.heap.size + 1) (by omega))).keep (Below.heap_setCell w6 ⟨w.heap.size + 2, 3, none⟩ (.slice (some ⟨g6, 0, none⟩) (lt.length + 1) cap6) (w.heap.size + 1) (show w.heap.size + 1 ≠ w.heap.size + 2 by omega))
          have HY1 := Lib.hid hX1
          have HY2 := Lib.hid hX2
          have HB8 : Hid (Below w.heap.size w (w6.setCell ⟨w.heap.size + 2, 3, none⟩ (.slice (some ⟨g6, 0, none⟩) (lt.length + 1) cap6))) := ((below_2 HB.out HB4.out).trans (hB46.mono (by omega))).setCell (p := ⟨w.heap.size + 2, 3, none⟩) (by show w.heap.size ≤ w.heap.size + 2; omega) _
          clear hC8 hB46 hX1 hX2
          go_wp2_with fail
          go_roundw
          case rel => exact ⟨k + 1, lt ++ [(⟨y, p5, q5⟩ : ET)], some ⟨g6, 0, none⟩, cap6, by omega, by go_num, HY1.out, HY2.out, by show Bx _ _ _ _; rw [HL6.out]; exact HC8.out, by show Own1 _ _ _ _ _ _; rw [HL6.out]; exact HO8.out, HX6.out, HB8.out⟩
          case measure => simp [intOf]; omega
      · have HXE : Hid (lt.map ET.e = renEs f t l) := by
          show _ = _
          rw [HX.out, renEs_map, List.take_of_length_le (by rw [HL.out]; omega)]
        have hK := HO.out.kids
        have k0 := HX3.out.cell 0
        have k1 := HX3.out.cell 1
        have k2 := HX3.out.cell 2
        have k3 := HX3.out.cell 3
        have e0 := HX2.out.cell 0
        have e1 := HX2.out.cell 1
        have e2 := HX2.out.cell 2
        have e3 := HX2.out.cell 3
        have f4 := HX2.out.free 0
        have f5 := HX2.out.free 1
        have f6 := HX2.out.free 2
        have f7 := HX2.out.free 3
        simp at k0 k1 k2 k3 e0 e1 e2 e3
        have hXB7 := (((HX2.out.set 0 (u := .int .i64 o)).set 1 (u := .int .i64 n)).set 2 (u := .string s')).set 3 (u := .slice p lt.length q)
        have q0 := hXB7.cell 0
        have q1 := hXB7.cell 1
        have q2 := hXB7.cell 2
        have q3 := hXB7.cell 3
        simp at q0 q1 q2 q3
        have hlen : lt.length = (renEs f t l).length := by rw [← HXE.out, List.length_map]
        have HV : Hid (GivesE w (.mk o n s' (renEs f t l)) (.returned (.agg #[.int .i64 o, .int .i64 n, .string s', .slice p lt.length q])) ((((wr.setCell ⟨w.heap.size + 1, 0, none⟩ (.int .i64 o)).setCell ⟨w.heap.size + 1, 1, none⟩ (.int .i64 n)).setCell ⟨w.heap.size + 1, 2, none⟩ (.string s')).setCell ⟨w.heap.size + 1, 3, none⟩ (.slice p lt.length q))) := by
          refine ⟨p, q, ?_, ?_, ?_⟩
          · rw [exV_mk, hlen]
          · show KidsF _ _ p (renEs f t l)
            rw [← HXE.out]
            refine hK.next ⟨fun j hj hz => ?_, fun j hj => Or.inl (by omega)⟩
            rw [Below.heap_setCell _ _ _ _ (by show j ≠ w.heap.size + 1; omega), Below.heap_setCell _ _ _ _ (by show j ≠ w.heap.size + 1; omega), Below.heap_setCell _ _ _ _ (by show j ≠ w.heap.size + 1; omega), Below.heap_setCell _ _ _ _ (by show j ≠ w.heap.size + 1; omega)]
          · exact (((HB.out.setCell (p := ⟨w.heap.size + 1, 0, none⟩) (Nat.le_succ _) _).setCell (p := ⟨w.heap.size + 1, 1, none⟩) (Nat.le_succ _) _).setCell (p := ⟨w.heap.size + 1, 2, none⟩) (Nat.le_succ _) _).setCell (p := ⟨w.heap.size + 1, 3, none⟩) (Nat.le_succ _) _
        clear hK hXB7 hlen HXE
        go_wp2_with fail
        refine bodyPost_ret (v := .agg #[.int .i64 o, .int .i64 n, .string s', .slice p lt.length q]) (by simp [results, Tryz.results73, go_sem, q0, q1, q2, q3]) rfl ?_
        exact HV.out
end Go.Proofs.YtnelpgeiioflmaaGreatDoor.A
