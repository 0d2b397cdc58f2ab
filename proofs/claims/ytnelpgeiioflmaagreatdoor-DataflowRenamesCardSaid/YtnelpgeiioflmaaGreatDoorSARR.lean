/-
  What the reference of layer 8 returns: Rename: a contract (over stmt's).
-/
import Derived.Test.YtnelpgeiioflmaaGreatDoorSARB
import Derived.Test.YtnelpgeiioflmaaGreatDoorM10
import Derived.Test.YtnelpgeiioflmaaGreatDoorM11
import Derived.Test.YtnelpgeiioflmaaGreatDoorSAOR
import Derived.Deep.RegionWith
import Derived.Deep.RegionLaw
import Derived.Deep.Cut
import Derived.Deep.CutRange
namespace Go.Proofs.YtnelpgeiioflmaaGreatDoor.A
open Go.RowKit
open L (Str isName prt size_len below_2 below_box ret_bool ret_int eql_eq bytes_eq isName_any)

set_option maxHeartbeats 16000000 in
set_option maxRecDepth 100000 in
theorem rrename_any (hst : RStmt) (p : Pr) (a1 a2 : Option Addr) (c1 c2 : Nat) (f t : ByteArray) (hok : OkP p) (hsz : cB p.body ≤ 900000) (hpl : p.params.length ≤ 1000) (hts : t.size ≤ 281474976710656) (w : World) (hK : PrIn w p a1 a2) :
    Calls Tryz.prog 25 #[prV p a1 c1 a2 c2, .string f, .string t] w fun e' w' => GivesRn w (rename p f t) e' w' := by
  have hw1 := below_box w (prO p a1 c1 a2 c2)
  have hw2 := below_box (w.alloc (prO p a1 c1 a2 c2)) (.cells #[.string ⟨#[]⟩, .slice none 0 0, .slice none 0 0] 25)
  have hx3 := (Bx.new w #[.string p.name, .slice a1 p.params.length c1, .slice a2 p.body.length c2] 25).below hw2
  have hx6 := Bx.new (w.alloc (prO p a1 c1 a2 c2)) #[.string ⟨#[]⟩, .slice none 0 0, .slice none 0 0] 25
  have hw := below_2 hw1 hw2
  rw [show (w.alloc (prO p a1 c1 a2 c2)).heap.size = w.heap.size + 1 by simp] at hx6
  have hsz4 : ((w.alloc (prO p a1 c1 a2 c2)).alloc (.cells #[.string ⟨#[]⟩, .slice none 0 0, .slice none 0 0] 25)).heap.size = w.heap.size + 2 := by simp
  unfold prO at *
  clear hw1 hw2
  generalize hwe : ((w.alloc (.cells #[.string p.name, .slice a1 p.params.length c1, .slice a2 p.body.length c2] 25)).alloc (.cells #[.string ⟨#[]⟩, .slice none 0 0, .slice none 0 0] 25)) = w4 at *
  have hn := names_len p hpl
  have HVal := Lib.hid (fun w' (hb : Below w4.heap.size w4 w') => rvalidate_any hst p a1 a2 c1 c2 hok hsz w' (hK.below (below_2 hw hb)))
  have HIs : Hid (∀ w', Calls Tryz.prog 49 #[.string t] w' fun e' w'' => e' = .returned (.bool (nam t)) ∧ Below w'.heap.size w' w'') := fun w' => isName_any t (by omega) w'
  have HN := Lib.hid (fun w' (hb : Below w4.heap.size w4 w') => rnames_any p a1 a2 c1 c2 hok hpl w' (hK.below (below_2 hw hb)))
  have HOc := Lib.hid (fun w' (hb : Below w4.heap.size w4 w') => roccurs_any p a1 c1 a2 c2 t hok w' (hK.below (below_2 hw hb)))
  have HRB := Lib.hid (fun w' (hb : Below w4.heap.size w4 w') => rrenameBody_any (f := f) (t := t) p.body a2 c2 w' hok.body hok.bodyLen (by omega) (hK.below (below_2 hw hb)).body)
  have HSW := Lib.hid (fun (x : ByteArray) w' => rswap_any x f t w')
  have HK := Lib.hid (fun w' (hb : Below w4.heap.size w4 w') => (hK.below (below_2 hw hb)).params)
  have HX3 := Lib.hid hx3
  have HX6 := Lib.hid hx6
  have HW := Lib.hid hw
  have R1 := Lib.hid (@rename_1 p f t)
  have R7 := Lib.hid (@rename_7 p f t)
  have R9 := Lib.hid (@rename_9 p f t)
  have R8 := Lib.hid (@rename_8 p f t)
  have R0 := Lib.hid (@rename_0 p f t)
  have y0 := hx3.cell 0
  have y1 := hx3.cell 1
  have y2 := hx3.cell 2
  simp at y0 y1 y2
  obtain ⟨v, hv⟩ : ∃ v, valE p = v := ⟨_, rfl⟩
  obtain ⟨n, hnn⟩ : ∃ v, nam t = v := ⟨_, rfl⟩
  obtain ⟨o, hoo⟩ : ∃ v, occurs p t = v := ⟨_, rfl⟩
  obtain ⟨M, hMM⟩ : ∃ v, (names p).any (fun x => decide (x = f)) = v := ⟨_, rfl⟩
  rw [hv] at HVal R1 R7 R9 R8 R0
  rw [hnn] at HIs R7 R9 R8 R0
  rw [hMM] at R9 R8 R0
  rw [hoo] at HOc R8 R0
  have HM := Lib.hid hMM
  obtain ⟨m, hm⟩ : ∃ m, p.params.length = m := ⟨_, rfl⟩
  have HL := Lib.hid hm
  unfold prV at HVal HN HOc ⊢
  rw [hm] at HVal HN HOc HX3 y1 hpl hwe ⊢
  clear hx3 hx6 hw hok hsz hK hv hnn hoo hts hMM hm hst
  go_enter Tryz.func25, Tryz.ntmps25
  go_wp2_with fail
  refine (HVal.out _ (Below.refl _ _)).mono ?_; rintro e' w5 ⟨rfl, hb⟩
  have HB5 := Lib.hid hb
  clear hb
  by_cases hv0 : ¬ v = 0
  · have bv : (v != 0) = true := bne_iff_ne.2 hv0
    have HR := Lib.hid (R1.out hv0)
    clear hv0
    have hz6 := HX6.out.below HB5.out
    have e0 := hz6.cell 0
    have e1 := hz6.cell 1
    have e2 := hz6.cell 2
    have g0 := hz6.free 0
    have g1 := hz6.free 1
    have g2 := hz6.free 2
    have hq6 := ((hz6.set 0 (u := .string ⟨#[]⟩)).set 1 (u := .slice none 0 0)).set 2 (u := .slice none 0 0)
    have q0 := hq6.cell 0
    have q1 := hq6.cell 1
    have q2 := hq6.cell 2
    simp at e0 e1 e2 q0 q1 q2
    have HVx : Hid (GivesRn w (rename p f t) (.returned (.tuple #[.agg #[.string ⟨#[]⟩, .slice none 0 0, .slice none 0 0], .int .i64 1])) (((w5.setCell ⟨w.heap.size + 1, 0, none⟩ (.string ⟨#[]⟩)).setCell ⟨w.heap.size + 1, 1, none⟩ (.slice none 0 0)).setCell ⟨w.heap.size + 1, 2, none⟩ (.slice none 0 0))) := by
      show GivesRn _ _ _ _
      rw [HR.out]
      exact ⟨none, 0, none, 0, rfl, ⟨Or.inl rfl, Or.inl rfl⟩, Nat.le_refl _, (((HW.out.trans (HB5.out.mono HW.out.size)).setCell (p := ⟨w.heap.size + 1, 0, none⟩) (Nat.le_succ _) _).setCell (p := ⟨w.heap.size + 1, 1, none⟩) (Nat.le_succ _) _).setCell (p := ⟨w.heap.size + 1, 2, none⟩) (Nat.le_succ _) _⟩
    clear hz6 hq6
    go_wp2_with fail
    refine bodyPost_ret (v := .tuple #[.agg #[.string ⟨#[]⟩, .slice none 0 0, .slice none 0 0], .int .i64 1]) (by simp [results, Tryz.results25, go_sem, q0, q1, q2]) rfl ?_
    exact HVx.out
  have hv0 := Decidable.not_not.1 hv0
  have bv : (v != 0) = false := by rw [bne_eq_false_iff_eq]; exact hv0
  have HV0 := Lib.hid hv0
  clear hv0
  go_wp2_with fail
  refine (HIs.out _).mono ?_; rintro e' w6 ⟨rfl, hb⟩
  have HB6 := Lib.hid (below_2 HB5.out hb)
  clear hb
  cases n
  · have HR := Lib.hid (R7.out HV0.out (by trivial))
    have hz6 := HX6.out.below HB6.out
    have e0 := hz6.cell 0
    have e1 := hz6.cell 1
    have e2 := hz6.cell 2
    have g0 := hz6.free 0
    have g1 := hz6.free 1
    have g2 := hz6.free 2
    have hq6 := ((hz6.set 0 (u := .string ⟨#[]⟩)).set 1 (u := .slice none 0 0)).set 2 (u := .slice none 0 0)
    have q0 := hq6.cell 0
    have q1 := hq6.cell 1
    have q2 := hq6.cell 2
    simp at e0 e1 e2 q0 q1 q2
    have HVx : Hid (GivesRn w (rename p f t) (.returned (.tuple #[.agg #[.string ⟨#[]⟩, .slice none 0 0, .slice none 0 0], .int .i64 7])) (((w6.setCell ⟨w.heap.size + 1, 0, none⟩ (.string ⟨#[]⟩)).setCell ⟨w.heap.size + 1, 1, none⟩ (.slice none 0 0)).setCell ⟨w.heap.size + 1, 2, none⟩ (.slice none 0 0))) := by
      show GivesRn _ _ _ _
      rw [HR.out]
      exact ⟨none, 0, none, 0, rfl, ⟨Or.inl rfl, Or.inl rfl⟩, Nat.le_refl _, (((HW.out.trans (HB6.out.mono HW.out.size)).setCell (p := ⟨w.heap.size + 1, 0, none⟩) (Nat.le_succ _) _).setCell (p := ⟨w.heap.size + 1, 1, none⟩) (Nat.le_succ _) _).setCell (p := ⟨w.heap.size + 1, 2, none⟩) (Nat.le_succ _) _⟩
    clear hz6 hq6
    go_wp2_with fail
    refine bodyPost_ret (v := .tuple #[.agg #[.string ⟨#[]⟩, .slice none 0 0, .slice none 0 0], .int .i64 7]) (by simp [results, Tryz.results25, go_sem, q0, q1, q2]) rfl ?_
    exact HVx.out
  have hX36 := HX3.out.below HB6.out
  have m0 := hX36.cell 0
  have m1 := hX36.cell 1
  have m2 := hX36.cell 2
  simp at m0 m1 m2
  clear hX36
  go_wp2_with fail
  refine (HN.out _ HB6.out).mono ?_; rintro e' wN ⟨pn, qn, rfl, hqn, hsn, hbn⟩
  have HSn := Lib.hid hsn
  have HBn := Lib.hid (below_2 HB6.out hbn)
  clear hsn hbn hqn bv m0 m1 m2
  go_wp2_with fail
  go_loopw [9, 10] (fun s9 s10 wr => ∃ (k : Nat) (b : Bool), k ≤ (names p).length ∧ s10 = .int .i64 k ∧ s9 = .bool b ∧ Hid ((b || ((names p).drop k).any (fun x => decide (x = f))) = M) ∧ wr = wN) (fun _ s10 _ => (names p).length - (intOf s10).toNat)
  case atStart => exact ⟨0, false, Nat.zero_le _, rfl, rfl, HM.out, rfl⟩
  case round =>
    obtain ⟨k, b, hk, rfl, rfl, HX, rfl⟩ := hrel
    by_cases hlt : k < (names p).length
    · have hx := HX.out
      rw [List.drop_eq_getElem_cons hlt, List.any_cons, ← bytes_dec] at hx
      rcases HSn.out with h0 | ⟨b3, i3, rfl, hat⟩
      · rw [h0] at hlt; cases hlt
      have d0 := hat k hlt
      generalize (names p)[k] = x at d0 hx
      obtain ⟨v1, h1⟩ : ∃ v, (x.toList == f.toList) = v := ⟨_, rfl⟩
      rw [h1] at hx
      clear hat
      cases b
      · have HX2 : Hid ((v1 || ((names p).drop (k + 1)).any (fun x => decide (x = f))) = M) := by have h := hx; rwa [Bool.false_or] at h
        clear hx
        go_wp2_with fail
        go_roundw
        case rel => exact ⟨k + 1, v1, by omega, by go_num, rfl, HX2.out, trivial⟩
        case measure => simp [intOf]; omega
      · have HX2 : Hid ((true || ((names p).drop (k + 1)).any (fun x => decide (x = f))) = M) := by show _ = _; rw [← hx, Bool.true_or, Bool.true_or]
        clear hx
        go_wp2_with fail
        go_roundw
        case rel => exact ⟨k + 1, true, by omega, by go_num, rfl, HX2.out, trivial⟩
        case measure => simp [intOf]; omega
    · have hx := HX.out
      rw [List.drop_of_length_le (by omega), List.any_nil, Bool.or_false] at hx
      subst hx
      clear HX
      cases b
      · have HR := Lib.hid (R9.out HV0.out (by trivial) (by trivial))
        have hz6 := HX6.out.below HBn.out
        have e0 := hz6.cell 0
        have e1 := hz6.cell 1
        have e2 := hz6.cell 2
        have g0 := hz6.free 0
        have g1 := hz6.free 1
        have g2 := hz6.free 2
        have hq6 := ((hz6.set 0 (u := .string ⟨#[]⟩)).set 1 (u := .slice none 0 0)).set 2 (u := .slice none 0 0)
        have q0 := hq6.cell 0
        have q1 := hq6.cell 1
        have q2 := hq6.cell 2
        simp at e0 e1 e2 q0 q1 q2
        have HVx : Hid (GivesRn w (rename p f t) (.returned (.tuple #[.agg #[.string ⟨#[]⟩, .slice none 0 0, .slice none 0 0], .int .i64 9])) (((wr.setCell ⟨w.heap.size + 1, 0, none⟩ (.string ⟨#[]⟩)).setCell ⟨w.heap.size + 1, 1, none⟩ (.slice none 0 0)).setCell ⟨w.heap.size + 1, 2, none⟩ (.slice none 0 0))) := by
          show GivesRn _ _ _ _
          rw [HR.out]
          exact ⟨none, 0, none, 0, rfl, ⟨Or.inl rfl, Or.inl rfl⟩, Nat.le_refl _, (((HW.out.trans (HBn.out.mono HW.out.size)).setCell (p := ⟨w.heap.size + 1, 0, none⟩) (Nat.le_succ _) _).setCell (p := ⟨w.heap.size + 1, 1, none⟩) (Nat.le_succ _) _).setCell (p := ⟨w.heap.size + 1, 2, none⟩) (Nat.le_succ _) _⟩
        clear hz6 hq6
        go_wp2_with fail
        refine bodyPost_ret (v := .tuple #[.agg #[.string ⟨#[]⟩, .slice none 0 0, .slice none 0 0], .int .i64 9]) (by simp [results, Tryz.results25, go_sem, q0, q1, q2]) rfl ?_
        exact HVx.out
      have hX36 := HX3.out.below HBn.out
      have m0 := hX36.cell 0
      have m1 := hX36.cell 1
      have m2 := hX36.cell 2
      simp at m0 m1 m2
      clear hX36
      go_wp2_with fail
      refine (HOc.out _ HBn.out).mono ?_; rintro e' w7 ⟨rfl, hb⟩
      have HB7 := Lib.hid (below_2 HBn.out hb)
      clear hb m0 m1 m2
      cases o
      case true =>
        have HR := Lib.hid (R8.out HV0.out (by trivial) (by trivial) (by trivial))
        have hz6 := HX6.out.below HB7.out
        have e0 := hz6.cell 0
        have e1 := hz6.cell 1
        have e2 := hz6.cell 2
        have g0 := hz6.free 0
        have g1 := hz6.free 1
        have g2 := hz6.free 2
        have hq6 := ((hz6.set 0 (u := .string ⟨#[]⟩)).set 1 (u := .slice none 0 0)).set 2 (u := .slice none 0 0)
        have q0 := hq6.cell 0
        have q1 := hq6.cell 1
        have q2 := hq6.cell 2
        simp at e0 e1 e2 q0 q1 q2
        have HVx : Hid (GivesRn w (rename p f t) (.returned (.tuple #[.agg #[.string ⟨#[]⟩, .slice none 0 0, .slice none 0 0], .int .i64 8])) (((w7.setCell ⟨w.heap.size + 1, 0, none⟩ (.string ⟨#[]⟩)).setCell ⟨w.heap.size + 1, 1, none⟩ (.slice none 0 0)).setCell ⟨w.heap.size + 1, 2, none⟩ (.slice none 0 0))) := by
          show GivesRn _ _ _ _
          rw [HR.out]
          exact ⟨none, 0, none, 0, rfl, ⟨Or.inl rfl, Or.inl rfl⟩, Nat.le_refl _, (((HW.out.trans (HB7.out.mono HW.out.size)).setCell (p := ⟨w.heap.size + 1, 0, none⟩) (Nat.le_succ _) _).setCell (p := ⟨w.heap.size + 1, 1, none⟩) (Nat.le_succ _) _).setCell (p := ⟨w.heap.size + 1, 2, none⟩) (Nat.le_succ _) _⟩
        clear hz6 hq6
        go_wp2_with fail
        refine bodyPost_ret (v := .tuple #[.agg #[.string ⟨#[]⟩, .slice none 0 0, .slice none 0 0], .int .i64 8]) (by simp [results, Tryz.results25, go_sem, q0, q1, q2]) rfl ?_
        exact HVx.out
      have HR := Lib.hid (R0.out HV0.out (by trivial) (by trivial) (by trivial))
      have hX37 := HX3.out.below HB7.out
      have i0 := hX37.cell 0
      have i2 := hX37.cell 2
      simp at i0 i2
      have HX37 := Lib.hid hX37
      have hz7 := HB7.out.size
      have hba7 := below_box w7 (.cells #[.string ⟨#[]⟩, .slice none 0 0, .slice none 0 0] 25)
      have l0 := (hba7.cell (block_lt_of_cell i0)).trans i0
      have l2 := (hba7.cell (block_lt_of_cell i2)).trans i2
      clear hX37 hba7
      go_upto_region 15 with fail
      go_cut [11] from 11 to 80 (fun v11 wx => ∃ (B : Nat) (pb : Option Addr) (qb : Nat), v11 = .pointer (some ⟨B, 0, none⟩) ∧ Hid (w4.heap.size ≤ B ∧ B < wx.heap.size) ∧ Hid (Bx wx B #[.string p.name, .slice none 0 0, .slice pb p.body.length qb] 25) ∧ Hid (BodiesF (fun j => j < w4.heap.size ∨ j = B) wx pb (renB f t p.body)) ∧ Hid (Below w4.heap.size w4 wx))
      case first =>
        go_region_with
          (go_at_call 51; (first
            | ((with_reducible refine (HRB.out _ HB7.out.drew).mono ?_); rintro e' w8 ⟨pb, qb, rfl, hkb, hbb⟩; have HB8 := Lib.hid (below_2 HB7.out.drew hbb); have HKb := Lib.hid hkb; have HBb := Lib.hid hbb; have hX8 := HX3.out.below HB8.out; have j0 := hX8.cell 0; simp at j0; have t0 := ((below_box w8 (.cells #[.string ⟨#[]⟩, .slice none 0 0, .slice none 0 0] 25)).cell (block_lt_of_cell j0)).trans j0; clear hkb hbb hX8)
            | ((with_reducible refine (HRB.out _ (below_2 HB7.out (below_box w7 (.cells #[.string ⟨#[]⟩, .slice none 0 0, .slice none 0 0] 25))).drew).mono ?_); rintro e' w8 ⟨pb, qb, rfl, hkb, hbb⟩; have HB8 := Lib.hid (below_2 (below_2 HB7.out (below_box w7 (.cells #[.string ⟨#[]⟩, .slice none 0 0, .slice none 0 0] 25))).drew hbb); have HKb := Lib.hid hkb; have HBb := Lib.hid hbb; have hX8 := HX3.out.below HB8.out; have j0 := hX8.cell 0; have hXB := Bx.below (w := (w7.alloc (.cells #[.string ⟨#[]⟩, .slice none 0 0, .slice none 0 0] 25)).drew) (Bx.new w7 #[.string ⟨#[]⟩, .slice none 0 0, .slice none 0 0] 25) hbb; have n0 := hXB.cell 0; have n1 := hXB.cell 1; have n2 := hXB.cell 2; have f0 := hXB.free 0; have f1 := hXB.free 1; have f2 := hXB.free 2; simp at j0 n0 n1 n2; have HXB := Lib.hid hXB; clear hkb hbb hX8 hXB)))
        all_goals
          have hzz8 := HB8.out.size
          have hzb8 := HBb.out.size
          first
            | (have hX9 := ((HXB.out.set 0 (u := .string p.name)).set 1 (u := .slice none 0 0)).set 2 (u := .slice pb p.body.length qb)
               simp only [List.setIfInBounds_toArray, List.set_cons_succ, List.set_cons_zero] at hX9
               have HX9 := Lib.hid hX9
               have hltB : w7.heap.size < w8.heap.size := HXB.out.lt
               go_wp2_with fail
               go_meet
               case rel =>
                 refine ⟨w7.heap.size, pb, qb, rfl, ⟨hz7, by simpa using hltB⟩, HX9.out, ?_, ((HB8.out.setCell (p := ⟨w7.heap.size, 0, none⟩) hz7 _).setCell (p := ⟨w7.heap.size, 1, none⟩) hz7 _).setCell (p := ⟨w7.heap.size, 2, none⟩) hz7 _⟩
                 show BodiesF _ _ _ _
                 rw [renB_map]
                 refine HKb.out.next ⟨fun j _ hz => ?_, fun j hj => Or.inl ?_⟩
                 · have hz2 : ¬ j < (w7.alloc (.cells #[.string ⟨#[]⟩, .slice none 0 0, .slice none 0 0] 25)).heap.size := hz
                   have hs7 : (w7.alloc (.cells #[.string ⟨#[]⟩, .slice none 0 0, .slice none 0 0] 25)).heap.size = w7.heap.size + 1 := by simp
                   have hne : j ≠ w7.heap.size := by omega
                   repeat rw [Below.heap_setCell _ _ _ _ (by exact hne)]
                 · have hs7 : (w7.alloc (.cells #[.string ⟨#[]⟩, .slice none 0 0, .slice none 0 0] 25)).heap.size = w7.heap.size + 1 := by simp
                   show j < (w7.alloc (.cells #[.string ⟨#[]⟩, .slice none 0 0, .slice none 0 0] 25)).heap.size
                   rcases hj with hj | hj <;> omega)
            | (go_wp2_with fail
               go_meet
               case rel =>
                 refine ⟨w8.heap.size, pb, qb, rfl, ⟨hzz8, by simp⟩, Bx.new w8 _ _, ?_, below_2 HB8.out (below_box w8 _)⟩
                 show BodiesF _ _ _ _
                 rw [renB_map]
                 refine HKb.out.next ⟨fun j hj _ => Below.heap_alloc w8 _ j hj, fun j hj => ?_⟩
                 rcases hj with hj | hj
                 · exact Or.inl (show j < w7.heap.size by omega)
                 · exact Or.inr (by omega))
      case rest =>
        obtain ⟨B, pb, qb, rfl, HBlt, HXB, HKB, HBx⟩ := hcut
        obtain ⟨hB1, hB2⟩ := HBlt.out
        have hzx := HBx.out.size
        clear i0 i2 l0 l2 HVal HIs HN HOc HRB R1 R7 R9 R8 R0 HV0 HSn HBn HB6 HB5 HB7 HM
        go_wp2_with fail
        go_loopw [12] (fun s12 wr => ∃ (k : Nat) (lt : List Pm) (pl : Option Addr) (ql : Nat), k ≤ m ∧ s12 = .int .i64 k ∧ Hid (lt = (p.params.take k).map (renP f t)) ∧ Hid (Bx wr B #[.string p.name, .slice pl lt.length ql, .slice pb p.body.length qb] 25) ∧ Hid (Own1 kP wr wc.heap.size (fun j => j < wc.heap.size) (.slice pl lt.length ql) lt) ∧ Hid (∀ j, j < wc.heap.size → j ≠ B → wr.heap[j]? = wc.heap[j]?) ∧ Hid (Below w4.heap.size w4 wr) ∧ wc.heap.size ≤ wr.heap.size) (fun s12 _ => m - (intOf s12).toNat)
        case atStart => exact ⟨0, [], none, 0, Nat.zero_le _, rfl, rfl, HXB.out, Own1.nil, fun _ _ _ => rfl, HBx.out, Nat.le_refl _⟩
        case round =>
          obtain ⟨k2, lt, pl, ql, hk2, rfl, HX2, HC, HO, HF, HBr, hzr⟩ := hrel
          have hllk : lt.length ≤ k2 := by have := congrArg List.length HX2.out; rw [List.length_map, List.length_take] at this; omega
          have hP3 := HX3.out.below HBr.out
          have y1' := hP3.cell 1
          have n1 := HC.out.cell 1
          simp at y1' n1
          clear hP3
          by_cases hlt2 : k2 < m
          · have hlx : k2 < p.params.length := by rw [HL.out]; exact hlt2
            obtain ⟨b3, i3, rfl, hcc⟩ := (HK.out wr HBr.out).open hlx
            obtain ⟨f0, f1⟩ := hcc k2 hlx
            have hxn := pms_take f t hlx
            generalize p.params[k2] = q at f0 f1 hxn
            have HXN : Hid (lt ++ [renP f t q] = (p.params.take (k2 + 1)).map (renP f t)) := by show _ = _; rw [hxn, HX2.out]
            have HOd := Lib.hid (HO.out.below (L.below_drew wr))
            have hba := below_box wr (.cells #[.string (swap f t q.name), .int .i64 q.ty] 49)
            have t2 : (wr.alloc (.cells #[.string (swap f t q.name), .int .i64 q.ty] 49)).cell? ⟨B, 1, none⟩ = some (.slice pl lt.length ql) := (hba.cell (block_lt_of_cell n1)).trans n1
            have HC7 : Hid (Bx wr.drew B #[.string p.name, .slice pl lt.length ql, .slice pb p.body.length qb] 25) := HC.out
            clear hcc hxn hba
            go_wp2_with fail
            go_region_law
              (first
                | (refine kP.step rfl (.tmp 61) (.tmp 78) rfl wc.heap.size (.slice pl lt.length ql) lt rfl HOd.out.row (renP f t q) _ rfl wr.heap.size rfl rfl (by omega) (by show wc.heap.size ≤ wr.heap.size; omega) ?_; intro g6 cap6 w6 hown6 hgrow6 hlie6; have HO6 := Lib.hid (HOd.out.push trivial (fun j hj => (show j < wr.heap.size by have h2 : j < wc.heap.size := hj; omega)) hown6 hgrow6 hlie6); have HG6 : Hid (∀ j, j < wc.heap.size → w6.heap[j]? = wr.heap[j]?) := (fun j hj => (hgrow6.block j (by simp; omega) (fun e => HO.out.off j e.symm hj)).trans (Below.heap_alloc wr.drew _ j (by show j < wr.heap.size; omega))); have hC6 := HC7.out.keep (w' := w6) (HG6.out B hB2); have r1 := hC6.cell 1; have r3 := hC6.free 1; simp at r1; have HC6 := Lib.hid hC6; have HF6 := Lib.hid (HOd.out.frame (Below.refl wc.heap.size wr.drew) (by show wc.heap.size ≤ wr.heap.size; omega) hgrow6); clear hown6 hgrow6 hlie6 hC6)
                | (go_simp; go_at_call 52; refine (HSW.out q.name _).mono ?_; rintro e' w9 ⟨rfl, rfl⟩))
            all_goals
              have HL6 : Hid ((lt ++ [renP f t q]).length = lt.length + 1) := by show _ = _; simp
              have hC8 := HC6.out.set 1 (u := .slice (some ⟨g6, 0, none⟩) (lt.length + 1) cap6)
              simp only [List.setIfInBounds_toArray, List.set_cons_succ, List.set_cons_zero] at hC8
              have HC8 := Lib.hid hC8
              have HO8 := Lib.hid (HO6.out.next (Z' := fun j => j < wc.heap.size) (w' := w6.setCell ⟨B, 1, none⟩ (.slice (some ⟨g6, 0, none⟩) (lt.length + 1) cap6)) ⟨fun j _ hz => Below.heap_setCell _ _ _ _ (show j ≠ B by have h2 : ¬ j < wc.heap.size := hz; omega), fun j hj => Or.inl hj⟩)
              have HF8 : Hid (∀ j, j < wc.heap.size → j ≠ B → (w6.setCell ⟨B, 1, none⟩ (.slice (some ⟨g6, 0, none⟩) (lt.length + 1) cap6)).heap[j]? = wc.heap[j]?) := fun j hj hne => (Below.heap_setCell _ _ _ _ (show j ≠ B by exact hne)).trans ((HG6.out j hj).trans (HF.out j hj hne))
              have HB8 : Hid (Below w4.heap.size w4 (w6.setCell ⟨B, 1, none⟩ (.slice (some ⟨g6, 0, none⟩) (lt.length + 1) cap6))) := (HBr.out.drew.trans (HF6.out.mono hzx)).setCell (p := ⟨B, 1, none⟩) hB1 _
              have hz6 : wc.heap.size ≤ (w6.setCell ⟨B, 1, none⟩ (.slice (some ⟨g6, 0, none⟩) (lt.length + 1) cap6)).heap.size := by have h1 : wr.heap.size ≤ w6.heap.size := HF6.out.size; rw [World.size_setCell]; omega
              clear hC8
              go_wp2_with fail
              go_roundw
              case rel => exact ⟨k2 + 1, lt ++ [renP f t q], some ⟨g6, 0, none⟩, cap6, by omega, by go_num, HXN.out, by show Bx _ _ _ _; rw [HL6.out]; exact HC8.out, by show Own1 _ _ _ _ _ _; rw [HL6.out]; exact HO8.out, HF8.out, HB8.out, hz6⟩
              case measure => simp [intOf]; omega
          · have hX := HX2.out
            rw [List.take_of_length_le (by rw [HL.out]; omega)] at hX
            have hXR : lt = (ren f t p).params := hX
            have hlt3 : lt.length = (ren f t p).params.length := by rw [hXR]
            have hbl : p.body.length = (ren f t p).body.length := by show _ = (renB f t p.body).length; rw [renB_map, List.length_map]
            have n0 := HC.out.cell 0
            have n2 := HC.out.cell 2
            simp at n0 n2
            have hz6 := HX6.out.below HBr.out
            have e0 := hz6.cell 0
            have e1 := hz6.cell 1
            have e2 := hz6.cell 2
            have g0 := hz6.free 0
            have g1 := hz6.free 1
            have g2 := hz6.free 2
            have hq6 := ((hz6.set 0 (u := .string p.name)).set 1 (u := .slice pl lt.length ql)).set 2 (u := .slice pb p.body.length qb)
            have q0 := hq6.cell 0
            have q1 := hq6.cell 1
            have q2 := hq6.cell 2
            simp at e0 e1 e2 q0 q1 q2
            have hWb : ∀ j, j ≠ w.heap.size + 1 → (((wr.setCell ⟨w.heap.size + 1, 0, none⟩ (.string p.name)).setCell ⟨w.heap.size + 1, 1, none⟩ (.slice pl lt.length ql)).setCell ⟨w.heap.size + 1, 2, none⟩ (.slice pb p.body.length qb)).heap[j]? = wr.heap[j]? := fun j hj => by
              rw [Below.heap_setCell _ _ _ _ (by exact hj), Below.heap_setCell _ _ _ _ (by exact hj), Below.heap_setCell _ _ _ _ (by exact hj)]
            have hO9 := HO.out.next (Z' := fun j => j < wc.heap.size) (w' := (((wr.setCell ⟨w.heap.size + 1, 0, none⟩ (.string p.name)).setCell ⟨w.heap.size + 1, 1, none⟩ (.slice pl lt.length ql)).setCell ⟨w.heap.size + 1, 2, none⟩ (.slice pb p.body.length qb))) ⟨fun j _ hz => hWb j (by have h2 : ¬ j < wc.heap.size := hz; omega), fun j hj => Or.inl hj⟩
            have hp9 := Eq.mp (congrArg (PmsAt (((wr.setCell ⟨w.heap.size + 1, 0, none⟩ (.string p.name)).setCell ⟨w.heap.size + 1, 1, none⟩ (.slice pl lt.length ql)).setCell ⟨w.heap.size + 1, 2, none⟩ (.slice pb p.body.length qb)) pl) hXR) (PmsAt.sub (hollow_now _ _) hO9.pms)
            have hk9 := ((HKB.out.next (Z' := fun j => j < w4.heap.size ∨ j = B) (w' := wr) ⟨fun j hj hz => HF.out j hj (fun e => hz (Or.inr e)), fun j hj => Or.inl hj⟩).next (Z' := fun j => j < w4.heap.size ∨ j = B) (w' := (((wr.setCell ⟨w.heap.size + 1, 0, none⟩ (.string p.name)).setCell ⟨w.heap.size + 1, 1, none⟩ (.slice pl lt.length ql)).setCell ⟨w.heap.size + 1, 2, none⟩ (.slice pb p.body.length qb))) ⟨fun j _ hz => hWb j (fun e => hz (Or.inl (by omega))), fun j hj => Or.inl hj⟩).now
            obtain ⟨_, _, hsh, hle⟩ := HO.out.shape
            have hq : lt.length ≤ ql := by injection hsh with h1 h2 h3; omega
            have HVx : Hid (GivesRn w (rename p f t) (.returned (.tuple #[.agg #[.string p.name, .slice pl lt.length ql, .slice pb p.body.length qb], .int .i64 0])) (((wr.setCell ⟨w.heap.size + 1, 0, none⟩ (.string p.name)).setCell ⟨w.heap.size + 1, 1, none⟩ (.slice pl lt.length ql)).setCell ⟨w.heap.size + 1, 2, none⟩ (.slice pb p.body.length qb))) := by
              show GivesRn _ _ _ _
              rw [HR.out]
              refine ⟨pl, ql, pb, qb, ?_, ⟨hp9, hk9⟩, ?_, (((HW.out.trans (HBr.out.mono HW.out.size)).setCell (p := ⟨w.heap.size + 1, 0, none⟩) (Nat.le_succ _) _).setCell (p := ⟨w.heap.size + 1, 1, none⟩) (Nat.le_succ _) _).setCell (p := ⟨w.heap.size + 1, 2, none⟩) (Nat.le_succ _) _⟩
              · show _ = Ending.returned (.tuple #[prV (ren f t p) pl ql pb qb, .int .i64 0])
                unfold prV
                rw [← hlt3, ← hbl]
                rfl
              · show (ren f t p).params.length ≤ ql
                rw [← hlt3]; exact hq
            clear hz6 hq6 hWb hO9 hp9 hk9 hsh hle hq hXR hlt3 hbl hX
            go_wp2_with fail
            refine bodyPost_ret (v := .tuple #[.agg #[.string p.name, .slice pl lt.length ql, .slice pb p.body.length qb], .int .i64 0]) (by simp [results, Tryz.results25, go_sem, q0, q1, q2]) rfl ?_
            exact HVx.out
end Go.Proofs.YtnelpgeiioflmaaGreatDoor.A
