/-
  What the program's functions of layer 8 return: slices.Equal of parameters, Equal: contracts.
  What the reference of layer 8 returns: Equal: a contract.
-/
import Derived.Test.YteglaeopaocilaaGreatDoorM16
import Derived.Test.YteglaeopaocilaaGreatDoorM13
import Derived.BigQuiet
namespace Go.Proofs.YteglaeopaocilaaGreatDoor.A
open Go.RowKit
open L (Str isName prt size_len below_2 below_box ret_bool ret_int eql_eq bytes_eq)

def eqPm : List Pm → List Pm → Bool
  | [], [] => true
  | x :: r, y :: r2 => (decide (x.name = y.name) && decide (x.ty = y.ty)) && eqPm r r2
  | _, _ => false
theorem eqPm_maps : ∀ l m : List Pm, eqPm l m = (decide (l.map Pm.name = m.map Pm.name) && decide (l.map Pm.ty = m.map Pm.ty))
  | [], [] => rfl
  | [], y :: r => by simp [eqPm]
  | x :: r, [] => by simp [eqPm]
  | x :: r, y :: r2 => by
    rw [eqPm, eqPm_maps r r2]
    simp only [List.map_cons, List.cons.injEq, Bool.decide_and]
    cases decide (x.name = y.name) <;> cases decide (x.ty = y.ty) <;> cases decide (r.map Pm.name = r2.map Pm.name) <;> rfl
theorem eqPm_len : ∀ {l m : List Pm}, ¬ l.length = m.length → eqPm l m = false
  | [], [], h => absurd rfl h
  | [], y :: r, _ => rfl
  | x :: r, [], _ => rfl
  | x :: r, y :: r2, h => by rw [eqPm, eqPm_len (l := r) (m := r2) (by simpa using h), Bool.and_false]
set_option maxHeartbeats 4000000 in
set_option maxRecDepth 100000 in
theorem oequalParams_any (l l2 : List Pm) (a : Option Addr) (c : Nat) (a2 : Option Addr) (c2 : Nat) (hl : l.length ≤ 1000000000000000) (hl2 : l2.length ≤ 1000000000000000) (w : World) (hK : PmsAt w a l) (hK2 : PmsAt w a2 l2) :
    Calls Tryz.prog 40 #[.slice a l.length c, .slice a2 l2.length c2] w fun e' w' => e' = .returned (.bool (eqPm l l2)) ∧ Below w.heap.size w w' := by
  have HK := Lib.hid hK
  have HK2 := Lib.hid hK2
  obtain ⟨R, hR⟩ : ∃ R, eqPm l l2 = R := ⟨_, rfl⟩
  rw [hR]
  have hRl := fun h => hR.symm.trans (eqPm_len (l := l) (m := l2) h)
  have HR : Hid (eqPm (l.drop 0) (l2.drop 0) = R) := hR
  obtain ⟨g, hg⟩ : ∃ g, l.length = g := ⟨_, rfl⟩
  obtain ⟨g2, hg2⟩ : ∃ g, l2.length = g := ⟨_, rfl⟩
  have HL := Lib.hid hg
  have HL2 := Lib.hid hg2
  rw [hg] at hl hRl ⊢
  rw [hg2] at hl2 hRl ⊢
  clear hK hK2 hg hg2 hR
  by_cases h4 : g = g2
  · have b4 : ((g : Int) != (g2 : Int)) = false := by rw [bne_eq_false_iff_eq]; omega
    subst h4
    clear hRl
    go_enter Tryz.func40, Tryz.ntmps40
    go_wp2_with fail
    go_loopw [13] (fun s13 wr => ∃ k : Nat, k ≤ g ∧ s13 = .int .i64 k ∧ Hid (eqPm (l.drop k) (l2.drop k) = R) ∧ Hid (Below w.heap.size w wr)) (fun s13 _ => g - (intOf s13).toNat)
    case atStart => exact ⟨0, Nat.zero_le _, rfl, HR, Below.refl _ _⟩
    case round =>
      obtain ⟨k, hk, rfl, HX, HB⟩ := hrel
      by_cases hlt : k < g
      · have hlx : k < l.length := by rw [HL.out]; exact hlt
        have hly : k < l2.length := by rw [HL2.out]; exact hlt
        have hx := HX.out
        rw [List.drop_eq_getElem_cons hlx, List.drop_eq_getElem_cons hly, eqPm, ← bytes_dec] at hx
        obtain ⟨b2', i2, rfl, hat⟩ := (HK.out.below HB.out).open hlx
        obtain ⟨b3', i3, rfl, hat2⟩ := (HK2.out.below HB.out).open hly
        obtain ⟨d0, d1⟩ := hat k hlx
        obtain ⟨f0, f1⟩ := hat2 k hly
        have HBd := Lib.hid HB.out.drew
        generalize l[k] = x at d0 d1 hx
        generalize l2[k] = y at f0 f1 hx
        rw [← Bool.beq_eq_decide_eq] at hx
        obtain ⟨v1, h1⟩ : ∃ v, (x.name.toList == y.name.toList) = v := ⟨_, rfl⟩
        obtain ⟨v2, h2⟩ : ∃ v, (x.ty == y.ty) = v := ⟨_, rfl⟩
        rw [h1, h2] at hx
        have HXX := Lib.hid hx
        clear hat hat2 hx
        cases v1 <;> cases v2
        case true.true =>
          have HN : Hid (eqPm (l.drop (k + 1)) (l2.drop (k + 1)) = R) := by have h := HXX.out; rwa [Bool.true_and, Bool.true_and] at h
          go_wp2_with fail
          go_quiet (fail)
          go_wp2_with fail
          go_roundw
          case rel => exact ⟨k + 1, by omega, by go_num, HN, below_2 HB.out (below_dn _ _)⟩
          case measure => simp [intOf]; omega
        all_goals
          have HV : Hid (false = R) := by show _ = _; have h := HXX.out; simpa using h
          go_wp2_with fail
          go_quiet (fail)
          go_wp2_with fail
          go_ret
          exact ⟨ret_bool HV.out, below_2 HB.out (below_dn _ _)⟩
      · have HV : Hid (R = true) := by
          show _ = _
          rw [← HX.out, List.drop_of_length_le (by rw [HL.out]; omega), List.drop_of_length_le (by rw [HL2.out]; omega), eqPm]
        go_wp2_with fail
        go_ret
        exact ⟨ret_bool HV.out.symm, HB.out⟩
  · have b4 : ((g : Int) != (g2 : Int)) = true := bne_iff_ne.2 (by omega)
    have HV := Lib.hid (hRl h4)
    clear h4 hRl
    go_enter Tryz.func40, Tryz.ntmps40
    go_wp2_with fail
    go_ret
    exact ⟨ret_bool HV.out.symm, Below.refl _ _⟩
theorem eqP_parts (p q : Pr) : eqP p q = ((p.name.toList == q.name.toList) && eqPm p.params q.params && eqB p.body q.body) := by
  unfold eqP
  rw [bytes_dec, eqPm_maps]
  simp only [Bool.and_assoc]
set_option maxHeartbeats 4000000 in
set_option maxRecDepth 100000 in
theorem oequal_any (p q : Pr) (a1 a2 e1 e2 : Option Addr) (c1 c2 g1 g2 : Nat) (hok : OkP p) (hok2 : OkP q) (w : World) (hK : PrIn w p a1 a2) (hK2 : PrIn w q e1 e2) :
    Calls Tryz.prog 15 #[prV p a1 c1 a2 c2, prV q e1 g1 e2 g2] w fun e' w' => e' = .returned (.bool (eqP p q)) ∧ Below w.heap.size w w' := by
  have hw := below_2 (below_box w (prO p a1 c1 a2 c2)) (below_box (w.alloc (prO p a1 c1 a2 c2)) (prO q e1 g1 e2 g2))
  have hx1 := (Bx.new w #[.string p.name, .slice a1 p.params.length c1, .slice a2 p.body.length c2] 25).below (below_box _ (prO q e1 g1 e2 g2))
  have hx2 := Bx.new (w.alloc (prO p a1 c1 a2 c2)) #[.string q.name, .slice e1 q.params.length g1, .slice e2 q.body.length g2] 25
  rw [show (w.alloc (prO p a1 c1 a2 c2)).heap.size = w.heap.size + 1 by simp] at hx2
  have HX1 := Lib.hid hx1
  have HX2 := Lib.hid hx2
  have HW := Lib.hid hw
  have hC := oequalParams_any p.params q.params a1 c1 e1 g1 hok.params hok2.params _ (hK.params.below hw) (hK2.params.below hw)
  have HC := Lib.hid hC
  have HF := Lib.hid (fun w' (hb : Below w.heap.size w w') => oeqFuncS_any p.body q.body a2 c2 e2 g2 hok.bodyLen hok2.bodyLen hok.body hok2.body w' (hK.body.below hb) (hK2.body.below hb))
  rw [eqP_parts]
  obtain ⟨b1, h1⟩ : ∃ b, (p.name.toList == q.name.toList) = b := ⟨_, rfl⟩
  rw [h1]
  generalize eqPm p.params q.params = y1 at HC ⊢
  generalize eqB p.body q.body = y2 at HF ⊢
  have x0 := hx1.cell 0
  have x1 := hx1.cell 1
  have z0 := hx2.cell 0
  have z1 := hx2.cell 1
  simp at x0 x1 z0 z1
  unfold prO at *
  unfold prV
  clear hw hC hok hok2 hK hK2 hx1 hx2
  cases b1
  · go_enter Tryz.func15, Tryz.ntmps15
    go_wp2_with fail
    go_ret
    exact ⟨rfl, HW.out⟩
  cases y1
  · go_enter Tryz.func15, Tryz.ntmps15
    go_wp2_with fail
    refine HC.out.mono ?_; rintro e w2 ⟨rfl, hb2⟩
    have HB2 := Lib.hid (below_2 HW.out hb2)
    clear hb2
    go_wp2_with fail
    go_ret
    exact ⟨rfl, HB2.out⟩
  go_enter Tryz.func15, Tryz.ntmps15
  go_wp2_with fail
  refine HC.out.mono ?_; rintro e w2 ⟨rfl, hb2⟩
  have HB2 := Lib.hid (below_2 HW.out hb2)
  have x2 := (HX1.out.below hb2).cell 2
  have z2 := (HX2.out.below hb2).cell 2
  simp at x2 z2
  clear hb2 x0 x1 z0 z1
  go_wp2_with fail
  refine (HF.out _ HB2.out).mono ?_; rintro e w3 ⟨rfl, hb3⟩
  have HB3 := Lib.hid (below_2 HB2.out hb3)
  clear hb3
  go_wp2_with fail
  go_ret
  exact ⟨ret_bool (by simp), HB3.out⟩
end Go.Proofs.YteglaeopaocilaaGreatDoor.A
namespace Go.Proofs.YteglaeopaocilaaGreatDoor.A
open Go.RowKit
open L (Str isName prt size_len below_2 below_box ret_bool ret_int eql_eq bytes_eq)

set_option maxHeartbeats 4000000 in
set_option maxRecDepth 100000 in
theorem requal_any (p q : Pr) (a1 a2 e1 e2 : Option Addr) (c1 c2 g1 g2 : Nat) (hok : OkP p) (hok2 : OkP q) (w : World) (hK : PrIn w p a1 a2) (hK2 : PrIn w q e1 e2) :
    Calls Tryz.prog 21 #[prV p a1 c1 a2 c2, prV q e1 g1 e2 g2] w fun e' w' => e' = .returned (.bool (eqP p q)) ∧ Below w.heap.size w w' := by
  have hw := below_2 (below_box w (prO p a1 c1 a2 c2)) (below_box (w.alloc (prO p a1 c1 a2 c2)) (prO q e1 g1 e2 g2))
  have hx1 := (Bx.new w #[.string p.name, .slice a1 p.params.length c1, .slice a2 p.body.length c2] 25).below (below_box _ (prO q e1 g1 e2 g2))
  have hx2 := Bx.new (w.alloc (prO p a1 c1 a2 c2)) #[.string q.name, .slice e1 q.params.length g1, .slice e2 q.body.length g2] 25
  rw [show (w.alloc (prO p a1 c1 a2 c2)).heap.size = w.heap.size + 1 by simp] at hx2
  have HX1 := Lib.hid hx1
  have HX2 := Lib.hid hx2
  have HW := Lib.hid hw
  have HKp := Lib.hid (hK.params.below hw)
  have HKq := Lib.hid (hK2.params.below hw)
  have HF := Lib.hid (fun w' (hb : Below w.heap.size w w') => requalBody_any p.body q.body a2 c2 e2 g2 hok.bodyLen hok2.bodyLen hok.body hok2.body w' (hK.body.below hb) (hK2.body.below hb))
  rw [eqP_parts]
  obtain ⟨b1, h1⟩ : ∃ b, (p.name.toList == q.name.toList) = b := ⟨_, rfl⟩
  rw [h1]
  have hRl : ¬ p.params.length = q.params.length → eqPm p.params q.params = false := eqPm_len
  obtain ⟨R, hR⟩ : ∃ R, eqPm p.params q.params = R := ⟨_, rfl⟩
  rw [hR] at hRl ⊢
  have HR : Hid (eqPm (p.params.drop 0) (q.params.drop 0) = R) := hR
  generalize eqB p.body q.body = y2 at HF ⊢
  have hl := hok.params
  have hl2 := hok2.params
  obtain ⟨g, hg⟩ : ∃ g, p.params.length = g := ⟨_, rfl⟩
  obtain ⟨g2', hg2⟩ : ∃ g, q.params.length = g := ⟨_, rfl⟩
  have HL := Lib.hid hg
  have HL2 := Lib.hid hg2
  unfold prO at *
  unfold prV
  rw [hg] at HX1 HX2 HW HKp HKq hRl hl ⊢
  rw [hg2] at HX1 HX2 HW HKp HKq hRl hl2 ⊢
  clear hw hok hok2 hK hK2 hx1 hx2 hg hg2 hR
  cases b1
  · go_enter Tryz.func21, Tryz.ntmps21
    go_wp2_with fail
    go_ret
    exact ⟨rfl, HW.out⟩
  by_cases h4 : g = g2'
  · have b4 : ((g : Int) != (g2' : Int)) = false := by rw [bne_eq_false_iff_eq]; omega
    subst h4
    clear hRl
    go_enter Tryz.func21, Tryz.ntmps21
    go_wp2_with fail
    go_loopw [5] (fun s5 wr => ∃ k : Nat, k ≤ g ∧ s5 = .int .i64 k ∧ Hid (eqPm (p.params.drop k) (q.params.drop k) = R) ∧ Hid (Below ((w.alloc (.cells #[.string p.name, .slice a1 g c1, .slice a2 p.body.length c2] 25)).alloc (.cells #[.string q.name, .slice e1 g g1, .slice e2 q.body.length g2] 25)).heap.size ((w.alloc (.cells #[.string p.name, .slice a1 g c1, .slice a2 p.body.length c2] 25)).alloc (.cells #[.string q.name, .slice e1 g g1, .slice e2 q.body.length g2] 25)) wr)) (fun s5 _ => g - (intOf s5).toNat)
    case atStart => exact ⟨0, Nat.zero_le _, rfl, HR, Below.refl _ _⟩
    case round =>
      obtain ⟨k, hk, rfl, HX, HB⟩ := hrel
      have hX1 := HX1.out.below HB.out
      have hX2 := HX2.out.below HB.out
      have x0' := hX1.cell 0
      have x1' := hX1.cell 1
      have x2' := hX1.cell 2
      have z0' := hX2.cell 0
      have z1' := hX2.cell 1
      have z2' := hX2.cell 2
      simp at x0' x1' x2' z0' z1' z2'
      clear hX1 hX2
      have HBB := Lib.hid (below_2 HW.out HB.out)
      by_cases hlt : k < g
      · have hlx : k < p.params.length := by rw [HL.out]; exact hlt
        have hly : k < q.params.length := by rw [HL2.out]; exact hlt
        have hx := HX.out
        rw [List.drop_eq_getElem_cons hlx, List.drop_eq_getElem_cons hly, eqPm, ← bytes_dec] at hx
        obtain ⟨b2', i2, rfl, hat⟩ := (HKp.out.below HB.out).open hlx
        obtain ⟨b3', i3, rfl, hat2⟩ := (HKq.out.below HB.out).open hly
        obtain ⟨d0, d1⟩ := hat k hlx
        obtain ⟨f0, f1⟩ := hat2 k hly
        generalize p.params[k] = x at d0 d1 hx
        generalize q.params[k] = y at f0 f1 hx
        rw [← Bool.beq_eq_decide_eq] at hx
        obtain ⟨v1, h1⟩ : ∃ v, (x.name.toList == y.name.toList) = v := ⟨_, rfl⟩
        obtain ⟨v2, h2⟩ : ∃ v, (x.ty == y.ty) = v := ⟨_, rfl⟩
        rw [h1, h2] at hx
        have HXX := Lib.hid hx
        clear hat hat2 hx
        cases v1 <;> cases v2
        case true.true =>
          have HN : Hid (eqPm (p.params.drop (k + 1)) (q.params.drop (k + 1)) = R) := by have h := HXX.out; rwa [Bool.true_and, Bool.true_and] at h
          go_wp2_with fail
          go_quiet (fail)
          go_wp2_with fail
          go_roundw
          case rel => exact ⟨k + 1, by omega, by go_num, HN, below_2 HB.out (below_dn _ _)⟩
          case measure => simp [intOf]; omega
        all_goals
          have HV : Hid (false = R) := by show _ = _; have h := HXX.out; simpa using h
          go_wp2_with fail
          go_quiet (fail)
          go_wp2_with fail
          go_ret
          exact ⟨ret_bool (by rw [← HV.out]; rfl), below_2 HBB.out (below_dn _ _)⟩
      · have HV : Hid (R = true) := by
          show _ = _
          rw [← HX.out, List.drop_of_length_le (by rw [HL.out]; omega), List.drop_of_length_le (by rw [HL2.out]; omega), eqPm]
        go_wp2_with fail
        refine (HF.out _ HBB.out).mono ?_; rintro e w3 ⟨rfl, hb3⟩
        have HB3 := Lib.hid (below_2 HBB.out hb3)
        clear hb3
        go_wp2_with fail
        go_ret
        exact ⟨ret_bool (by rw [HV.out]; simp), HB3.out⟩
  · have b4 : ((g : Int) != (g2' : Int)) = true := bne_iff_ne.2 (by omega)
    have HV := Lib.hid (hRl h4)
    clear h4 hRl
    go_enter Tryz.func21, Tryz.ntmps21
    go_wp2_with fail
    go_ret
    exact ⟨ret_bool (by rw [HV.out]; simp), HW.out⟩
end Go.Proofs.YteglaeopaocilaaGreatDoor.A
