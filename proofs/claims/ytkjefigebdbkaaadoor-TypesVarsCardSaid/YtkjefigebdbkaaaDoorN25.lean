/-
  The reference of layer 11: Vars: contract.
  Plain mathematics of layer 8: what a renamed procedure fits; what the laws on Rename ask of it.
  The laws of layer 11: Vars is the specification's.
-/
import Derived.Test.YtkjefigebdbkaaaDoorN19
import Derived.Test.YtkjefigebdbkaaaDoorN24
import Derived.Test.YtkjefigebdbkaaaDoorN22
import Derived.Test.YtkjefigebdbkaaaDoorN13
import Derived.Test.YtkjefigebdbkaaaDoorN12
import Derived.Test.YtkjefigebdbkaaaDoorTYProc
import Derived.Test.YtkjefigebdbkaaaDoorN09
import Derived.Test.YtkjefigebdbkaaaDoorTAFacts
import Derived.Test.YtkjefigebdbkaaaDoorTYLD
namespace Go.Proofs.YtkjefigebdbkaaaDoor.Y
open Go.RowKit
open L (Str isName prt size_len below_2 below_box ret_bool ret_int eql_eq bytes_eq)
open A (Ex St Pm Pr Bx PmsAt PrIn OkP prV prO VT V vcs vs walk RowK Own1 Stays exV exV_mk okE)

theorem vaF_take {p : List Pm} {l : List V} {k : Nat} (h : k < l.length) : vaF p (l.take (k + 1)) = match l[k] with | .st s _ => vaS (vaF p (l.take k)) s | .ex _ _ => vaF p (l.take k) := by
  rw [List.take_succ_eq_append_getElem h, vaF_app]
  cases l[k] with
  | st s d => rw [vaF, vaF]
  | ex e b => rw [vaF, vaF]
theorem chk_nil {p : Pr} (h : (chk p).2 ≠ 0) : (chk p).1 = [] := by
  unfold chk at h ⊢
  split
  · rfl
  · split
    · rfl
    · split
      · rfl
      · split
        · rfl
        · rename_i h1 h2 h3 h4
          rw [if_neg h1, if_neg h2, if_neg h3, if_neg h4] at h
          exact absurd rfl h
theorem vaS_len (out : List Pm) (s : St) : (vaS out s).length ≤ out.length + 1 := by
  unfold vaS
  split
  · simp
  · split <;> simp
theorem vaF_len : ∀ (l : List V) (out : List Pm), (vaF out l).length ≤ out.length + l.length
  | [], out => by rw [vaF]; simp
  | .st s d :: r, out => by
    rw [vaF]
    have h1 := vaF_len r (vaS out s)
    have h2 := vaS_len out s
    simp only [List.length_cons]
    omega
  | .ex e b :: r, out => by
    rw [vaF]
    have h1 := vaF_len r out
    simp only [List.length_cons]
    omega
set_option maxHeartbeats 16000000 in
set_option maxRecDepth 100000 in
theorem rVars_any (p : Pr) (a1 a2 : Option Addr) (c1 c2 : Nat) (hok : OkP p) (hsz : A.cB p.body ≤ 80000) (hpl : p.params.length ≤ 1000) (w : World) (hK : PrIn w p a1 a2) :
    Calls Tryd.prog 11 #[prV p a1 c1 a2 c2] w (GivesV w (chk p).1) := by
  have hb := below_box w (prO p a1 c1 a2 c2)
  have hbx := Bx.new w #[.string p.name, .slice a1 p.params.length c1, .slice a2 p.body.length c2] 25
  have HC := Lib.hid (rCheck_any p a1 a2 c1 c2 hok (by omega) (by omega) _ (hK.below hb))
  have HWl := Lib.hid (fun w' hb' => rwalk2_any p a1 a2 c1 c2 hok.body hok.bodyLen (w.alloc (prO p a1 c1 a2 c2)) w' hb' (hK.below hb).body)
  have HVO := Lib.hid (A.walk_ok hok.body (by omega))
  have HN0 : Hid ((chk p).2 ≠ 0 → (chk p).1 = []) := chk_nil
  have HVF : Hid ((chk p).2 = 0 → vaF p.params (walk p) = (chk p).1) := fun h => ((chk_main p).2 h).vars
  have hz : (w.alloc (prO p a1 c1 a2 c2)).heap.size = w.heap.size + 1 := by simp [prO]
  have HZ := Lib.hid hz
  rw [← (chk_main p).1] at HC
  have HB := Lib.hid hb
  have HX := Lib.hid hbx
  have HP := Lib.hid (hK.below hb).params
  have hn : (walk p).length ≤ 401 := by unfold walk; rw [List.length_take]; omega
  have HNW := Lib.hid hn
  generalize chk p = R at *
  obtain ⟨r1, z⟩ := R
  unfold prO at *
  unfold prV at *
  obtain ⟨m, hm⟩ : ∃ m, p.params.length = m := ⟨_, rfl⟩
  have HM := Lib.hid hm
  rw [hm] at HC HWl HB HX HP HZ hpl ⊢
  clear hb hbx hok hK hsz hm hz
  obtain ⟨W0, eW⟩ : ∃ W, W = w.alloc (.cells #[.string p.name, .slice a1 m c1, .slice a2 p.body.length c2] 25) := ⟨_, rfl⟩
  rw [← eW] at HC HWl HB HX HP HZ
  have HW0 : Hid (w.alloc (.cells #[.string p.name, .slice a1 m c1, .slice a2 p.body.length c2] 25) = W0) := eW.symm
  clear eW
  by_cases hz : z = 0
  case neg =>
    have b1 : (z != 0) = true := bne_iff_ne.2 hz
    have HR : Hid (r1 = []) := HN0.out hz
    have x0 := HX.out.cell 0
    have x1 := HX.out.cell 1
    have x2 := HX.out.cell 2
    simp only [List.getElem?_toArray, List.getElem?_cons_zero, List.getElem?_cons_succ] at x0 x1 x2
    clear hz
    go_enter Tryd.func11, Tryd.ntmps11
    go_upto_region 1 with fail
    rw [HW0.out]
    go_wp2_with fail
    refine HC.out.mono ?_; rintro e' w2 ⟨rfl, hb2⟩
    have HB2 := Lib.hid (below_2 HB.out hb2)
    clear hb2
    go_wp2_with fail
    go_ret
    exact ⟨none, 0, by rw [HR.out]; rfl, by rw [HR.out]; exact Nat.le_refl _, Or.inl HR.out, HB2.out⟩
  subst hz
  have HVf := Lib.hid (HVF.out rfl)
  have x0 := HX.out.cell 0
  have x1 := HX.out.cell 1
  have x2 := HX.out.cell 2
  simp only [List.getElem?_toArray, List.getElem?_cons_zero, List.getElem?_cons_succ] at x0 x1 x2
  go_enter Tryd.func11, Tryd.ntmps11
  go_upto_region 1 with fail
  rw [HW0.out]
  go_wp2_with fail
  refine HC.out.mono ?_; rintro e' w2 ⟨rfl, hb2⟩
  have HB2 := Lib.hid hb2
  have hs2 := hb2.size
  have hx2 := HX.out.below hb2
  have y0 := hx2.cell 0
  have y1 := hx2.cell 1
  have y2 := hx2.cell 2
  simp only [List.getElem?_toArray, List.getElem?_cons_zero, List.getElem?_cons_succ] at y0 y1 y2
  have HX2 := Lib.hid hx2
  clear hb2 hx2 x0 x1 x2
  rw [HZ.out] at hs2
  have HS2 := Lib.hid hs2
  clear hs2
  go_wp2_with (at_builtin; refine wpList_append_pms rfl (.tmp 12) (.tmp 14) rfl (w.heap.size + 1) (fun j => j < w.heap.size + 1) none 0 0 [] p.params rfl rfl Own1.nil a1 m c1 HM.out.symm rfl (HP.out.below HB2.out) (by rw [HM.out]; simp; omega) HS2.out (fun _ h => h) ?_; intro p4 q4 w4 hown4 hgrow4; have HO4 : Hid (Own1 kP w4 (w.heap.size + 1) (fun j => j < w.heap.size + 1) (.slice p4 p.params.length q4) p.params) := hown4; have HB4 : Hid (Below w2.heap.size w2 w4) := (Below.refl _ _).grown hgrow4 (Nat.le_refl _) (fun k hk => by cases hk); have z0 := (HX2.out.below HB4.out).cell 0; have z1 := (HX2.out.below HB4.out).cell 1; have z2 := (HX2.out.below HB4.out).cell 2; simp only [List.getElem?_toArray, List.getElem?_cons_zero, List.getElem?_cons_succ] at z0 z1 z2; rw [Nat.zero_add]; clear hown4 hgrow4)
  have HC4 := Lib.hid (HWl.out w4 (below_2 HB2.out HB4.out))
  refine HC4.out.mono ?_; rintro e' w5 ⟨p3, q3, l', rfl, ho, hi, hv, hb5, hlie⟩
  have HO5 := Lib.hid ho
  have HI := Lib.hid hi
  have HW5 := Lib.hid hv
  have HR5 := Lib.hid (HO4.out.below hb5)
  have HLie := Lib.hid hlie
  have hln : l'.length ≤ 401 := by rw [← A.vs_len, hv]; exact HNW.out
  have HLN := Lib.hid hln
  have HB05 : Hid (Below (w.heap.size + 1) W0 w5) := by have h := below_2 (below_2 HB2.out HB4.out) hb5; rw [HZ.out] at h; exact h
  have hs5 : w.heap.size + 1 ≤ w5.heap.size := by have := HB4.out.size; have := HS2.out; have := hb5.size; omega
  have HS5 := Lib.hid hs5
  clear ho hi hv hb5 hlie hs5 y0 y1 y2 z0 z1 z2
  go_wp2_with fail
  go_loopw [3, 5] (fun s3 s5 w6 => ∃ (k2 : Nat) (l2 : List Pm) (pl : Option Addr) (ql : Nat), k2 ≤ l'.length ∧ s5 = .int .i64 k2 ∧ s3 = .slice pl l2.length ql ∧ Hid (l2 = vaF p.params ((walk p).take k2)) ∧ Hid (Own1 kP w6 (w.heap.size + 1) (fun j => j < w.heap.size + 1) (.slice pl l2.length ql) l2) ∧ Hid (∀ g, p3 = some ⟨g, 0, none⟩ → w6.heap[g]? = w5.heap[g]? ∧ (Value.slice pl l2.length ql).ownBlock ≠ some g) ∧ Hid (Below (w.heap.size + 1) w5 w6)) (fun _ i _ => l'.length - (intOf i).toNat)
  case atStart =>
    refine ⟨0, p.params, p4, q4, Nat.zero_le _, rfl, by rw [HM.out], by show _ = _; rw [List.take_zero, vaF], HR5.out, fun g hg => ⟨rfl, fun h => ?_⟩, Below.refl _ _⟩
    have h1 := (HO4.out.lt g h).2
    have h2 := HLie.out g hg
    omega
  case round =>
    obtain ⟨k2, l2, pl2, ql2, hk2, rfl, rfl, HX2, HR3, HG, HBs⟩ := hrel
    have hll2 : l2.length ≤ 1401 := by
      have h1 := vaF_len ((walk p).take k2) p.params
      rw [← HX2.out, List.length_take, HM.out] at h1
      omega
    have HLL := Lib.hid hll2
    have hz3 := HBs.out.size
    have hs5 := HS5.out
    have hzr : w.heap.size + 1 ≤ wr.heap.size := by omega
    have HZR := Lib.hid hzr
    have HB0r : Hid (Below (w.heap.size + 1) W0 wr) := HB05.out.trans HBs.out
    clear hz3 hs5
    by_cases hlt2 : k2 < l'.length
    · obtain ⟨g3, rfl, hcell⟩ := A.visit_cells HO5.out hlt2
      have hlw : k2 < (walk p).length := by rw [← HW5.out, A.vs_len]; exact hlt2
      have hvk : (walk p)[k2] = (l'[k2]).v := by simp only [← HW5.out, vs, List.getElem_map]
      have hxt := vaF_take (p := p.params) hlw
      have hvo := HVO.out _ (List.getElem_mem hlw)
      have hin := HI.out _ (List.getElem_mem hlt2)
      rw [hvk] at hxt hvo
      obtain ⟨hgh, hgn⟩ := HG.out g3 rfl
      have hcr : ∀ r, r < 20 → wr.cell? ⟨g3, k2 * 20 + r, none⟩ = (l'[k2]).cells[r]? := fun r hr => (World.cell?_of_block (w := w5) (by exact hgh)).trans (hcell r hr)
      generalize l'[k2] = y at hcr hxt hvo hin
      clear hvk hlw hcell
      cases y with
      | ex e r a5 c5 =>
        have f0 : wr.cell? ⟨g3, k2 * 20, none⟩ = some (.bool false) := hcr 0 (by omega)
        have HX3 : Hid (l2 = vaF p.params ((walk p).take (k2 + 1))) := HX2.out.trans hxt.symm
        clear hcr hxt hvo hin
        go_wp2_with fail
        go_roundw
        case rel => exact ⟨k2 + 1, l2, pl2, ql2, by omega, by go_num, rfl, HX3.out, HR3.out, HG.out, HBs.out⟩
        case measure => simp [intOf]; omega
      | st s d a5 c5 a6 c6 a7 c7 a8 c8 =>
        have f0 : wr.cell? ⟨g3, k2 * 20, none⟩ = some (.bool true) := hcr 0 (by omega)
        have f1 : wr.cell? ⟨g3, k2 * 20 + 1, none⟩ = some (.int .i64 s.op) := hcr 1 (by omega)
        have f2 : wr.cell? ⟨g3, k2 * 20 + 1 + 1, none⟩ = some (.string s.name) := hcr 2 (by omega)
        have f3 : wr.cell? ⟨g3, k2 * 20 + 1 + 2, none⟩ = some (.int .i64 s.mx) := hcr 3 (by omega)
        have f4 : wr.cell? ⟨g3, k2 * 20 + 1 + 3, none⟩ = some (.int .i64 s.a.op) := hcr 4 (by omega)
        have f5 : wr.cell? ⟨g3, k2 * 20 + 1 + 4, none⟩ = some (.int .i64 s.a.n) := hcr 5 (by omega)
        have f6 : wr.cell? ⟨g3, k2 * 20 + 1 + 5, none⟩ = some (.string s.a.s) := hcr 6 (by omega)
        have f7 : wr.cell? ⟨g3, k2 * 20 + 1 + 6, none⟩ = some (.slice a5 s.a.args.length c5) := hcr 7 (by omega)
        have f8 : wr.cell? ⟨g3, k2 * 20 + 1 + 7, none⟩ = some (.int .i64 s.b.op) := hcr 8 (by omega)
        have f9 : wr.cell? ⟨g3, k2 * 20 + 1 + 8, none⟩ = some (.int .i64 s.b.n) := hcr 9 (by omega)
        have f10 : wr.cell? ⟨g3, k2 * 20 + 1 + 9, none⟩ = some (.string s.b.s) := hcr 10 (by omega)
        have f11 : wr.cell? ⟨g3, k2 * 20 + 1 + 10, none⟩ = some (.slice a6 s.b.args.length c6) := hcr 11 (by omega)
        have f12 : wr.cell? ⟨g3, k2 * 20 + 1 + 11, none⟩ = some (.slice a7 s.body.length c7) := hcr 12 (by omega)
        have f13 : wr.cell? ⟨g3, k2 * 20 + 1 + 12, none⟩ = some (.slice a8 s.els.length c8) := hcr 13 (by omega)
        have hg3 := block_lt_of_cell f0
        have HG3 : Hid (g3 < wr.heap.size) := hg3
        have hbz := below_box wr (A.stO s a5 c5 a6 c6 a7 c7 a8 c8)
        have hxz := Bx.new wr (stF s a5 c5 a6 c6 a7 c7 a8 c8) 48
        have hkz : A.Kids (wr.alloc (A.stO s a5 c5 a6 c6 a7 c7 a8 c8)) a5 s.a.args := (show A.StKids W0 s a5 a6 a7 a8 from hin).a.below (by rw [HZ.out]; exact HB0r.out.trans (hbz.mono HZR.out))
        have hpz := own_pms (HR3.out.below hbz)
        have HOf := Lib.hid (rOf_any s.a a5 c5 l2 pl2 ql2 (A.okS_open (show A.okS s ∧ _ from hvo).1).a (by omega) _ hkz hpz)
        unfold exV at HOf
        have hxt' : vaF p.params ((walk p).take (k2 + 1)) = vaS l2 s := by rw [HX2.out]; exact hxt
        unfold A.stO at HOf hbz
        unfold stF at hxz
        have y0 := hxz.cell 0
        have y1 := hxz.cell 1
        have y3 := hxz.cell 3
        have y4 := hxz.cell 4
        have y5 := hxz.cell 5
        have y6 := hxz.cell 6
        simp only [List.getElem?_toArray, List.getElem?_cons_zero, List.getElem?_cons_succ] at y0 y1 y3 y4 y5 y6
        have HXz := Lib.hid hxz
        have HBz := Lib.hid hbz
        have HRz := Lib.hid (HR3.out.below hbz)
        obtain ⟨t, ht⟩ : ∃ t, (ofE (look l2) s.a).1 = t := ⟨_, rfl⟩
        obtain ⟨e0, he0⟩ : ∃ t, (ofE (look l2) s.a).2 = t := ⟨_, rfl⟩
        rw [ht, he0] at HOf
        unfold vaS at hxt'
        rw [ht] at hxt'
        clear hcr hxt hvo hin hkz hpz hbz hxz ht he0
        generalize s.a.op = o1 at *
        generalize s.a.n = m1 at *
        generalize s.a.s = s1 at *
        generalize s.a.args.length = n1 at *
        generalize s.b.op = o2 at *
        generalize s.b.n = m2 at *
        generalize s.b.s = s2 at *
        generalize s.b.args.length = n2 at *
        generalize s.body.length = n3 at *
        generalize s.els.length = n4 at *
        generalize s.mx = m0 at *
        generalize s.op = o0 at *
        generalize s.name = s0 at *
        by_cases h1 : o0 = 1
        · subst h1
          have HX3 : Hid (l2 ++ [⟨s0, t⟩] = vaF p.params ((walk p).take (k2 + 1))) := by show _ = _; rw [hxt']; rfl
          have HL6 : Hid ((l2 ++ [(⟨s0, t⟩ : Pm)]).length = l2.length + 1) := by show _ = _; simp
          clear hxt'
          go_wp2_with fail
          refine HOf.out.mono ?_; rintro e' w6 ⟨rfl, hb6⟩
          have HB6 := Lib.hid hb6
          have HBr6 := Lib.hid (below_2 HBz.out hb6)
          have hx6 := HXz.out.below hb6
          have x0 := hx6.cell 0
          have x1 := hx6.cell 1
          simp only [List.getElem?_toArray, List.getElem?_cons_zero, List.getElem?_cons_succ] at x0 x1
          have HR6 := Lib.hid (HRz.out.below hb6)
          have hz6 := HBr6.out.size
          have hzr6 : w.heap.size + 1 ≤ w6.heap.size := by omega
          have HBs6 : Hid (Below (w.heap.size + 1) w5 w6) := HBs.out.trans (HBr6.out.mono HZR.out)
          have hgh6 : w6.heap[g3]? = w5.heap[g3]? := (HBr6.out.block g3 HG3.out).trans hgh
          have hg36 : g3 < w6.heap.size := Nat.lt_of_lt_of_le HG3.out hz6
          have hne : (Value.slice pl2 l2.length ql2).ownBlock ≠ some wr.heap.size := fun h => Nat.lt_irrefl _ (HR3.out.lt _ h).2
          have hl6 := block_lt_of_cell x0
          have hl6' : wr.heap.size < w6.heap.size := hl6
          have HX6 := Lib.hid x0
          clear hb6 hx6 hl6
          go_wp2_with (at_builtin; refine kP.wpList rfl (.tmp 45) (.tmp 50) rfl (w.heap.size + 1) (.slice pl2 l2.length ql2) l2 rfl HR6.out.row ⟨s0, t⟩ _ rfl w6.heap.size rfl (by simp) (by omega) hzr6 ?_; intro g6 cap6 w7 hown7 hgrow7 hlie7; have k0 : w7.cell? ⟨wr.heap.size, 0, none⟩ = some (.int .i64 1) := (World.cell?_of_block (w := w6) (by exact (hgrow7.block wr.heap.size (by simp; exact Nat.lt_succ_of_lt hl6') (fun e => hne e.symm)).trans (Below.heap_alloc w6 _ wr.heap.size hl6'))).trans HX6.out)
          have HR7 := Lib.hid (HR6.out.push (y := ⟨s0, t⟩) trivial (fun j hj => by omega) hown7 hgrow7 hlie7)
          have HB7 := Lib.hid (HR6.out.frame HBs6.out hzr6 hgrow7)
          have HG7 : Hid (∀ g, (some ⟨g3, 0, none⟩ : Option Addr) = some ⟨g, 0, none⟩ → w7.heap[g]? = w5.heap[g]? ∧ (Value.slice (some ⟨g6, 0, none⟩) (l2.length + 1) cap6).ownBlock ≠ some g) := fun g hg => by
            have hgg : g3 = g := by injection hg with h; injection h
            subst hgg
            refine ⟨((hgrow7.block g3 (by simp; exact Nat.lt_succ_of_lt hg36) (fun e => hgn e.symm)).trans (Below.heap_alloc w6 _ g3 hg36)).trans hgh6, fun h => ?_⟩
            have h6 : g6 = g3 := by injection h
            rcases hlie7 with h7 | h7
            · exact hgn (by rw [h7, h6])
            · omega
          clear hown7 hgrow7 hlie7 x0 x1
          go_wp2_with fail
          go_roundw
          case rel => exact ⟨k2 + 1, l2 ++ [(⟨s0, t⟩ : Pm)], some ⟨g6, 0, none⟩, cap6, by omega, by go_num, by rw [HL6.out], HX3.out, by show Own1 _ _ _ _ _ _; rw [HL6.out]; exact HR7.out, by intro g hg; rw [HL6.out]; exact HG7.out g hg, HB7.out⟩
          case measure => simp [intOf]; omega
        · have b1 : (o0 == 1) = false := beq_eq_false_iff_ne.2 h1
          rw [if_neg h1] at hxt'
          by_cases h6 : o0 = 6
          · subst h6
            have HX3 : Hid (l2 ++ [⟨s0, 1⟩] = vaF p.params ((walk p).take (k2 + 1))) := by show _ = _; rw [hxt']; rfl
            have HL6 : Hid ((l2 ++ [(⟨s0, 1⟩ : Pm)]).length = l2.length + 1) := by show _ = _; simp
            clear hxt' HOf b1
            have hz6 := HBz.out.size
            have hzr6 : w.heap.size + 1 ≤ (wr.alloc (.cells #[.int .i64 6, .string s0, .int .i64 m0, .int .i64 o1, .int .i64 m1, .string s1, .slice a5 n1 c5, .int .i64 o2, .int .i64 m2, .string s2, .slice a6 n2 c6, .slice a7 n3 c7, .slice a8 n4 c8] 48)).heap.size := Nat.le_trans HZR.out hz6
            have HBs6 : Hid (Below (w.heap.size + 1) w5 (wr.alloc (.cells #[.int .i64 6, .string s0, .int .i64 m0, .int .i64 o1, .int .i64 m1, .string s1, .slice a5 n1 c5, .int .i64 o2, .int .i64 m2, .string s2, .slice a6 n2 c6, .slice a7 n3 c7, .slice a8 n4 c8] 48))) := HBs.out.trans (HBz.out.mono HZR.out)
            have hgh6 := (HBz.out.block g3 HG3.out).trans hgh
            have hg36 := Nat.lt_of_lt_of_le HG3.out hz6
            go_wp2_with (at_builtin; refine kP.wpList rfl (.tmp 55) (.tmp 59) rfl (w.heap.size + 1) (.slice pl2 l2.length ql2) l2 rfl HRz.out.row ⟨s0, 1⟩ _ rfl (wr.heap.size + 1) rfl (by simp) (by omega) (by omega) ?_; intro g6 cap6 w7 hown7 hgrow7 hlie7)
            have HR7 := Lib.hid (HRz.out.push (y := ⟨s0, 1⟩) trivial (fun j hj => by simp; omega) hown7 hgrow7 (by simpa using hlie7))
            have HB7 := Lib.hid (HRz.out.frame HBs6.out hzr6 hgrow7)
            have HG7 : Hid (∀ g, (some ⟨g3, 0, none⟩ : Option Addr) = some ⟨g, 0, none⟩ → w7.heap[g]? = w5.heap[g]? ∧ (Value.slice (some ⟨g6, 0, none⟩) (l2.length + 1) cap6).ownBlock ≠ some g) := fun g hg => by
              have hgg : g3 = g := by injection hg with h; injection h
              subst hgg
              refine ⟨((hgrow7.block g3 (by simp at hg36 ⊢; omega) (fun e => hgn e.symm)).trans (Below.heap_alloc _ _ g3 hg36)).trans hgh6, fun h => ?_⟩
              have h6 : g6 = g3 := by injection h
              rcases hlie7 with h7 | h7
              · exact hgn (by rw [h7, h6])
              · have := HG3.out; simp at h7; omega
            clear hown7 hgrow7 hlie7
            go_wp2_with fail
            go_roundw
            case rel => exact ⟨k2 + 1, l2 ++ [(⟨s0, 1⟩ : Pm)], some ⟨g6, 0, none⟩, cap6, by omega, by go_num, by rw [HL6.out], HX3.out, by show Own1 _ _ _ _ _ _; rw [HL6.out]; exact HR7.out, by intro g hg; rw [HL6.out]; exact HG7.out g hg, HB7.out⟩
            case measure => simp [intOf]; omega
          · have b6 : (o0 == 6) = false := beq_eq_false_iff_ne.2 h6
            rw [if_neg h6] at hxt'
            have HX3 : Hid (l2 = vaF p.params ((walk p).take (k2 + 1))) := hxt'.symm
            have HG7 : Hid (∀ g, (some ⟨g3, 0, none⟩ : Option Addr) = some ⟨g, 0, none⟩ → (wr.alloc (.cells #[.int .i64 o0, .string s0, .int .i64 m0, .int .i64 o1, .int .i64 m1, .string s1, .slice a5 n1 c5, .int .i64 o2, .int .i64 m2, .string s2, .slice a6 n2 c6, .slice a7 n3 c7, .slice a8 n4 c8] 48)).heap[g]? = w5.heap[g]? ∧ (Value.slice pl2 l2.length ql2).ownBlock ≠ some g) := fun g hg => by
              have hgg : g3 = g := by injection hg with h; injection h
              subst hgg
              exact ⟨(HBz.out.block g3 HG3.out).trans hgh, hgn⟩
            have HBs6 := Lib.hid (HBs.out.trans (HBz.out.mono HZR.out))
            clear hxt' HOf
            go_wp2_with fail
            go_roundw
            case rel => exact ⟨k2 + 1, l2, pl2, ql2, by omega, by go_num, rfl, HX3.out, HRz.out, HG7.out, HBs6.out⟩
            case measure => simp [intOf]; omega
    · have hX2 := HX2.out
      rw [List.take_of_length_le (by rw [← HW5.out, A.vs_len]; omega), HVf.out] at hX2
      obtain ⟨_, _, hsh, hle⟩ := HR3.out.shape
      have hq : l2.length ≤ ql2 := by injection hsh with h1 h2 h3; omega
      have HV : Hid (GivesV w r1 (.returned (.slice pl2 l2.length ql2)) wr) := by
        rw [← hX2]
        exact ⟨pl2, ql2, rfl, hq, own_pms HR3.out, HB.out.trans (HB0r.out.mono (Nat.le_succ _))⟩
      clear hX2 hsh hle hq
      go_wp2_with fail
      go_ret
      exact HV.out
end Go.Proofs.YtkjefigebdbkaaaDoor.Y
namespace Go.Proofs.YtkjefigebdbkaaaDoor.A
open L (Str isName prt size_len)

/-- a small procedure -/
structure SmP (p : Pr) (m : Nat) : Prop where
  params : p.params.length ≤ 40
  name : p.name.size ≤ 200
  each : ∀ j (h : j < p.params.length), p.params[j].name.size ≤ 200
  body : cB p.body ≤ m
theorem small_smp {p : Pr} {m : Nat} (h : small p m = true) : SmP p m := by
  unfold small at h
  simp only [Bool.and_eq_true, decide_eq_true_iff, List.all_eq_true] at h
  obtain ⟨⟨⟨h1, h2⟩, h3⟩, h4⟩ := h
  exact ⟨h1, h2, fun j hj => h3 _ (List.getElem_mem hj), h4⟩
/-- what the contracts ask of a procedure -/
structure Pp (p : Pr) : Prop where
  ok : OkP p
  sz : cB p.body ≤ 900000
  pl : p.params.length ≤ 1000
  nm : p.name.size ≤ 281474976710656
  ps : ∀ j (h : j < p.params.length), p.params[j].name.size ≤ 281474976710656
end Go.Proofs.YtkjefigebdbkaaaDoor.A
namespace Go.Proofs.YtkjefigebdbkaaaDoor.Y
open Go.RowKit
open L (Str isName prt size_len below_2 below_box ret_bool ret_int eql_eq bytes_eq)
open A (Ex St Pm Pr Bx PmsAt StrsAt PrIn OkP prV prO names valE cB SmP small)
open P (On off_of wp_region_inv IS)

def PV (x : Value) (r : List Pm) : Nat → Value → World → Prop
  | 0, v, _ => v = x
  | 1, v, w => ∃ p q, v = .slice p r.length q ∧ PmsAt w p r
  | 2, v, _ => v = x
  | 3, v, w => ∃ p q, v = .slice p r.length q ∧ PmsAt w p r
  | 4, v, _ => v = .bool true
  | 5, v, _ => v = .bool true
  | 6, v, _ => v = .bool true
  | 7, v, _ => v = .bool true
  | 8, v, _ => v = .bool true
  | _, _, _ => True
theorem PV.mono {x : Value} {r : List Pm} : ∀ j v w w', PV x r j v w → Below w.heap.size w w' → PV x r j v w' := by
  intro j v w w' h hb
  match j, h with
  | 0, h => exact h
  | 1, h => obtain ⟨p, q, e, h2⟩ := (show ∃ p q, v = .slice p r.length q ∧ PmsAt w p r from h); exact ⟨p, q, e, h2.below hb⟩
  | 2, h => exact h
  | 3, h => obtain ⟨p, q, e, h2⟩ := (show ∃ p q, v = .slice p r.length q ∧ PmsAt w p r from h); exact ⟨p, q, e, h2.below hb⟩
  | 4, h => exact h
  | 5, h => exact h
  | 6, h => exact h
  | 7, h => exact h
  | 8, h => exact h
  | _ + 9, _ => trivial
set_option maxHeartbeats 4000000 in
set_option maxRecDepth 100000 in
theorem lawVars_any (p : Pr) (a1 a2 : Option Addr) (c1 c2 : Nat) (hok : OkP p) (hc1 : p.params.length ≤ c1) (w : World) (ht : Tb w) (hK : PrIn w p a1 a2) :
    Calls Tryd.prog 3 #[prV p a1 c1 a2 c2] w fun e' w' => e' = .returned (.bool true) ∧ Below w.heap.size w w' := by
  have hb := below_box w (prO p a1 c1 a2 c2)
  have hbx := Bx.new w #[.string p.name, .slice a1 p.params.length c1, .slice a2 p.body.length c2] 25
  have HS := Lib.hid (A.rsmall_any p a1 c1 a2 c2 1600 (by omega) hok _ (hK.below hb))
  have HW := Lib.hid works_any
  have HT := Lib.hid (ht.below hb)
  have HX := Lib.hid hbx
  have HK := Lib.hid (hK.below hb)
  have HB0 := Lib.hid hb
  have HC : Hid (small p 1600 = true → ∀ w', Tb w' → PrIn w' p a1 a2 → Calls Tryd.prog 10 #[prV p a1 c1 a2 c2] w' (GivesV w' (chk p).1)) := fun h w' t k => by
    have s := A.small_smp h
    exact oVars_any p a1 a2 c1 c2 hok (by have := s.body; omega) (by have := s.params; omega) (fun j hj => by have := s.each j hj; omega) hc1 w' t k
  have HR : Hid (small p 1600 = true → ∀ w', PrIn w' p a1 a2 → Calls Tryd.prog 11 #[prV p a1 c1 a2 c2] w' (GivesV w' (chk p).1)) := fun h w' k => by
    have s := A.small_smp h
    exact rVars_any p a1 a2 c1 c2 hok (by have := s.body; omega) (by have := s.params; omega) w' k
  have HLn : Hid (small p 1600 = true → (chk p).1.length ≤ 1000000) := fun h => by
    have s := A.small_smp h
    have hp := s.params
    by_cases h0 : (chk p).2 = 0
    · rw [← ((chk_main p).2 h0).vars]
      have h1 := vaF_len (A.walk p) p.params
      have h2 : (A.walk p).length ≤ 401 := by unfold A.walk; rw [List.length_take]; omega
      omega
    · rw [chk_nil h0]; simp
  unfold prV at HS HC HR ⊢
  unfold prO at *
  clear hb hbx hok hc1 ht hK
  generalize small p 1600 = sm at *
  generalize (chk p).1 = z at *
  cases sm with
  | false =>
    go_enter Tryd.func3, Tryd.ntmps3
    go_wp2_with fail
    refine HS.out.mono ?_; rintro e' w2 ⟨rfl, hb2⟩
    have HB2 := Lib.hid (below_2 HB0.out hb2)
    have HW2 := Lib.hid (HW.out w2 (HT.out.below hb2))
    clear hb2
    go_wp2_with fail
    refine HW2.out.mono ?_; rintro e' w3 ⟨rfl, hb3⟩
    have HB3 := Lib.hid (below_2 HB2.out hb3)
    clear hb3
    go_wp2_with fail
    go_ret
    exact ⟨rfl, HB3.out⟩
  | true =>
  have HC1 := Lib.hid (HC.out (by trivial))
  have HR1 := Lib.hid (HR.out (by trivial))
  have HL1 := Lib.hid (HLn.out (by trivial))
  have HSm : Hid (∀ w' a b ca cb, PmsAt w' a z → PmsAt w' b z → Calls Tryd.prog 9 #[.slice a z.length ca, .slice b z.length cb] w' fun e' w'' => e' = .returned (.bool true) ∧ Below w'.heap.size w' w'') := fun w' a b ca cb h1 h2 => rsame_any z a b ca cb HL1.out w' h1 h2
  go_enter Tryd.func3, Tryd.ntmps3
  go_wp2_with fail
  refine HS.out.mono ?_; rintro e' w2 ⟨rfl, hb2⟩
  have HB2 := Lib.hid hb2
  clear hb2 HC HR HS HLn
  go_upto_region 3 with fail
  refine wp_region_inv rfl (fun l a w' => ∃ v0 v1 v2 v3 v4 v5 v6 v7 v8 : Value, a = { tmps := #[Value.agg #[Value.string p.name, Value.slice a1 p.params.length c1, Value.slice a2 p.body.length c2], Value.pointer (some { block := w.heap.size, off := 0 }), v8, Value.agg #[Value.string p.name, Value.slice a1 p.params.length c1, Value.slice a2 p.body.length c2], Value.bool true, Value.bool false, undef, v0, v1, v2, v3, v4, v5, v6, v7], defers := [] } ∧ IS (PV (.agg #[.string p.name, .slice a1 p.params.length c1, .slice a2 p.body.length c2]) z) w2 l w' [v0, v1, v2, v3, v4, v5, v6, v7, v8]) (by kernel_rfl) ?_ ?_ ?_
  · intro l hl
    exact ⟨_, _, _, _, _, _, _, _, _, rfl, IS.start _ _ hl _⟩
  · rintro l a w' ⟨v0, v1, v2, v3, v4, v5, v6, v7, v8, rfl, F⟩ i hi h0 hall
    match i, hi, h0, hall with
    | 0, _, h0, hall =>
      have hxx := HX.out.below (below_2 HB2.out F.bel)
      have q0 := hxx.cell 0
      have q1 := hxx.cell 1
      have q2 := hxx.cell 2
      simp only [List.getElem?_toArray, List.getElem?_cons_zero, List.getElem?_cons_succ] at q0 q1 q2
      clear hxx
      have HF := Lib.hid (F.step PV.mono h0 (show 0 < 9 by decide) (Below.refl _ _) (x := .agg #[.string p.name, .slice a1 p.params.length c1, .slice a2 p.body.length c2]) rfl)
      clear F hall h0
      refine wpOp_step (by rfl) (fun K' hK => ?_)
      have HKk := Lib.hid hK
      clear hK
      go_simp
      exact HKk.out _ _ ⟨_, _, _, _, _, _, _, _, _, rfl, HF.out⟩
    | 1, _, h0, hall =>
      obtain rfl : v0 = .agg #[.string p.name, .slice a1 p.params.length c1, .slice a2 p.body.length c2] := F.f 0 (hall 0 (by decide +kernel))
      have HC := Lib.hid (HC1.out w' (HT.out.below (below_2 HB2.out F.bel)) (HK.out.below (below_2 HB2.out F.bel)))
      have HF := Lib.hid (fun w'' hb x hx => F.step PV.mono h0 (show 1 < 9 by decide) (w' := w'') hb (x := x) hx)
      clear F hall h0
      refine wpOp_step (by rfl) (fun K' hK => ?_)
      have HKk := Lib.hid hK
      clear hK
      go_simp
      go_at_call 10
      refine HC.out.mono ?_; rintro e' w5 ⟨p5, q5, rfl, hq5, hp5, hb5⟩
      have HF5 := Lib.hid (HF.out w5 hb5 _ (show PV _ _ 1 (.slice p5 z.length q5) w5 from ⟨p5, q5, rfl, hp5⟩))
      exact HKk.out _ _ ⟨_, _, _, _, _, _, _, _, _, rfl, HF5.out⟩
    | 2, _, h0, hall =>
      have hxx := HX.out.below (below_2 HB2.out F.bel)
      have q0 := hxx.cell 0
      have q1 := hxx.cell 1
      have q2 := hxx.cell 2
      simp only [List.getElem?_toArray, List.getElem?_cons_zero, List.getElem?_cons_succ] at q0 q1 q2
      clear hxx
      have HF := Lib.hid (F.step PV.mono h0 (show 2 < 9 by decide) (Below.refl _ _) (x := .agg #[.string p.name, .slice a1 p.params.length c1, .slice a2 p.body.length c2]) rfl)
      clear F hall h0
      refine wpOp_step (by rfl) (fun K' hK => ?_)
      have HKk := Lib.hid hK
      clear hK
      go_simp
      exact HKk.out _ _ ⟨_, _, _, _, _, _, _, _, _, rfl, HF.out⟩
    | 3, _, h0, hall =>
      obtain rfl : v2 = .agg #[.string p.name, .slice a1 p.params.length c1, .slice a2 p.body.length c2] := F.f 2 (hall 2 (by decide +kernel))
      have HC := Lib.hid (HR1.out w' (HK.out.below (below_2 HB2.out F.bel)))
      have HF := Lib.hid (fun w'' hb x hx => F.step PV.mono h0 (show 3 < 9 by decide) (w' := w'') hb (x := x) hx)
      clear F hall h0
      refine wpOp_step (by rfl) (fun K' hK => ?_)
      have HKk := Lib.hid hK
      clear hK
      go_simp
      go_at_call 11
      refine HC.out.mono ?_; rintro e' w5 ⟨p5, q5, rfl, hq5, hp5, hb5⟩
      have HF5 := Lib.hid (HF.out w5 hb5 _ (show PV _ _ 3 (.slice p5 z.length q5) w5 from ⟨p5, q5, rfl, hp5⟩))
      exact HKk.out _ _ ⟨_, _, _, _, _, _, _, _, _, rfl, HF5.out⟩
    | 4, _, h0, hall =>
      obtain ⟨p1, q1, rfl, hp1⟩ : ∃ p q, v1 = .slice p z.length q ∧ PmsAt w' p z := F.f 1 (hall 1 (by decide +kernel))
      obtain ⟨p3, q3, rfl, hp3⟩ : ∃ p q, v3 = .slice p z.length q ∧ PmsAt w' p z := F.f 3 (hall 3 (by decide +kernel))
      have HC := Lib.hid (HSm.out w' p1 p3 q1 q3 hp1 hp3)
      have HF := Lib.hid (fun w'' hb x hx => F.step PV.mono h0 (show 4 < 9 by decide) (w' := w'') hb (x := x) hx)
      clear F hall h0 hp1 hp3
      refine wpOp_step (by rfl) (fun K' hK => ?_)
      have HKk := Lib.hid hK
      clear hK
      go_simp
      go_at_call 9
      refine HC.out.mono ?_; rintro e' w5 ⟨rfl, hb5⟩
      have HF5 := Lib.hid (HF.out w5 hb5 _ (show PV _ _ 4 (.bool true) w5 from rfl))
      exact HKk.out _ _ ⟨_, _, _, _, _, _, _, _, _, rfl, HF5.out⟩
    | 5, _, h0, hall =>
      obtain rfl : v4 = .bool true := F.f 4 (hall 4 (by decide +kernel))
      have HF := Lib.hid (F.step PV.mono h0 (show 5 < 9 by decide) (Below.refl _ _) (x := .bool true) rfl)
      clear F hall h0
      refine wpOp_step (by rfl) (fun K' hK => ?_)
      have HKk := Lib.hid hK
      clear hK
      go_simp
      exact HKk.out _ _ ⟨_, _, _, _, _, _, _, _, _, rfl, HF.out⟩
    | 6, _, h0, hall =>
      obtain rfl : v5 = .bool true := F.f 5 (hall 5 (by decide +kernel))
      have HC := Lib.hid (HW.out w' (HT.out.below (below_2 HB2.out F.bel)))
      have HF := Lib.hid (fun w'' hb x hx => F.step PV.mono h0 (show 6 < 9 by decide) (w' := w'') hb (x := x) hx)
      clear F hall h0
      refine wpOp_step (by rfl) (fun K' hK => ?_)
      have HKk := Lib.hid hK
      clear hK
      go_simp
      go_at_call 8
      refine HC.out.mono ?_; rintro e' w5 ⟨rfl, hb5⟩
      have HF5 := Lib.hid (HF.out w5 hb5 _ (show PV _ _ 6 (.bool true) w5 from rfl))
      exact HKk.out _ _ ⟨_, _, _, _, _, _, _, _, _, rfl, HF5.out⟩
    | 7, _, h0, hall =>
      obtain rfl : v5 = .bool true := F.f 5 (hall 5 (by decide +kernel))
      obtain rfl : v6 = .bool true := F.f 6 (hall 6 (by decide +kernel))
      have HF := Lib.hid (F.step PV.mono h0 (show 7 < 9 by decide) (Below.refl _ _) (x := .bool true) rfl)
      clear F hall h0
      refine wpOp_step (by rfl) (fun K' hK => ?_)
      have HKk := Lib.hid hK
      clear hK
      go_simp
      exact HKk.out _ _ ⟨_, _, _, _, _, _, _, _, _, rfl, HF.out⟩
    | 8, _, h0, hall =>
      obtain rfl : v7 = .bool true := F.f 7 (hall 7 (by decide +kernel))
      have HF := Lib.hid (F.step PV.mono h0 (show 8 < 9 by decide) (Below.refl _ _) (x := .bool true) rfl)
      clear F hall h0
      refine wpOp_step (by rfl) (fun K' hK => ?_)
      have HKk := Lib.hid hK
      clear hK
      go_simp
      exact HKk.out _ _ ⟨_, _, _, _, _, _, _, _, _, rfl, HF.out⟩
    | i + 9, hi, _, _ => exact absurd hi (by show ¬ (i + 9 < 9); omega)
  rintro l9 a wf ⟨r0, r1, r2, r3, r4, r5, r6, r7, r8, rfl, F⟩ hall
  obtain rfl : r8 = .bool true := F.f 8 (hall 8 (by decide))
  have HBf := Lib.hid (below_2 HB0.out (below_2 HB2.out F.bel))
  clear F hall
  go_wp2_with fail
  go_ret
  exact ⟨rfl, HBf.out⟩
end Go.Proofs.YtkjefigebdbkaaaDoor.Y
