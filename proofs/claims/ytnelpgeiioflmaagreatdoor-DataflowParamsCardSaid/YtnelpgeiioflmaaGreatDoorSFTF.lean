/-
  The laws of layer 14: parameters that are not assigned; keys that are constants or such parameters.
-/
import Derived.Test.YtnelpgeiioflmaaGreatDoorM25
import Derived.Test.YtnelpgeiioflmaaGreatDoorSFKX
import Derived.Test.YtnelpgeiioflmaaGreatDoorSFRE
namespace Go.Proofs.YtnelpgeiioflmaaGreatDoor.F
open Go.RowKit
open L (Str isName prt size_len below_2 below_box ret_bool ret_int eql_eq bytes_eq)
open A (VT vs vs_len vcs Own1 kN okS exV okE Ex St Pm Pr Bx PmsAt StrsAt PrIn OkP prV prO names cB SmP small GivesN GivesV walk exprs)
open Y (chk Tb)
open P (On off_of on_set wp_region_inv IS)

set_option maxHeartbeats 16000000 in
set_option maxRecDepth 100000 in
theorem lawParams_core (hwk : Wk) (p : Pr) (a1 a2 : Option Addr) (c1 c2 : Nat) (hok : OkP p) (hc1 : p.params.length ≤ c1) (w : World) (ht : Tb w) (hK : PrIn w p a1 a2) :
    Calls Tryz.prog 8 #[prV p a1 c1 a2 c2] w fun e' w' => e' = .returned (.bool true) ∧ Below w.heap.size w w' := by
  have hb := below_box w (prO p a1 c1 a2 c2)
  have hbx := Bx.new w #[.string p.name, .slice a1 p.params.length c1, .slice a2 p.body.length c2] 25
  have HS := Lib.hid (A.rsmall_any p a1 c1 a2 c2 600 (by omega) hok _ (hK.below hb))
  have HW := Lib.hid hwk
  have HT := Lib.hid (ht.below hb)
  have HX := Lib.hid hbx
  have HK := Lib.hid (hK.below hb)
  have HB0 := Lib.hid hb
  have HSm : Hid (small p 600 = true → Sm p a1 a2 c1 c2) := fun h => sm_of (m := 600) (by omega) hok hc1 (A.small_smp h)
  have HVO := Lib.hid (ok_walkV hok.body)
  have HPar : Hid ((chk p).2 = 0 → ∀ q ∈ p.params, q.name ∉ (walk p).filterMap V.sets → q.name ∉ taint p) := fun h q hq hn => par_clean h hq hn
  have HKe : Hid ((chk p).2 = 0 → (∀ v ∈ walk p, keyOk (mem (taint p)) v = true) → keysT p = false) := fun h hk => keys_plain h hk
  have HAr : Hid ((chk p).2 = 0 → ∀ e r, A.V.ex e r ∈ walk p → acc e.op = true → 0 < e.args.length) := fun h e r hm ha => ex_args h hm ha
  have HNW : Hid ((walk p).length ≤ 401) := by show _ ≤ _; unfold walk; rw [List.length_take]; omega
  have HPL := Lib.hid hok.params
  unfold prV at HS ⊢
  unfold prO at *
  generalize small p 600 = sm at *
  clear hb hbx hok hc1 ht hK hwk
  have x0 := HX.out.cell 0
  have x1 := HX.out.cell 1
  have x2 := HX.out.cell 2
  simp only [List.getElem?_toArray, List.getElem?_cons_zero, List.getElem?_cons_succ] at x0 x1 x2
  cases sm with
  | false =>
    go_enter Tryz.func8, Tryz.ntmps8
    go_wp2_with fail
    refine HS.out.mono ?_; rintro e' w2 ⟨rfl, hb2⟩
    have HB2 := Lib.hid (below_2 HB0.out hb2)
    have HT2 := Lib.hid (HT.out.below hb2)
    clear hb2 x0 x1 x2
    go_wp2_with fail
    refine (HW.out _ HT2.out).mono ?_; rintro e' w8 ⟨rfl, hb8⟩
    have HB8 := Lib.hid (below_2 HB2.out hb8)
    clear hb8
    go_wp2_with fail
    go_ret
    exact ⟨rfl, HB8.out⟩
  | true =>
  obtain ⟨oT, oK, oC, oI, ck, nm, rT, wk, hln⟩ := HSm.out (by trivial)
  have HC := Lib.hid ck
  have HOT := Lib.hid oT
  have HOK := Lib.hid oK
  have HWL := Lib.hid wk
  clear oT oK oC oI ck nm rT wk HSm
  unfold prV at HC HOT HOK HWL
  obtain ⟨R, hR⟩ : ∃ R, taint p = R := ⟨_, rfl⟩
  rw [hR] at HOT HPar HKe hln
  clear hR
  obtain ⟨KT, hKT⟩ : ∃ b, keysT p = b := ⟨_, rfl⟩
  rw [hKT] at HOK HKe
  clear hKT
  generalize (chk p).2 = z at *
  go_enter Tryz.func8, Tryz.ntmps8
  go_wp2_with fail
  refine HS.out.mono ?_; rintro e' w2 ⟨rfl, hb2⟩
  have HB2 := Lib.hid hb2
  have hx2 := HX.out.below hb2
  have y0 := hx2.cell 0
  have y1 := hx2.cell 1
  have y2 := hx2.cell 2
  simp only [List.getElem?_toArray, List.getElem?_cons_zero, List.getElem?_cons_succ] at y0 y1 y2
  have HC2 := Lib.hid (HC.out w2 (HT.out.below hb2) (HK.out.below hb2))
  clear hb2 hx2 x0 x1 x2
  by_cases hz : z = 0
  case neg =>
    have b1 : (z != 0) = true := bne_iff_ne.2 hz
    clear hz
    go_wp2_with fail
    refine HC2.out.mono ?_; rintro e' w3 ⟨rfl, hb3⟩
    have HB3 := Lib.hid (below_2 HB2.out hb3)
    clear hb3 y0 y1 y2
    go_wp2_with fail
    refine (HW.out _ (HT.out.below HB3.out)).mono ?_; rintro e' w8 ⟨rfl, hb8⟩
    have HB8 := Lib.hid (below_2 (below_2 HB0.out HB3.out) hb8)
    clear hb8
    go_wp2_with fail
    go_ret
    exact ⟨rfl, HB8.out⟩
  subst hz
  have HPar2 : Hid (∀ q ∈ p.params, q.name ∉ (walk p).filterMap V.sets → q.name ∉ R) := HPar.out rfl
  have HKe2 : Hid ((∀ v ∈ walk p, keyOk (mem R) v = true) → KT = false) := HKe.out rfl
  have HAr2 : Hid (∀ e r, A.V.ex e r ∈ walk p → acc e.op = true → 0 < e.args.length) := HAr.out rfl
  clear HPar HKe HAr
  go_wp2_with fail
  refine HC2.out.mono ?_; rintro e' w3 ⟨rfl, hb3⟩
  have HB3 := Lib.hid (below_2 HB2.out hb3)
  have hx3 := HX.out.below (below_2 HB2.out hb3)
  have u0 := hx3.cell 0
  have u1 := hx3.cell 1
  have u2 := hx3.cell 2
  simp only [List.getElem?_toArray, List.getElem?_cons_zero, List.getElem?_cons_succ] at u0 u1 u2
  have HW3 := Lib.hid (HWL.out w3 (HT.out.below HB3.out) (HK.out.below HB3.out))
  clear hb3 hx3 y0 y1 y2
  go_wp2_with fail
  refine HW3.out.mono ?_; rintro e' w4 ⟨p3, q3, l', rfl, ho, hi, hv, hb4⟩
  have HB4 := Lib.hid (below_2 HB3.out hb4)
  have HO := Lib.hid ho
  have HI := Lib.hid hi
  have HWv := Lib.hid hv
  have HB34 := Lib.hid hb4
  have hln4 : l'.length ≤ 401 := by rw [← vs_len, hv]; exact HNW.out
  have HLN := Lib.hid hln4
  obtain ⟨g, hg⟩ : ∃ g, l'.length = g := ⟨_, rfl⟩
  have HG := Lib.hid hg
  clear ho hi hv hb4 u0 u1 u2 hg hln4
  rw [HG.out]
  go_wp2_with fail
  go_loopw [4, 6] (fun s4 s6 wr => ∃ (k : Nat) (out : List ByteArray) (pl : Option Addr) (ql : Nat), k ≤ g ∧ s6 = .int .i64 k ∧ s4 = .slice pl out.length ql ∧ Hid (out = ((walk p).take k).filterMap V.sets) ∧ Hid (out.length ≤ k) ∧ Hid (Own1 kN wr w4.heap.size (fun j => j < w4.heap.size) (.slice pl out.length ql) out) ∧ Hid (Below w4.heap.size w4 wr)) (fun _ i _ => g - (intOf i).toNat)
  case atStart => exact ⟨0, [], none, 0, Nat.zero_le _, rfl, rfl, by show _ = _; rw [List.take_zero]; rfl, Nat.le_refl _, Own1.nil, Below.refl _ _⟩
  case round =>
    obtain ⟨k, out, pl, ql, hk, rfl, rfl, HOu, HLe, HR5, HBr⟩ := hrel
    have hlg : g ≤ 401 := by rw [← HG.out]; exact HLN.out
    have hzr := HBr.out.size
    by_cases hlt : k < g
    · have hlt2 : k < l'.length := by rw [HG.out]; exact hlt
      obtain ⟨g3, rfl, hcell⟩ := A.visit_cells HO.out hlt2
      have hlw : k < (walk p).length := by rw [← HWv.out, vs_len]; exact hlt2
      have hvk : (walk p)[k] = (l'[k]).v := by simp only [← HWv.out, vs, List.getElem_map]
      have hft := fm_take (g := V.sets) hlw
      rw [hvk, sets_of] at hft
      have hvo := HVO.out _ (List.getElem_mem hlw)
      rw [hvk] at hvo
      obtain ⟨a5, c5, a6, c6, a7, c7, a8, c8, d0, rest, hce, hka, hkb, hoa, hob⟩ := vt_st l'[k] (HI.out _ (List.getElem_mem hlt2)) hvo
      have hg3 : g3 < w4.heap.size := (World.ownsRow.lt HO.out g3 rfl).2
      have hcr : ∀ r, r < 20 → wr.cell? ⟨g3, k * 20 + r, none⟩ = (l'[k]).cells[r]? := fun r hr => (HBr.out.cell (p := ⟨g3, k * 20 + r, none⟩) hg3).trans (hcell r hr)
      rw [hce] at hcr
      generalize stOf (l'[k]).v = s at hft hcr hka hkb hoa hob
      have hbz := below_box wr (A.stO s a5 c5 a6 c6 a7 c7 a8 c8)
      have hxz := Bx.new wr (stF s a5 c5 a6 c6 a7 c7 a8 c8) 44
      have f0 : wr.cell? ⟨g3, k * 20 + 1, none⟩ = some (.int .i64 s.op) := hcr 1 (by omega)
      have f1 : wr.cell? ⟨g3, k * 20 + 1 + 1, none⟩ = some (.string s.name) := hcr 2 (by omega)
      have f2 : wr.cell? ⟨g3, k * 20 + 1 + 2, none⟩ = some (.int .i64 s.mx) := hcr 3 (by omega)
      have f3 : wr.cell? ⟨g3, k * 20 + 1 + 3, none⟩ = some (.int .i64 s.a.op) := hcr 4 (by omega)
      have f4 : wr.cell? ⟨g3, k * 20 + 1 + 4, none⟩ = some (.int .i64 s.a.n) := hcr 5 (by omega)
      have f5 : wr.cell? ⟨g3, k * 20 + 1 + 5, none⟩ = some (.string s.a.s) := hcr 6 (by omega)
      have f6 : wr.cell? ⟨g3, k * 20 + 1 + 6, none⟩ = some (.slice a5 s.a.args.length c5) := hcr 7 (by omega)
      have f7 : wr.cell? ⟨g3, k * 20 + 1 + 7, none⟩ = some (.int .i64 s.b.op) := hcr 8 (by omega)
      have f8 : wr.cell? ⟨g3, k * 20 + 1 + 8, none⟩ = some (.int .i64 s.b.n) := hcr 9 (by omega)
      have f9 : wr.cell? ⟨g3, k * 20 + 1 + 9, none⟩ = some (.string s.b.s) := hcr 10 (by omega)
      have f10 : wr.cell? ⟨g3, k * 20 + 1 + 10, none⟩ = some (.slice a6 s.b.args.length c6) := hcr 11 (by omega)
      have f11 : wr.cell? ⟨g3, k * 20 + 1 + 11, none⟩ = some (.slice a7 s.body.length c7) := hcr 12 (by omega)
      have f12 : wr.cell? ⟨g3, k * 20 + 1 + 12, none⟩ = some (.slice a8 s.els.length c8) := hcr 13 (by omega)
      unfold A.stO at hbz
      unfold stF at hxz
      clear hcr hce hka hkb hoa hob hvo hvk hcell hlw
      generalize s.a.args.length = n1 at *
      generalize s.b.args.length = n2 at *
      generalize s.a.op = o1 at *
      generalize s.a.n = m1 at *
      generalize s.a.s = s1 at *
      generalize s.b.op = o2 at *
      generalize s.b.n = m2 at *
      generalize s.b.s = s2 at *
      generalize s.body.length = n3 at *
      generalize s.els.length = n4 at *
      generalize s.op = o0 at *
      generalize s.name = s0 at *
      generalize s.mx = m0 at *
      have y0 := hxz.cell 0
      have y1 := hxz.cell 1
      simp only [List.getElem?_toArray, List.getElem?_cons_zero, List.getElem?_cons_succ] at y0 y1
      have HXz := Lib.hid hxz
      have HBz := Lib.hid hbz
      have HO7 := Lib.hid (HR5.out.below hbz)
      have HB7 := Lib.hid (below_2 HBr.out hbz)
      have hz7 := hbz.size
      have HLe2 := Lib.hid HLe.out
      clear hbz hxz hg3
      by_cases h2 : o0 = 2
      · subst h2
        have HX3 : Hid (out ++ [s0] = ((walk p).take (k + 1)).filterMap V.sets) := by show _ = _; rw [hft, HOu.out]; rfl
        have HL6 : Hid ((out ++ [s0]).length = out.length + 1) := by show _ = _; simp
        have hlo : out.length ≤ 1000 := by have := HLe2.out; omega
        clear hft
        go_wp2_with (at_builtin; refine kN.wpList rfl (.tmp 37) (.tmp 40) rfl w4.heap.size (.slice pl out.length ql) out rfl HO7.out.row s0 _ rfl (wr.heap.size + 1) rfl (by simp) (by omega) (by omega) ?_; intro g6 cap6 w6 hown6 hgrow6 hlie6)
        have HR6 := Lib.hid (HO7.out.push (y := s0) trivial (fun j hj => by omega) hown6 hgrow6 hlie6)
        have HB6 := Lib.hid (HO7.out.frame HB7.out (by omega) hgrow6)
        clear hown6 hgrow6 hlie6
        go_wp2_with fail
        go_roundw
        case rel => exact ⟨k + 1, out ++ [s0], some ⟨g6, 0, none⟩, cap6, by omega, by go_num, by rw [HL6.out], HX3.out, by have := HLe2.out; show _ ≤ _; rw [HL6.out]; omega, by show Own1 _ _ _ _ _ _; rw [HL6.out]; exact HR6.out, HB6.out⟩
        case measure => simp [intOf]; omega
      · have b2 : (o0 == 2) = false := beq_eq_false_iff_ne.2 h2
        have HX3 : Hid (out = ((walk p).take (k + 1)).filterMap V.sets) := by show _ = _; rw [hft, HOu.out, if_neg h2]; exact (List.append_nil _).symm
        clear hft h2
        go_wp2_with fail
        go_roundw
        case rel => exact ⟨k + 1, out, pl, ql, by omega, by go_num, rfl, HX3.out, Nat.le_succ_of_le HLe2.out, HO7.out, HB7.out⟩
        case measure => simp [intOf]; omega
    · have hOu := HOu.out
      rw [List.take_of_length_le (by rw [← HWv.out, vs_len, HG.out]; omega)] at hOu
      have hx5 := HX.out.below (below_2 HB4.out HBr.out)
      have u0 := hx5.cell 0
      have u1 := hx5.cell 1
      have u2 := hx5.cell 2
      simp only [List.getElem?_toArray, List.getElem?_cons_zero, List.getElem?_cons_succ] at u0 u1 u2
      have HOT5 := Lib.hid (HOT.out wr (HT.out.below (below_2 HB4.out HBr.out)) (HK.out.below (below_2 HB4.out HBr.out)))
      have HAs := Lib.hid HR5.out.strs
      have HBw := Lib.hid HBr.out
      have HB5 := Lib.hid (below_2 HB4.out HBr.out)
      have HAl : Hid (out.length ≤ 401) := by have h1 := HLe.out; have h2 := HLN.out; have h3 := HG.out; show _ ≤ _; omega
      have HSe : Hid (∀ q ∈ p.params, q.name ∉ out → q.name ∉ R) := by show ∀ q ∈ p.params, _; rw [hOu]; exact HPar2.out
      clear hOu hx5 HR5 HOu HLe HPar2
      go_wp2_with fail
      refine HOT5.out.mono ?_; rintro e' w5 ⟨pt, qt, rfl, hqt, hst, hb5⟩
      have HST := Lib.hid hst
      have HB6 := Lib.hid (below_2 HB5.out hb5)
      have HBw5 := Lib.hid (below_2 HBw.out hb5)
      have HAs5 := Lib.hid (HAs.out.below hb5)
      have HRl : Hid (R.length ≤ 2000) := hln.2
      clear hqt hst hb5 u0 u1 u2 HAs HBw HOT5 HBr
      obtain ⟨m, hm⟩ : ∃ m, p.params.length = m := ⟨_, rfl⟩
      have HM := Lib.hid hm
      have hpl := HPL.out
      obtain ⟨on, hon⟩ : ∃ n, out.length = n := ⟨_, rfl⟩
      have HON := Lib.hid hon
      obtain ⟨rn, hrn⟩ : ∃ n, R.length = n := ⟨_, rfl⟩
      have HRN := Lib.hid hrn
      rw [hm] at HX HB4 HB6 HB5 HPL hpl HT HOK HK HB0 ⊢
      rw [hon, hrn]
      clear hm HB5 hon hrn
      go_wp2_with fail
      go_loopw [9] (fun s9 wr => ∃ k : Nat, k ≤ m ∧ s9 = .int .i64 k ∧ Hid (Below w5.heap.size w5 wr)) (fun s9 _ => m - (intOf s9).toNat)
      case atStart => exact ⟨0, Nat.zero_le _, rfl, Below.refl _ _⟩
      case round =>
        obtain ⟨k, hk, rfl, HBr⟩ := hrel
        have hx6 := HX.out.below (below_2 HB6.out HBr.out)
        have u0 := hx6.cell 0
        have u1 := hx6.cell 1
        have u2 := hx6.cell 2
        simp only [List.getElem?_toArray, List.getElem?_cons_zero, List.getElem?_cons_succ] at u0 u1 u2
        by_cases hlt : k < m
        · have hlx : k < p.params.length := by rw [HM.out]; exact hlt
          obtain ⟨b3, i3, ha1, hcc⟩ := (HK.out.params.below (below_2 HB6.out HBr.out)).open hlx
          obtain ⟨f0, -⟩ := hcc k hlx
          rw [ha1] at u1
          have hne := HSe.out _ (List.getElem_mem hlx)
          have HA := Lib.hid (lhas_any out pl ql (p.params[k]).name (by have := HAl.out; omega) wr (HAs5.out.below HBr.out))
          have HR := Lib.hid (lhas_any R pt qt (p.params[k]).name (by have := HRl.out; omega) wr (HST.out.below HBr.out))
          rw [HON.out] at HA
          rw [HRN.out] at HR
          generalize (p.params[k]).name = q at f0 hne HA HR
          have hn2 : mem out q = false → mem R q = false := fun h => by
            refine Bool.eq_false_iff.2 fun z => hne (fun y => ?_) (mem_iff.1 z)
            rw [mem_iff.2 y] at h; cases h
          have HA2 : Hid (Calls Tryz.prog 27 #[.slice pl on ql, .string q] wr fun e' w' => e' = .returned (.bool (mem out q)) ∧ w' = wr) := HA.out
          have HR2 : Hid (Calls Tryz.prog 27 #[.slice pt rn qt, .string q] wr fun e' w' => e' = .returned (.bool (mem R q)) ∧ w' = wr) := HR.out
          generalize mem out q = ma at hn2 HA2
          generalize mem R q = mr at hn2 HR2
          clear hcc hne HA HR ha1
          cases ma with
          | true =>
            clear hn2
            go_wp2_with fail
            refine HA2.out.mono ?_; rintro e' w7 ⟨rfl, rfl⟩
            go_wp2_with fail
            go_roundw
            case rel => exact ⟨k + 1, by omega, by go_num, HBr.out⟩
            case measure => simp [intOf]; omega
          | false =>
            obtain rfl := hn2 rfl
            go_wp2_with fail
            refine HA2.out.mono ?_; rintro e' w7 ⟨rfl, rfl⟩
            go_wp2_with fail
            refine HR2.out.mono ?_; rintro e' w7 ⟨rfl, rfl⟩
            go_wp2_with fail
            go_roundw
            case rel => exact ⟨k + 1, by omega, by go_num, HBr.out⟩
            case measure => simp [intOf]; omega
        · have HBw6 := Lib.hid (below_2 HBw5.out HBr.out)
          have HB7 := Lib.hid (below_2 HB6.out HBr.out)
          have HST6 := Lib.hid (HST.out.below HBr.out)
          obtain ⟨w6, hw6⟩ : ∃ x, x = wr := ⟨_, rfl⟩
          subst hw6
          have HK0 : Hid (true = ((walk p).take 0).all (keyOk (mem R))) := rfl
          clear hx6 HBr HSe HAs5 HBw5 HB6 HST
          go_wp2_with fail
          clear u0 u1 u2
          go_loopw [5, 10] (fun s5 s10 wr => ∃ (k : Nat) (b : Bool), k ≤ g ∧ s10 = .int .i64 k ∧ s5 = .bool b ∧ Hid (b = ((walk p).take k).all (keyOk (mem R))) ∧ Hid (Below w6.heap.size w6 wr)) (fun _ s10 _ => g - (intOf s10).toNat)
          case atStart => exact ⟨0, true, Nat.zero_le _, rfl, rfl, HK0, Below.refl _ _⟩
          case round =>
            obtain ⟨k, b, hk, rfl, rfl, HBb, HBr⟩ := hrel
            have hlg : g ≤ 401 := by rw [← HG.out]; exact HLN.out
            by_cases hlt : k < g
            · have hlt2 : k < l'.length := by rw [HG.out]; exact hlt
              obtain ⟨g3, rfl, hcell⟩ := A.visit_cells HO.out hlt2
              have hlw : k < (walk p).length := by rw [← HWv.out, vs_len]; exact hlt2
              have hvk : (walk p)[k] = (l'[k]).v := by simp only [← HWv.out, vs, List.getElem_map]
              have hft := all_take (g := keyOk (mem R)) hlw
              rw [hvk] at hft
              have hvo := HVO.out _ (List.getElem_mem hlw)
              have hwm := List.getElem_mem hlw
              rw [hvk] at hvo hwm
              have hin := HI.out _ (List.getElem_mem hlt2)
              have hg3 : g3 < w4.heap.size := (World.ownsRow.lt HO.out g3 rfl).2
              have hbw : Below w4.heap.size w4 wr := below_2 HBw6.out HBr.out
              have hcr : ∀ r, r < 20 → wr.cell? ⟨g3, k * 20 + r, none⟩ = (l'[k]).cells[r]? := fun r hr => (hbw.cell (p := ⟨g3, k * 20 + r, none⟩) hg3).trans (hcell r hr)
              generalize l'[k] = y at hft hcr hvo hin hwm
              have HH : Hid (∀ x wk, Below wr.heap.size wr wk → Calls Tryz.prog 27 #[.slice pt rn qt, .string x] wk fun e' w' => e' = .returned (.bool (mem R x)) ∧ w' = wk) := fun x wk hb => by
                have := lhas_any R pt qt x (by have := HRl.out; omega) wk ((HST6.out.below HBr.out).below hb)
                rw [HRN.out] at this
                exact this
              rw [← HBb.out] at hft
              clear hvk hcell hlw hg3 HBb
              cases y with
              | st s d a5 c5 a6 c6 a7 c7 a8 c8 =>
                have f0 : wr.cell? ⟨g3, k * 20, none⟩ = some (.bool true) := hcr 0 (by omega)
                have f1 : wr.cell? ⟨g3, k * 20 + 1, none⟩ = some (.int .i64 s.op) := hcr 1 (by omega)
                have f4 : wr.cell? ⟨g3, k * 20 + 1 + 3, none⟩ = some (.int .i64 s.a.op) := hcr 4 (by omega)
                have f5 : wr.cell? ⟨g3, k * 20 + 1 + 3 + 1, none⟩ = some (.int .i64 s.a.n) := hcr 5 (by omega)
                have f6 : wr.cell? ⟨g3, k * 20 + 1 + 3 + 2, none⟩ = some (.string s.a.s) := hcr 6 (by omega)
                have f7 : wr.cell? ⟨g3, k * 20 + 1 + 3 + 3, none⟩ = some (.slice a5 s.a.args.length c5) := hcr 7 (by omega)
                have hbz := below_box wr (.cells #[.int .i64 s.a.op, .int .i64 s.a.n, .string s.a.s, .slice a5 s.a.args.length c5] 42)
                have HBz := Lib.hid hbz
                have HBq := Lib.hid (below_2 HBr.out hbz)
                have e0 := (hbz.cell (block_lt_of_cell f0)).trans f0
                have e1 := (hbz.cell (block_lt_of_cell f1)).trans f1
                have hft' : ((walk p).take (k + 1)).all (keyOk (mem R)) = (b && (!(decide (s.op = 3) || decide (s.op = 4)) || (decide (s.a.op = 2) || (decide (s.a.op = 3) && !mem R s.a.s)))) := hft
                clear hcr hin hvo hwm hft hbz hbw
                generalize s.a.args.length = n1 at *
                generalize s.a.op = o1 at *
                generalize s.a.n = m1 at *
                generalize s.a.s = s1 at *
                generalize s.op = o0 at *
                by_cases h3 : o0 = 3
                · subst h3
                  have HFT : Hid (((walk p).take (k + 1)).all (keyOk (mem R)) = (b && (decide (o1 = 2) || (decide (o1 = 3) && !mem R s1)))) := by show _ = _; rw [hft']; simp
                  clear hft'
                  cases b with
                  | false =>
                    have HX3 : Hid (false = ((walk p).take (k + 1)).all (keyOk (mem R))) := by show _ = _; rw [HFT.out]; rfl
                    go_wp2_with fail
                    go_roundw
                    case rel => exact ⟨k + 1, false, by omega, by go_num, rfl, HX3.out, HBq.out⟩
                    case measure => simp [intOf]; omega
                  | true =>
                    by_cases e2 : o1 = 2
                    · have HX3 : Hid (true = ((walk p).take (k + 1)).all (keyOk (mem R))) := by show _ = _; rw [HFT.out, decide_eq_true e2]; rfl
                      subst e2
                      go_wp2_with fail
                      go_roundw
                      case rel => exact ⟨k + 1, true, by omega, by go_num, rfl, HX3.out, HBq.out⟩
                      case measure => simp [intOf]; omega
                    · have c2 : (o1 == 2) = false := beq_eq_false_iff_ne.2 e2
                      by_cases e3 : o1 = 3
                      · have HX3 : Hid ((!mem R s1) = ((walk p).take (k + 1)).all (keyOk (mem R))) := by show _ = _; rw [HFT.out, decide_eq_false e2, decide_eq_true e3]; rfl
                        subst e3
                        have HHs := Lib.hid (HH.out s1)
                        generalize mem R s1 = ms at HX3 HHs
                        clear e2
                        go_wp2_with fail
                        refine (HHs.out _ HBz.out).mono ?_; rintro e' w7 ⟨rfl, rfl⟩
                        go_wp2_with fail
                        go_roundw
                        case rel => exact ⟨k + 1, !ms, by omega, by go_num, rfl, HX3.out, HBq.out⟩
                        case measure => simp [intOf]; omega
                      · have c3 : (o1 == 3) = false := beq_eq_false_iff_ne.2 e3
                        have HX3 : Hid (false = ((walk p).take (k + 1)).all (keyOk (mem R))) := by show _ = _; rw [HFT.out, decide_eq_false e2, decide_eq_false e3]; rfl
                        clear e2 e3
                        go_wp2_with fail
                        go_roundw
                        case rel => exact ⟨k + 1, false, by omega, by go_num, rfl, HX3.out, HBq.out⟩
                        case measure => simp [intOf]; omega
                · have c3' : (o0 == 3) = false := beq_eq_false_iff_ne.2 h3
                  have d3 : (o0 != 3) = true := bne_iff_ne.2 h3
                  by_cases h4 : o0 = 4
                  · subst h4
                    have HFT : Hid (((walk p).take (k + 1)).all (keyOk (mem R)) = (b && (decide (o1 = 2) || (decide (o1 = 3) && !mem R s1)))) := by show _ = _; rw [hft']; simp
                    clear hft'
                    cases b with
                    | false =>
                      have HX3 : Hid (false = ((walk p).take (k + 1)).all (keyOk (mem R))) := by show _ = _; rw [HFT.out]; rfl
                      go_wp2_with fail
                      go_roundw
                      case rel => exact ⟨k + 1, false, by omega, by go_num, rfl, HX3.out, HBq.out⟩
                      case measure => simp [intOf]; omega
                    | true =>
                      by_cases e2 : o1 = 2
                      · have HX3 : Hid (true = ((walk p).take (k + 1)).all (keyOk (mem R))) := by show _ = _; rw [HFT.out, decide_eq_true e2]; rfl
                        subst e2
                        go_wp2_with fail
                        go_roundw
                        case rel => exact ⟨k + 1, true, by omega, by go_num, rfl, HX3.out, HBq.out⟩
                        case measure => simp [intOf]; omega
                      · have c2 : (o1 == 2) = false := beq_eq_false_iff_ne.2 e2
                        by_cases e3 : o1 = 3
                        · have HX3 : Hid ((!mem R s1) = ((walk p).take (k + 1)).all (keyOk (mem R))) := by show _ = _; rw [HFT.out, decide_eq_false e2, decide_eq_true e3]; rfl
                          subst e3
                          have HHs := Lib.hid (HH.out s1)
                          generalize mem R s1 = ms at HX3 HHs
                          clear e2
                          go_wp2_with fail
                          refine (HHs.out _ HBz.out).mono ?_; rintro e' w7 ⟨rfl, rfl⟩
                          go_wp2_with fail
                          go_roundw
                          case rel => exact ⟨k + 1, !ms, by omega, by go_num, rfl, HX3.out, HBq.out⟩
                          case measure => simp [intOf]; omega
                        · have c3 : (o1 == 3) = false := beq_eq_false_iff_ne.2 e3
                          have HX3 : Hid (false = ((walk p).take (k + 1)).all (keyOk (mem R))) := by show _ = _; rw [HFT.out, decide_eq_false e2, decide_eq_false e3]; rfl
                          clear e2 e3
                          go_wp2_with fail
                          go_roundw
                          case rel => exact ⟨k + 1, false, by omega, by go_num, rfl, HX3.out, HBq.out⟩
                          case measure => simp [intOf]; omega
                  · have c4' : (o0 == 4) = false := beq_eq_false_iff_ne.2 h4
                    have d4 : (o0 != 4) = true := bne_iff_ne.2 h4
                    have HX3 : Hid (b = ((walk p).take (k + 1)).all (keyOk (mem R))) := by show _ = _; rw [hft', decide_eq_false h3, decide_eq_false h4]; simp
                    clear hft' h3 h4
                    go_wp2_with fail
                    go_roundw
                    case rel => exact ⟨k + 1, b, by omega, by go_num, rfl, HX3.out, HBq.out⟩
                    case measure => simp [intOf]; omega
              | ex e r a5 c5 =>
                have f0 : wr.cell? ⟨g3, k * 20, none⟩ = some (.bool false) := hcr 0 (by omega)
                have f1 : wr.cell? ⟨g3, k * 20 + 1, none⟩ = some (.int .i64 0) := hcr 1 (by omega)
                have f4 : wr.cell? ⟨g3, k * 20 + 1 + 3, none⟩ = some (.int .i64 0) := hcr 4 (by omega)
                have f5 : wr.cell? ⟨g3, k * 20 + 1 + 3 + 1, none⟩ = some (.int .i64 0) := hcr 5 (by omega)
                have f6 : wr.cell? ⟨g3, k * 20 + 1 + 3 + 2, none⟩ = some (.string ⟨#[]⟩) := hcr 6 (by omega)
                have f7 : wr.cell? ⟨g3, k * 20 + 1 + 3 + 3, none⟩ = some (.slice none 0 0) := hcr 7 (by omega)
                have f15 : wr.cell? ⟨g3, k * 20 + 15, none⟩ = some (.int .i64 e.op) := hcr 15 (by omega)
                have f18 : wr.cell? ⟨g3, k * 20 + 15 + 3, none⟩ = some (.slice a5 e.args.length c5) := hcr 18 (by omega)
                have hbz := below_box wr (.cells #[.int .i64 0, .int .i64 0, .string ⟨#[]⟩, .slice none 0 0] 42)
                have HBz := Lib.hid hbz
                have HBq := Lib.hid (below_2 HBr.out hbz)
                have e0 := (hbz.cell (block_lt_of_cell f0)).trans f0
                have e1 := (hbz.cell (block_lt_of_cell f1)).trans f1
                have e15 := (hbz.cell (block_lt_of_cell f15)).trans f15
                have e18 := (hbz.cell (block_lt_of_cell f18)).trans f18
                have HAc := Lib.hid (fun wk => raccess_any e.op wk)
                have hkk : A.Kids w3 a5 e.args := hin
                have har := HAr2.out e r hwm
                cases hac : acc e.op with
                | false =>
                  have HX3 : Hid (b = ((walk p).take (k + 1)).all (keyOk (mem R))) := by
                    show _ = _
                    rw [hft]
                    show b = (b && (!acc e.op || _))
                    rw [hac]; simp
                  have HA2 : Hid (∀ wk, Calls Tryz.prog 28 #[.int .i64 e.op] wk fun e' w' => e' = .returned (.bool false) ∧ w' = wk) := fun wk => by rw [← hac]; exact HAc.out wk
                  clear hcr hin hvo hwm hft hbz hbw hkk har hac HAc
                  generalize e.args.length = n1 at *
                  generalize e.op = o1 at *
                  go_wp2_with fail
                  refine (HA2.out _).mono ?_; rintro e' w7 ⟨rfl, rfl⟩
                  go_wp2_with fail
                  go_roundw
                  case rel => exact ⟨k + 1, b, by omega, by go_num, rfl, HX3.out, HBq.out⟩
                  case measure => simp [intOf]; omega
                | true =>
                  have hlen := har hac
                  have hft' : ((walk p).take (k + 1)).all (keyOk (mem R)) = (b && (decide ((e.args[0]).op = 2) || (decide ((e.args[0]).op = 3) && !mem R (e.args[0]).s))) := by
                    rw [hft]
                    show (b && (!acc e.op || _)) = _
                    rw [hac]
                    exact congrArg (fun z => (b && (!true || z))) (head_plain (T := mem R) hlen)
                  have HFT := Lib.hid hft'
                  have HA2 : Hid (∀ wk, Calls Tryz.prog 28 #[.int .i64 e.op] wk fun e' w' => e' = .returned (.bool true) ∧ w' = wk) := fun wk => by rw [← hac]; exact HAc.out wk
                  obtain ⟨b9, i9, rfl, hat⟩ := (hkk.below (below_2 HB34.out hbw)).open hlen
                  obtain ⟨d0', d1', d2', a9, c9, d3', -⟩ := hat.open
                  simp only [Nat.zero_mul, Nat.add_zero] at d0' d1' d2' d3'
                  have d0 := (hbz.cell (block_lt_of_cell d0')).trans d0'
                  have d1 := (hbz.cell (block_lt_of_cell d1')).trans d1'
                  have d2 := (hbz.cell (block_lt_of_cell d2')).trans d2'
                  have d3 := (hbz.cell (block_lt_of_cell d3')).trans d3'
                  have hlp : (0 : Int) < (e.args.length : Int) := by omega
                  have hfz := (Bx.new wr #[.int .i64 0, .int .i64 0, .string ⟨#[]⟩, .slice none 0 0] 42)
                  have HFZ := Lib.hid hfz
                  clear hcr hin hvo hwm hft hft' hbw hkk har hac HAc hat hfz d0' d1' d2' d3' hbz
                  generalize (e.args[0]).args.length = n2 at *
                  generalize (e.args[0]).op = o2 at *
                  generalize (e.args[0]).n = m2 at *
                  generalize (e.args[0]).s = s2 at *
                  generalize e.args.length = n1 at *
                  generalize e.op = o1 at *
                  go_wp2_with fail
                  refine (HA2.out _).mono ?_; rintro e' w7 ⟨rfl, rfl⟩
                  have HBz2 := Lib.hid (below_box wr (.cells #[.int .i64 o2, .int .i64 m2, .string s2, .slice a9 n2 c9] 42))
                  have HBq2 := Lib.hid (below_2 HBr.out HBz2.out)
                  cases b with
                  | false =>
                    have HX3 : Hid (false = ((walk p).take (k + 1)).all (keyOk (mem R))) := by show _ = _; rw [HFT.out]; rfl
                    go_wp2_with fail
                    go_roundw
                    case rel => exact ⟨k + 1, false, by omega, by go_num, rfl, HX3.out, HBq2.out⟩
                    case measure => simp [intOf]; omega
                  | true =>
                    by_cases e2 : o2 = 2
                    · have HX3 : Hid (true = ((walk p).take (k + 1)).all (keyOk (mem R))) := by show _ = _; rw [HFT.out, decide_eq_true e2]; rfl
                      subst e2
                      go_wp2_with fail
                      go_roundw
                      case rel => exact ⟨k + 1, true, by omega, by go_num, rfl, HX3.out, HBq2.out⟩
                      case measure => simp [intOf]; omega
                    · have c2 : (o2 == 2) = false := beq_eq_false_iff_ne.2 e2
                      by_cases e3 : o2 = 3
                      · have HX3 : Hid ((!mem R s2) = ((walk p).take (k + 1)).all (keyOk (mem R))) := by show _ = _; rw [HFT.out, decide_eq_false e2, decide_eq_true e3]; rfl
                        subst e3
                        have HHs := Lib.hid (HH.out s2)
                        generalize mem R s2 = ms at HX3 HHs
                        clear e2
                        go_wp2_with fail
                        refine (HHs.out _ HBz2.out).mono ?_; rintro e' w7 ⟨rfl, rfl⟩
                        go_wp2_with fail
                        go_roundw
                        case rel => exact ⟨k + 1, !ms, by omega, by go_num, rfl, HX3.out, HBq2.out⟩
                        case measure => simp [intOf]; omega
                      · have c3 : (o2 == 3) = false := beq_eq_false_iff_ne.2 e3
                        have HX3 : Hid (false = ((walk p).take (k + 1)).all (keyOk (mem R))) := by show _ = _; rw [HFT.out, decide_eq_false e2, decide_eq_false e3]; rfl
                        clear e2 e3
                        go_wp2_with fail
                        go_roundw
                        case rel => exact ⟨k + 1, false, by omega, by go_num, rfl, HX3.out, HBq2.out⟩
                        case measure => simp [intOf]; omega
            · have hbb := HBb.out
              rw [List.take_of_length_le (by rw [← HWv.out, vs_len, HG.out]; omega)] at hbb
              have hx7 := HX.out.below (below_2 HB7.out HBr.out)
              have u0 := hx7.cell 0
              have u1 := hx7.cell 1
              have u2 := hx7.cell 2
              simp only [List.getElem?_toArray, List.getElem?_cons_zero, List.getElem?_cons_succ] at u0 u1 u2
              have HKN : Hid (b = true → KT = false) := fun h => HKe2.out (fun v hv => List.all_eq_true.1 (hbb.symm.trans h) v hv)
              have HOK7 := Lib.hid (HOK.out wr (HT.out.below (below_2 HB7.out HBr.out)) ((HK.out.below (below_2 HB7.out HBr.out))))
              have HBf := Lib.hid (below_2 HB7.out HBr.out)
              clear hbb hx7 HBb
              cases b with
              | false =>
                go_wp2_with fail
                refine (HW.out _ (HT.out.below HBf.out)).mono ?_; rintro e' w8 ⟨rfl, hb8⟩
                have HB8 := Lib.hid (below_2 (below_2 HB0.out HBf.out) hb8)
                clear hb8
                go_wp2_with fail
                go_ret
                exact ⟨rfl, HB8.out⟩
              | true =>
                obtain rfl := HKN.out rfl
                go_wp2_with fail
                refine HOK7.out.mono ?_; rintro e' w7 ⟨rfl, hb7⟩
                have HBg := Lib.hid (below_2 HBf.out hb7)
                clear hb7 u0 u1 u2
                go_wp2_with fail
                refine (HW.out _ (HT.out.below HBg.out)).mono ?_; rintro e' w8 ⟨rfl, hb8⟩
                have HB8 := Lib.hid (below_2 (below_2 HB0.out HBg.out) hb8)
                clear hb8
                go_wp2_with fail
                go_ret
                exact ⟨rfl, HB8.out⟩
end Go.Proofs.YtnelpgeiioflmaaGreatDoor.F
