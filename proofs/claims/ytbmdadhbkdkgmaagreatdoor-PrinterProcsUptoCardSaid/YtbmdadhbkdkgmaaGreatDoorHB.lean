/-
  What the reference of layer 8 returns: params: a contract.
  What the reference of layer 8 returns: Validate: a contract (over stmt's).
  What the reference of layer 8 returns: stmt: what its walks share.
-/
import Derived.BigQuiet
import Derived.Test.YtbmdadhbkdkgmaaGreatDoorGE
import Derived.Test.YtbmdadhbkdkgmaaGreatDoorGF
import Derived.Test.YtbmdadhbkdkgmaaGreatDoorGU
import Derived.Deep.RegionLaw
import Derived.Test.YtbmdadhbkdkgmaaGreatDoorGS
import Derived.Test.YtbmdadhbkdkgmaaGreatDoorGH
namespace Go.Proofs.YtbmdadhbkdkgmaaGreatDoor.A
open Go.RowKit
open L (Str isName prt size_len below_2 below_box ret_bool ret_int eql_eq bytes_eq isName_any)

set_option maxHeartbeats 8000000 in
set_option maxRecDepth 100000 in
theorem rparams_any (l : List Pm) (a : Option Addr) (c : Nat) (hl : l.length ≤ 1000000000000000) (hns : ∀ j (h : j < l.length), l[j].name.size ≤ 1000000000000000) (w : World) (hK : PmsAt w a l) :
    Calls Tryz.prog 26 #[.slice a l.length c] w fun e' w' => e' = .returned (.int .i64 (parE l)) ∧ Below w.heap.size w w' := by
  have HK := Lib.hid hK
  have HNS := Lib.hid hns
  have hpe : parE l = if 6 < l.length then 2 else parF [] l := rfl
  obtain ⟨R, hR⟩ : ∃ R, parE l = R := ⟨_, rfl⟩
  rw [hR] at hpe ⊢
  have HP : Hid (l.length ≤ 6 → parF ((l.take 0).map Pm.name) (l.drop 0) = R) := fun h => by rw [hpe, if_neg (by omega)]; rfl
  have HP2 : Hid (6 < l.length → R = 2) := fun h => by rw [hpe, if_pos h]
  obtain ⟨m, hm⟩ : ∃ m, l.length = m := ⟨_, rfl⟩
  have HL := Lib.hid hm
  rw [hm] at hl HP HP2 ⊢
  clear hm hR hK hpe hns
  by_cases h6 : 6 < m
  · have HV : Hid (R = 2) := HP2.out h6
    have b6 : decide (6 < (m : Int)) = true := decide_eq_true (by omega)
    clear h6
    go_enter Tryz.func26, Tryz.ntmps26
    go_wp2_with fail
    go_ret
    exact ⟨ret_int HV.out.symm, Below.refl _ _⟩
  · have HR := Lib.hid (HP.out (by omega))
    have b6 : decide (6 < (m : Int)) = false := decide_eq_false (by omega)
    clear HP HP2
    go_enter Tryz.func26, Tryz.ntmps26
    go_wp2_with fail
    go_loopw [3] (fun s3 wr => ∃ k : Nat, k ≤ m ∧ s3 = .int .i64 k ∧ Hid (parF ((l.take k).map Pm.name) (l.drop k) = R) ∧ Hid (Below w.heap.size w wr)) (fun s3 _ => m - (intOf s3).toNat)
    case atStart => exact ⟨0, Nat.zero_le _, rfl, HR, Below.refl _ _⟩
    case round =>
      obtain ⟨k, hk, rfl, HX, HB⟩ := hrel
      by_cases hlt : k < m
      · have hlx : k < l.length := by rw [HL.out]; exact hlt
        have hx := HX.out
        rw [parF_drop hlx] at hx
        obtain ⟨b3, i3, rfl, hcc⟩ := (HK.out.below HB.out).open hlx
        obtain ⟨f0, f1⟩ := hcc k hlx
        have HCC : Hid (∀ j (h : j < l.length), wr.cell? ⟨b3, i3 + j * 2, none⟩ = some (.string l[j].name)) := fun j h => (hcc j h).1
        have HI : Hid (∀ w, Calls Tryz.prog 25 #[.string l[k].name] w fun e' w' => e' = .returned (.bool (nam l[k].name)) ∧ Below w.heap.size w w') := fun w => isName_any l[k].name (by have := HNS.out k hlx; omega) w
        have HG0 := Lib.hid f0
        have HG1 := Lib.hid f1
        have hy : ∀ j, j < k → ∀ h : j < l.length, l[j].name = l[k].name → (l.take k).any (fun q => decide (q.name = l[k].name)) = true := by
          intro j hj h hh
          rw [List.any_eq_true]
          refine ⟨l[j], ?_, decide_eq_true hh⟩
          rw [List.mem_take_iff_getElem]
          exact ⟨j, by omega, rfl⟩
        have hn : (∀ j, j < k → ∀ h : j < l.length, ¬ l[j].name = l[k].name) → (l.take k).any (fun q => decide (q.name = l[k].name)) = false := by
          intro hh
          rw [List.any_eq_false]
          intro q hq
          obtain ⟨j, hj, rfl⟩ := List.mem_take_iff_getElem.1 hq
          rw [decide_eq_true_eq]
          exact hh j (by omega) (by omega)
        have HY := Lib.hid hy
        have HN := Lib.hid hn
        clear hy hn
        generalize (l.take k).any (fun q => decide (q.name = l[k].name)) = y at HY HN hx
        obtain ⟨q, hq⟩ : ∃ q, l[k] = q := ⟨_, rfl⟩
        rw [hq] at f0 f1 HI HG0 HG1 HY HN hx
        clear hcc hq
        obtain ⟨nm, hnm⟩ : ∃ v, nam q.name = v := ⟨_, rfl⟩
        rw [hnm] at HI hx
        clear hnm
        cases nm
        · have HV : Hid (R = 7) := by show _ = _; rw [← hx, if_pos rfl]
          clear hx f1
          go_wp2_with fail
          refine (HI.out _).mono ?_; rintro e w2 ⟨rfl, hb2⟩
          have HB2 := Lib.hid (below_2 HB.out hb2)
          clear hb2
          go_wp2_with fail
          go_ret
          exact ⟨ret_int HV.out.symm, HB2.out⟩
        · rw [if_neg (by decide)] at hx
          clear f1
          go_wp2_with fail
          refine (HI.out _).mono ?_; rintro e w2 ⟨rfl, hb2⟩
          have HB2 := Lib.hid (below_2 HB.out hb2)
          have g0 := (hb2.cell (block_lt_of_cell HG0.out)).trans HG0.out
          have g1 := (hb2.cell (block_lt_of_cell HG1.out)).trans HG1.out
          have HC2 : Hid (∀ j (h : j < l.length), w2.cell? ⟨b3, i3 + j * 2, none⟩ = some (.string l[j].name)) := fun j h => (hb2.cell (block_lt_of_cell (HCC.out j h))).trans (HCC.out j h)
          clear hb2 f0
          by_cases hty : q.ty < 1 ∨ 3 < q.ty
          · have HV : Hid (R = 10) := by show _ = _; rw [← hx, if_pos hty]
            clear hx g0
            obtain ⟨t1, ht1⟩ : ∃ v, decide (q.ty < 1) = v := ⟨_, rfl⟩
            cases t1
            · have t3 : decide (3 < q.ty) = true := decide_eq_true (by have := of_decide_eq_false ht1; omega)
              clear hty
              go_wp2_with fail
              go_ret
              exact ⟨ret_int HV.out.symm, HB2.out⟩
            · clear hty
              go_wp2_with fail
              go_ret
              exact ⟨ret_int HV.out.symm, HB2.out⟩
          · rw [if_neg hty] at hx
            have t1 : decide (q.ty < 1) = false := decide_eq_false (by omega)
            have t3 : decide (3 < q.ty) = false := decide_eq_false (by omega)
            have HXX := Lib.hid hx
            have HGG := Lib.hid g0
            clear hty hx g0
            go_wp2_with fail
            go_loopw [4] (fun s4 w3 => ∃ j : Nat, j ≤ k ∧ s4 = .int .i64 j ∧ Hid (∀ i, i < j → ∀ h : i < l.length, ¬ l[i].name = q.name) ∧ Hid (Below w2.heap.size w2 w3)) (fun s4 _ => k - (intOf s4).toNat)
            case atStart => exact ⟨0, Nat.zero_le _, rfl, fun i h => absurd h (Nat.not_lt_zero _), Below.refl _ _⟩
            case round =>
              obtain ⟨j, hj, rfl, HJ, HB3⟩ := hrel
              have HBB := Lib.hid (below_2 HB2.out HB3.out)
              by_cases hjk : j < k
              · have hjl : j < l.length := by omega
                have e0 := (HB3.out.cell (block_lt_of_cell (HC2.out j hjl))).trans (HC2.out j hjl)
                have g0 := (HB3.out.cell (block_lt_of_cell HGG.out)).trans HGG.out
                have HYY := Lib.hid (HY.out j hjk hjl)
                have HJN : Hid (¬ l[j].name = q.name → ∀ i, i < j + 1 → ∀ h : i < l.length, ¬ l[i].name = q.name) := by
                  intro hne i hi h
                  by_cases hij : i = j
                  · subst hij; exact hne
                  · exact HJ.out i (by omega) h
                generalize l[j] = r at e0 HYY HJN
                clear g1
                by_cases hsm : r.name = q.name
                · have hb := eql_yes hsm
                  have HV : Hid (R = 8) := by show _ = _; rw [← HXX.out, if_pos (HYY.out hsm)]
                  clear hsm
                  go_wp2_with fail
                  go_quiet (fail)
                  go_wp2_with fail
                  go_ret
                  exact ⟨ret_int HV.out.symm, below_2 HBB.out (below_dn _ _)⟩
                · have hb := eql_no hsm
                  have HV := Lib.hid (HJN.out hsm)
                  clear hsm
                  go_wp2_with fail
                  go_quiet (fail)
                  go_wp2_with fail
                  go_roundw
                  case rel => exact ⟨j + 1, by omega, by go_num, HV.out, below_2 HB3.out (below_dn _ _)⟩
                  case measure => simp [intOf]; omega
              · have hy0 := HN.out (fun i hi h => HJ.out i (by omega) h)
                have hx := HXX.out
                rw [if_neg (by rw [hy0]; decide)] at hx
                have HNX := Lib.hid hx
                clear hx g1
                go_wp2_with fail
                go_roundw
                case rel => exact ⟨k + 1, by omega, by go_num, HNX, HBB⟩
                case measure => simp [intOf]; omega
      · have HV : Hid (R = 0) := by
          show _ = _
          rw [← HX.out, List.drop_of_length_le (by rw [HL.out]; omega), parF]
        go_wp2_with fail
        go_ret
        exact ⟨ret_int HV.out.symm, HB.out⟩
end Go.Proofs.YtbmdadhbkdkgmaaGreatDoor.A
namespace Go.Proofs.YtbmdadhbkdkgmaaGreatDoor.A
open Go.RowKit
open L (Str isName prt size_len below_2 below_box ret_bool ret_int eql_eq bytes_eq isName_any)

/-- what the reference's stmt returns -/
def RStmt : Prop := ∀ (s : St) (a1 : Option Addr) (c1 : Nat) (a2 : Option Addr) (c2 : Nat) (a3 : Option Addr) (c3 : Nat) (a4 : Option Addr) (c4 : Nat) (d : Nat), d ≤ 1000000 → okS s → ∀ w0 : World, StKids w0 s a1 a2 a3 a4 →
    Calls Tryz.prog 28 #[stC s a1 c1 a2 c2 a3 c3 a4 c4, .int .i64 (d : Int)] w0 fun e' w' => e' = .returned (.int .i64 (stE s d)) ∧ Below w0.heap.size w0 w'
def VOk (n : Nat) : V → Prop
  | .st s d => okS s ∧ d ≤ n
  | .ex _ _ => True
theorem VOk.mono {n k : Nat} {v : V} (h : VOk n v) (hn : n ≤ k) : VOk k v := by
  cases v with
  | st s d => exact ⟨h.1, Nat.le_trans h.2 hn⟩
  | ex e r => trivial
/-- the node at place j lies at most j blocks deeper than n -/
def Dp (n : Nat) (l : List V) : Prop := ∀ j v, l[j]? = some v → VOk (n + j) v
theorem Dp.nil (n : Nat) : Dp n [] := fun j v h => by simp at h
theorem Dp.cons {n : Nat} {v : V} {l : List V} (h : VOk n v) (h2 : Dp (n + 1) l) : Dp n (v :: l) := fun j x hx => by
  cases j with
  | zero => simp at hx; subst hx; exact h
  | succ j => exact (h2 j x (by simpa using hx)).mono (by omega)
theorem Dp.app {n : Nat} {a b : List V} (h : Dp n a) (h2 : Dp n b) : Dp n (a ++ b) := fun j x hx => by
  by_cases hj : j < a.length
  · rw [List.getElem?_append_left hj] at hx; exact h j x hx
  · rw [List.getElem?_append_right (by omega)] at hx; exact (h2 _ x hx).mono (by omega)
theorem Dp.le {n k : Nat} {l : List V} (h : Dp n l) (hn : n ≤ k) : Dp k l := fun j x hx => (h j x hx).mono (by omega)
mutual
theorem preE_ok (n : Nat) : ∀ (e : Ex) (r : Bool), ∀ v ∈ preE e r, VOk n v
  | .mk o m s l, r, v, h => by
    rw [preE] at h
    rcases List.mem_cons.1 h with rfl | h
    · trivial
    · exact preEs_ok n l v h
theorem preEs_ok (n : Nat) : ∀ (l : List Ex), ∀ v ∈ preEs l, VOk n v
  | [], v, h => by rw [preEs] at h; cases h
  | e :: r, v, h => by
    rw [preEs] at h
    rcases List.mem_append.1 h with h | h
    · exact preE_ok n e false v h
    · exact preEs_ok n r v h
end
theorem preR_ok (n : Nat) (e : Ex) : Dp n (preR e) := by
  intro j v h
  have hm := List.mem_of_getElem? h
  unfold preR at hm
  split at hm
  · cases hm
  · exact preE_ok (n + j) e true v hm
mutual
theorem preS_ok : ∀ (s : St) (d : Nat), okS s → Dp d (preS s d)
  | .mk o nm mx a b bd el, d, hok => by
    have hp := hok
    rw [okS] at hp
    obtain ⟨_, _, _, _, _, _, h1, _, h2⟩ := hp
    rw [preS]
    refine Dp.cons ⟨hok, Nat.le_refl d⟩ ?_
    exact (((preR_ok (d + 1) a).app (preR_ok (d + 1) b)).app (preB_ok bd (d + 1) h1)).app (preB_ok el (d + 1) h2)
theorem preB_ok : ∀ (l : List St) (d : Nat), okB l → Dp d (preB l d)
  | [], d, _ => by rw [preB]; exact Dp.nil d
  | s :: r, d, hok => by
    rw [okB] at hok
    rw [preB]
    exact (preS_ok s d hok.1).app (preB_ok r d hok.2)
end
theorem walk_ok {p : Pr} (hok : okB p.body) : ∀ v ∈ walk p, VOk 1000000 v := fun v h => by
  obtain ⟨j, hj, rfl⟩ := List.getElem_of_mem h
  unfold walk at hj ⊢
  have hj2 : j < 401 := by rw [List.length_take] at hj; omega
  rw [List.getElem_take]
  exact (preB_ok p.body 1 hok j _ (List.getElem?_eq_getElem _)).mono (by omega)
theorem firstE_drop {l : List V} {k : Nat} (h : k < l.length) : firstE (l.drop k) = match l[k] with | .st s d => if stE s d ≠ 0 then stE s d else firstE (l.drop (k + 1)) | .ex _ _ => firstE (l.drop (k + 1)) := by
  rw [List.drop_eq_getElem_cons h]
  cases l[k] <;> rfl
set_option maxHeartbeats 8000000 in
set_option maxRecDepth 100000 in
theorem rvalidate_any (hst : RStmt) (p : Pr) (a1 a2 : Option Addr) (c1 c2 : Nat) (hok : OkP p) (w : World) (hK : PrIn w p a1 a2) :
    Calls Tryz.prog 12 #[prV p a1 c1 a2 c2] w fun e' w' => e' = .returned (.int .i64 (valE p)) ∧ Below w.heap.size w w' := by
  have hw := below_box w (prO p a1 c1 a2 c2)
  have HBL := Lib.hid (fun w' hb => proc_later (w := w) (w' := w') (p := p) (a1 := a1) (a2 := a2) (c1 := c1) (c2 := c2) hb)
  have HI : Hid (∀ w, Calls Tryz.prog 25 #[.string p.name] w fun e' w' => e' = .returned (.bool (nam p.name)) ∧ Below w.heap.size w w') := fun w => isName_any p.name (by have := hok.name; omega) w
  have HPE := Lib.hid (fun w' h => rparams_any p.params a1 c1 hok.params hok.each w' h)
  have HC := Lib.hid (fun w' hK => rwalk_any p a1 a2 c1 c2 hok.body hok.bodyLen w' hK)
  have HVO := Lib.hid (walk_ok hok.body)
  have HST := Lib.hid hst
  have HK := Lib.hid hK
  have HW := Lib.hid hw
  have hv := val_cases p
  have hn : (walk p).length ≤ 401 := by unfold walk; rw [List.length_take]; omega
  have hnn : nodes p = (walk p).length := rfl
  rw [hnn] at hv
  generalize valE p = R at hv ⊢
  have HV := Lib.hid hv
  clear hv hw hK hok hst hnn
  unfold prO at HBL HW
  unfold prV at *
  generalize nam p.name = nm at HI HV
  cases nm
  · have HR : Hid (R = 7) := by show _ = _; rw [HV.out, if_pos rfl]
    go_enter Tryz.func12, Tryz.ntmps12
    go_wp2_with fail
    refine (HI.out _).mono ?_; rintro e w2 ⟨rfl, hb2⟩
    have HB2 := Lib.hid (below_2 HW.out hb2)
    clear hb2
    go_wp2_with fail
    go_ret
    exact ⟨ret_int HR.out.symm, HB2.out⟩
  · go_enter Tryz.func12, Tryz.ntmps12
    go_wp2_with fail
    refine (HI.out _).mono ?_; rintro e w2 ⟨rfl, hb2⟩
    have HBX := Lib.hid hb2
    clear hb2
    obtain ⟨j0, j1, j2⟩ := HBL.out _ HBX.out
    go_wp2_with fail
    refine (HPE.out _ (HK.out.below (below_2 HW.out HBX.out)).params).mono ?_; rintro e w3 ⟨rfl, hb3⟩
    have HBX := Lib.hid (below_2 HBX.out hb3)
    clear hb3 j0 j1 j2
    by_cases hp : parE p.params = 0
    · have bp : (parE p.params != 0) = false := by rw [bne_eq_false_iff_eq]; exact hp
      have HR2 : Hid (R = if firstE (walk p) ≠ 0 then firstE (walk p) else if 400 < (walk p).length then 2 else 0) := by show _ = _; rw [HV.out, if_neg (by decide), if_neg (fun h => h hp)]
      obtain ⟨j0, j1, j2⟩ := HBL.out _ HBX.out
      have HC2 := Lib.hid (HC.out w3 (HK.out.below (below_2 HW.out HBX.out)).body)
      clear hp
      go_wp2_with fail
      refine HC2.out.mono ?_; rintro e w4 ⟨p3, q3, l', rfl, ho, hi, hvv, hb4⟩
      have HO := Lib.hid ho
      have HIn := Lib.hid hi
      have HWK := Lib.hid hvv
      have HB4 := Lib.hid (below_2 (below_2 HW.out HBX.out) hb4)
      have hlw : l'.length = (walk p).length := by rw [← vs_len, hvv]
      have HLW := Lib.hid hlw
      have hln : l'.length ≤ 401 := by rw [hlw]; exact hn
      have hz4 := hb4.size
      have HI4 : Hid (∀ x ∈ l', x.In w4) := fun x hx => (hi x hx).below hb4
      clear ho hi hvv hb4 hlw j0 j1 j2 bp
      go_wp2_with fail
      go_loopw [5] (fun s5 wr => ∃ k : Nat, k ≤ l'.length ∧ s5 = .int .i64 k ∧ Hid (firstE ((walk p).drop k) = firstE (walk p)) ∧ Hid (Below w4.heap.size w4 wr)) (fun s5 _ => l'.length - (intOf s5).toNat)
      case atStart => exact ⟨0, Nat.zero_le _, rfl, rfl, Below.refl _ _⟩
      case round =>
        obtain ⟨k, hk, rfl, HX, HBr⟩ := hrel
        have HBB := Lib.hid (below_2 HB4.out HBr.out)
        by_cases hlt : k < l'.length
        · obtain ⟨g3, rfl, hcell⟩ := visit_cells HO.out hlt
          have hlx : k < (walk p).length := by rw [← HLW.out]; exact hlt
          have hvk : (walk p)[k] = (l'[k]).v := by simp only [← HWK.out, vs, List.getElem_map]
          have hx := HX.out
          rw [firstE_drop hlx, hvk] at hx
          have hin := HI4.out _ (List.getElem_mem hlt)
          have hvo := HVO.out _ (List.getElem_mem hlx)
          rw [hvk] at hvo
          have hg3 : g3 < w4.heap.size := by
            have h := hcell 0 (by omega)
            cases hh : l'[k] with
            | st s d a5 c5 a6 c6 a7 c7 a8 c8 => rw [hh] at h; exact block_lt_of_cell (show w4.cell? ⟨g3, k * 20 + 0, none⟩ = some (.bool true) from h)
            | ex e r a5 c5 => rw [hh] at h; exact block_lt_of_cell (show w4.cell? ⟨g3, k * 20 + 0, none⟩ = some (.bool false) from h)
          have hcr : ∀ r, r < 20 → wr.cell? ⟨g3, k * 20 + r, none⟩ = (l'[k]).cells[r]? := fun r hr => (HBr.out.cell (by exact hg3)).trans (hcell r hr)
          generalize l'[k] = y at hcr hx hin hvo
          clear hvk hcell
          cases y with
          | ex e r a5 c5 =>
            have f0 : wr.cell? ⟨g3, k * 20, none⟩ = some (.bool false) := hcr 0 (by omega)
            have HX2 : Hid (firstE ((walk p).drop (k + 1)) = firstE (walk p)) := hx
            clear hcr hx hin hvo
            go_wp2_with fail
            go_roundw
            case rel => exact ⟨k + 1, by omega, by go_num, HX2.out, HBr.out⟩
            case measure => simp [intOf]; omega
          | st s d a5 c5 a6 c6 a7 c7 a8 c8 =>
            have f0 : wr.cell? ⟨g3, k * 20, none⟩ = some (.bool true) := hcr 0 (by omega)
            have e0 : wr.cell? ⟨g3, k * 20 + 1, none⟩ = some (.int .i64 s.op) := hcr 1 (by omega)
            have e1 : wr.cell? ⟨g3, k * 20 + 1 + 1, none⟩ = some (.string s.name) := hcr 2 (by omega)
            have e2 : wr.cell? ⟨g3, k * 20 + 1 + 2, none⟩ = some (.int .i64 s.mx) := hcr 3 (by omega)
            have e3 : wr.cell? ⟨g3, k * 20 + 1 + 3, none⟩ = some (.int .i64 s.a.op) := hcr 4 (by omega)
            have e4 : wr.cell? ⟨g3, k * 20 + 1 + 4, none⟩ = some (.int .i64 s.a.n) := hcr 5 (by omega)
            have e5 : wr.cell? ⟨g3, k * 20 + 1 + 5, none⟩ = some (.string s.a.s) := hcr 6 (by omega)
            have e6 : wr.cell? ⟨g3, k * 20 + 1 + 6, none⟩ = some (.slice a5 s.a.args.length c5) := hcr 7 (by omega)
            have e7 : wr.cell? ⟨g3, k * 20 + 1 + 7, none⟩ = some (.int .i64 s.b.op) := hcr 8 (by omega)
            have e8 : wr.cell? ⟨g3, k * 20 + 1 + 8, none⟩ = some (.int .i64 s.b.n) := hcr 9 (by omega)
            have e9 : wr.cell? ⟨g3, k * 20 + 1 + 9, none⟩ = some (.string s.b.s) := hcr 10 (by omega)
            have e10 : wr.cell? ⟨g3, k * 20 + 1 + 10, none⟩ = some (.slice a6 s.b.args.length c6) := hcr 11 (by omega)
            have e11 : wr.cell? ⟨g3, k * 20 + 1 + 11, none⟩ = some (.slice a7 s.body.length c7) := hcr 12 (by omega)
            have e12 : wr.cell? ⟨g3, k * 20 + 1 + 12, none⟩ = some (.slice a8 s.els.length c8) := hcr 13 (by omega)
            have f14 : wr.cell? ⟨g3, k * 20 + 14, none⟩ = some (.int .i64 (d : Int)) := hcr 14 (by omega)
            have hkk : StKids wr.drew s a5 a6 a7 a8 := StKids.below (StKids.below hin HBr.out) (L.below_drew wr)
            have HSC := Lib.hid (HST.out s a5 c5 a6 c6 a7 c7 a8 c8 d hvo.2 hvo.1 wr.drew hkk)
            have hxx : (if stE s d ≠ 0 then stE s d else firstE ((walk p).drop (k + 1))) = firstE (walk p) := hx
            generalize stE s d = z at HSC hxx
            unfold stC at HSC
            clear hcr hx hin hvo hkk
            by_cases hz : z = 0
            · have bz : (z != 0) = false := by rw [bne_eq_false_iff_eq]; exact hz
              rw [if_neg (fun h => h hz)] at hxx
              have HX2 := Lib.hid hxx
              clear hz hxx
              go_wp2_with fail
              go_region_law (go_simp; go_at_call 28; refine HSC.out.mono ?_; rintro e' w5 ⟨rfl, hb5⟩; have HB5 := Lib.hid (below_2 (L.below_drew _) hb5); clear hb5)
              all_goals
                go_wp2_with fail
                go_roundw
                case rel => exact ⟨k + 1, by omega, by go_num, HX2.out, below_2 HBr.out HB5.out⟩
                case measure => simp [intOf]; omega
            · have bz : (z != 0) = true := bne_iff_ne.2 hz
              rw [if_pos hz] at hxx
              have HR : Hid (R = z) := by show _ = _; rw [HR2.out, ← hxx, if_pos hz]
              clear hz hxx
              go_wp2_with fail
              go_region_law (go_simp; go_at_call 28; refine HSC.out.mono ?_; rintro e' w5 ⟨rfl, hb5⟩; have HB5 := Lib.hid (below_2 (L.below_drew _) hb5); clear hb5)
              all_goals
                go_wp2_with fail
                go_ret
                exact ⟨ret_int HR.out.symm, below_2 HBB.out HB5.out⟩
        · have hx := HX.out
          rw [List.drop_of_length_le (by have := HLW.out; omega)] at hx
          have hf : firstE (walk p) = 0 := hx.symm
          have HR3 : Hid (R = if 400 < l'.length then 2 else 0) := by show _ = _; rw [HR2.out, if_neg (fun h => h hf), HLW.out]
          clear hx hf
          by_cases h4 : 400 < l'.length
          · have b4 : decide (400 < (l'.length : Int)) = true := decide_eq_true (by omega)
            have HR : Hid (R = 2) := by show _ = _; rw [HR3.out, if_pos h4]
            clear h4
            go_wp2_with fail
            go_ret
            exact ⟨ret_int HR.out.symm, HBB.out⟩
          · have b4 : decide (400 < (l'.length : Int)) = false := decide_eq_false (by omega)
            have HR : Hid (R = 0) := by show _ = _; rw [HR3.out, if_neg h4]
            clear h4
            go_wp2_with fail
            go_ret
            exact ⟨ret_int HR.out.symm, HBB.out⟩
    · have bp : (parE p.params != 0) = true := bne_iff_ne.2 hp
      have HR : Hid (R = parE p.params) := by show _ = _; rw [HV.out, if_neg (by decide), if_pos hp]
      have HB5 := Lib.hid (below_2 HW.out HBX.out)
      clear hp
      go_wp2_with fail
      go_ret
      exact ⟨ret_int HR.out.symm, HB5.out⟩
end Go.Proofs.YtbmdadhbkdkgmaaGreatDoor.A
namespace Go.Proofs.YtbmdadhbkdkgmaaGreatDoor.A
open Go.RowKit
open L (Str isName prt size_len below_2 below_box ret_bool ret_int eql_eq bytes_eq isName_any)

theorem bad_bools (s : St) : badS s = (decide (s.op < 1) || decide (8 < s.op) || (!uN s.op && !decide (s.name.size = 0)) || (!uM s.op && (s.mx != 0)) || (!uA s.op && !absent s.a) || (!uB s.op && !absent s.b) || (!uD s.op && decide (0 < (s.body.length : Int))) || (!uE s.op && decide (0 < (s.els.length : Int)))) := by
  unfold badS
  rw [show (s.mx != 0) = !decide (s.mx = 0) by simp [bne, Bool.beq_eq_decide_eq], empty_len, empty_len]
/-- what stmt's walk is given: the parts' contracts, and the tests -/
structure StW (s : St) (a1 : Option Addr) (c1 : Nat) (a2 : Option Addr) (c2 : Nat) (a3 a4 : Option Addr) (va vb : Int) (NM v1 v3 v4 : Bool) : Prop where
  aa : ∀ w, Calls Tryz.prog 56 #[.agg #[.int .i64 s.a.op, .int .i64 s.a.n, .string s.a.s, .slice a1 s.a.args.length c1]] w fun e' w' => e' = .returned (.bool v3) ∧ Below w.heap.size w w'
  ab : ∀ w, Calls Tryz.prog 56 #[.agg #[.int .i64 s.b.op, .int .i64 s.b.n, .string s.b.s, .slice a2 s.b.args.length c2]] w fun e' w' => e' = .returned (.bool v4) ∧ Below w.heap.size w w'
  nam : ∀ w, Calls Tryz.prog 25 #[.string s.name] w fun e' w' => e' = .returned (.bool NM) ∧ Below w.heap.size w w'
  va : ∀ w, StKids w s a1 a2 a3 a4 → Calls Tryz.prog 23 #[.agg #[.int .i64 s.a.op, .int .i64 s.a.n, .string s.a.s, .slice a1 s.a.args.length c1]] w fun e' w' => e' = .returned (.int .i64 va) ∧ Below w.heap.size w w'
  vb : ∀ w, StKids w s a1 a2 a3 a4 → Calls Tryz.prog 23 #[.agg #[.int .i64 s.b.op, .int .i64 s.b.n, .string s.b.s, .slice a2 s.b.args.length c2]] w fun e' w' => e' = .returned (.int .i64 vb) ∧ Below w.heap.size w w'
  name : (s.name.toList == []) = v1
  name2 : s.name.toList.isEmpty = v1
theorem stW_of (s : St) (a1 : Option Addr) (c1 : Nat) (a2 : Option Addr) (c2 : Nat) (a3 a4 : Option Addr) (hok : okS s) : StW s a1 c1 a2 c2 a3 a4 (vE s.a 1) (vE s.b 1) (nam s.name) (decide (s.name.size = 0)) (absent s.a) (absent s.b) where
  aa := fun w => rabsent_any s.a a1 c1 w
  ab := fun w => rabsent_any s.b a2 c2 w
  nam := fun w => isName_any s.name (by have := (okS_open hok).name; omega) w
  va := fun w h => rvalidExpr_any s.a a1 c1 (okS_open hok).a w h.a
  vb := fun w h => rvalidExpr_any s.b a2 c2 (okS_open hok).b w h.b
  name := nil_of
  name2 := empty_of
end Go.Proofs.YtbmdadhbkdkgmaaGreatDoor.A
