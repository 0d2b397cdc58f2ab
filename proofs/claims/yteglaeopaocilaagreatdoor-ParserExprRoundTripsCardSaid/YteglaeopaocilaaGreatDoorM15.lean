/-
  What the reference of layer 8 returns: Small: its contract.
  What the program's functions of layer 8 return: paramsError and what it calls: contracts.
  What the program's function Validate of layer 8 returns: its contract.
  Trees that a call builds: rows that it owns, with what hangs on their elements in blocks of its own.
-/
import Derived.Test.YteglaeopaocilaaGreatDoorM12
import Derived.Test.YteglaeopaocilaaGreatDoorM13
import Derived.Laws.OwnMore
import Derived.Test.YteglaeopaocilaaGreatDoorM14
import Derived.Test.YteglaeopaocilaaGreatDoorM11
import Derived.Deep.AppendLies
namespace Go.Proofs.YteglaeopaocilaaGreatDoor.A
open Go.RowKit
open L (Str isName prt size_len below_2 below_box ret_bool ret_int eql_eq bytes_eq)

theorem small_bad {p : Pr} {m k : Nat} (h : k < p.params.length) (h2 : 200 < p.params[k].name.size) : small p m = false := by
  unfold small
  have : p.params.all (fun q => decide (q.name.size ≤ 200)) = false := List.all_eq_false.2 ⟨p.params[k], List.getElem_mem h, by rw [decide_eq_false (by omega)]; decide⟩
  rw [this]; simp
theorem small_long {p : Pr} {m : Nat} (h : 40 < p.params.length) : small p m = false := by unfold small; rw [decide_eq_false (by omega)]; rfl
theorem small_name {p : Pr} {m : Nat} (h : 200 < p.name.size) : small p m = false := by unfold small; rw [decide_eq_false (show ¬ p.name.size ≤ 200 by omega)]; simp
theorem small_end {p : Pr} {m : Nat} (h1 : ¬ 40 < p.params.length) (h2 : ¬ 200 < p.name.size) (h3 : ∀ j (h : j < p.params.length), ¬ 200 < p.params[j].name.size) : small p m = decide (cB p.body ≤ m) := by
  unfold small
  have : p.params.all (fun q => decide (q.name.size ≤ 200)) = true := by
    rw [List.all_eq_true]
    intro q hq
    obtain ⟨j, hj, rfl⟩ := List.getElem_of_mem hq
    exact decide_eq_true (by have := h3 j hj; omega)
  rw [this, decide_eq_true (by omega), decide_eq_true (by omega)]; rfl
set_option maxHeartbeats 4000000 in
set_option maxRecDepth 100000 in
theorem rsmall_any (p : Pr) (a1 : Option Addr) (c1 : Nat) (a2 : Option Addr) (c2 : Nat) (m : Nat) (hm : m ≤ 1000000) (hok : OkP p) (w : World) (hK : PrIn w p a1 a2) :
    Calls Tryz.prog 10 #[prV p a1 c1 a2 c2, .int .i64 (m : Int)] w fun e' w' => e' = .returned (.bool (small p m)) ∧ Below w.heap.size w w' := by
  have hw := below_box w (prO p a1 c1 a2 c2)
  have HW := Lib.hid hw
  have HBL := Lib.hid (fun w' hb => proc_later (w := w) (w' := w') (p := p) (a1 := a1) (a2 := a2) (c1 := c1) (c2 := c2) hb)
  have HKK := Lib.hid hK
  have HC := Lib.hid (fun w hK => rcountBody_any p.body a2 c2 m (by omega) (by omega) hok.bodyLen hok.body w hK)
  have HEa := Lib.hid hok.each
  have hpl := hok.params
  have hnm := hok.name
  have s1 := @small_long p m
  have s2 := @small_name p m
  have s3 : ∀ k (h : k < p.params.length), 200 < p.params[k].name.size → small p m = false := fun k h h2 => small_bad h h2
  have S3 := Lib.hid s3
  have S4 := Lib.hid (@small_end p m)
  obtain ⟨g, hg⟩ : ∃ g, p.params.length = g := ⟨_, rfl⟩
  have HL := Lib.hid hg
  unfold prV prO at *
  rw [hg] at HW HBL hpl s1 ⊢
  clear hw hK hok hg s3
  by_cases h40 : 40 < g
  · have HV := Lib.hid (s1 h40)
    have b1 : decide (40 < (g : Int)) = true := decide_eq_true (by omega)
    clear s1 s2 h40
    go_enter Tryz.func10, Tryz.ntmps10
    go_wp2_with fail
    go_ret
    exact ⟨ret_bool HV.out.symm, HW.out⟩
  · have b1 : decide (40 < (g : Int)) = false := decide_eq_false (by omega)
    by_cases h200 : 200 < p.name.size
    · have HV := Lib.hid (s2 h200)
      have b2 : decide (200 < (p.name.size : Int)) = true := decide_eq_true (by omega)
      clear s1 s2 h200
      go_enter Tryz.func10, Tryz.ntmps10
      go_wp2_with fail
      go_ret
      exact ⟨ret_bool HV.out.symm, HW.out⟩
    · have b2 : decide (200 < (p.name.size : Int)) = false := decide_eq_false (by omega)
      have S5 := Lib.hid (S4.out (by rw [HL.out]; exact h40) h200)
      clear s1 s2
      go_enter Tryz.func10, Tryz.ntmps10
      go_wp2_with fail
      go_loopw [5] (fun s5 wr => ∃ k : Nat, k ≤ g ∧ s5 = .int .i64 k ∧ Hid (∀ j (h : j < p.params.length), j < k → ¬ 200 < p.params[j].name.size) ∧ Hid (Below (w.alloc (.cells #[.string p.name, .slice a1 g c1, .slice a2 p.body.length c2] 25)).heap.size (w.alloc (.cells #[.string p.name, .slice a1 g c1, .slice a2 p.body.length c2] 25)) wr)) (fun s5 _ => g - (intOf s5).toNat)
      case atStart => exact ⟨0, Nat.zero_le _, rfl, fun j _ h => absurd h (Nat.not_lt_zero _), Below.refl _ _⟩
      case round =>
        obtain ⟨k, hk, rfl, HX, HB⟩ := hrel
        obtain ⟨c0', c1', c2'⟩ := HBL.out _ HB.out
        have HBB := Lib.hid (below_2 HW.out HB.out)
        by_cases hlt : k < g
        · have hlx : k < p.params.length := by rw [HL.out]; exact hlt
          obtain ⟨b3, i3, rfl, hc⟩ := (HKK.out.below HBB.out).params.open hlx
          obtain ⟨d0, d1⟩ := hc k hlx
          have hz := HEa.out k hlx
          by_cases hq : 200 < p.params[k].name.size
          · have HV := Lib.hid (S3.out k hlx hq)
            generalize p.params[k] = q at d0 d1 hz hq
            have b3 : decide (200 < (q.name.size : Int)) = true := decide_eq_true (by omega)
            clear hc hq
            go_wp2_with fail
            go_ret
            exact ⟨ret_bool HV.out.symm, HBB.out⟩
          · have HN : Hid (∀ j (h : j < p.params.length), j < k + 1 → ¬ 200 < p.params[j].name.size) := by
              intro j h hj
              by_cases e : j = k
              · subst e; exact hq
              · exact HX.out j h (by omega)
            generalize p.params[k] = q at d0 d1 hz hq
            have b3 : decide (200 < (q.name.size : Int)) = false := decide_eq_false (by omega)
            clear hc hq
            go_wp2_with fail
            go_roundw
            case rel => exact ⟨k + 1, by omega, by go_num, HN, HB.out⟩
            case measure => simp [intOf]; omega
        · have HVs := Lib.hid (S5.out fun j h => HX.out j h (by have := HL.out; omega))
          have HC2 := Lib.hid (HC.out _ (HKK.out.below HBB.out).body)
          generalize cB p.body = x at HC2 HVs
          go_wp2_with fail
          refine HC2.out.mono ?_; rintro e w2 ⟨⟨r, rfl, hr⟩, hb2⟩
          have HV : Hid (decide (r ≤ (m : Int)) = decide (x ≤ m)) := by
            show _ = _
            refine decide_eq_decide.2 ⟨fun h => ?_, fun h => ?_⟩
            · apply Decidable.byContradiction; intro h2; have := hr.core.gt (by omega); omega
            · have := hr.core.eq (by omega); omega
          clear hr
          go_wp2_with fail
          go_ret
          exact ⟨ret_bool (HV.out.trans HVs.out.symm), below_2 HBB.out hb2⟩
end Go.Proofs.YteglaeopaocilaaGreatDoor.A
namespace Go.Proofs.YteglaeopaocilaaGreatDoor.A
open Go.RowKit
open L (Str isName prt size_len below_2 below_box ret_bool ret_int eql_eq bytes_eq)

def pmV (q : Pm) : Value := .agg #[.string q.name, .int .i64 q.ty]
set_option maxHeartbeats 2000000 in
set_option maxRecDepth 100000 in
theorem osameName_any (q : Pm) (N : Nat) (x : ByteArray) (w : World) (h : w.cell? ⟨N, 0, none⟩ = some (.string x)) :
    Calls Tryz.prog 70 #[pmV q, .pointer (some ⟨N, 0, none⟩)] w fun e' w' => e' = .returned (.bool (decide (q.name = x))) ∧ Below w.heap.size w w' := by
  have hw := below_box w (.cells #[.string q.name, .int .i64 q.ty] 58)
  have h2 := (hw.cell (block_lt_of_cell h)).trans h
  have HW := Lib.hid hw
  have hb := bytes_dec q.name x
  obtain ⟨v, hv⟩ : ∃ v, decide (q.name = x) = v := ⟨_, rfl⟩
  rw [hv] at hb ⊢
  unfold pmV
  clear hw hv
  go_enter Tryz.func70, Tryz.ntmps70
  go_wp2_with fail
  go_ret
  exact ⟨rfl, HW.out⟩
/-- the first parameter with this name -/
def idxP (x : ByteArray) : List Pm → Nat → Int
  | [], _ => -1
  | q :: r, k => if decide (q.name = x) = true then (k : Int) else idxP x r (k + 1)
theorem idxP_any (x : ByteArray) : ∀ (l : List Pm) (k : Nat), decide (0 ≤ idxP x l k) = l.any (fun q => decide (q.name = x))
  | [], k => rfl
  | q :: r, k => by
    rw [idxP, List.any_cons]
    cases h : decide (q.name = x)
    · rw [if_neg (by decide), Bool.false_or]; exact idxP_any x r (k + 1)
    · rw [if_pos rfl, Bool.true_or]; exact decide_eq_true (by omega)
set_option maxHeartbeats 4000000 in
set_option maxRecDepth 100000 in
theorem oindexFunc_any (l : List Pm) (a : Option Addr) (c N : Nat) (x : ByteArray) (hl : l.length ≤ 1000000000000000) (w : World) (hK : PmsAt w a l) (h : w.cell? ⟨N, 0, none⟩ = some (.string x)) :
    Calls Tryz.prog 130 #[.slice a l.length c, .func (Fn.func 70) #[] #[.pointer (some ⟨N, 0, none⟩)]] w fun e' w' => e' = .returned (.int .i64 (idxP x l 0)) ∧ Below w.heap.size w w' := by
  have HK := Lib.hid hK
  have HX := Lib.hid h
  have hlt0 := block_lt_of_cell h
  obtain ⟨R, hR⟩ : ∃ R, idxP x l 0 = R := ⟨_, rfl⟩
  rw [hR]
  have HR : Hid (idxP x (l.drop 0) 0 = R) := hR
  obtain ⟨m, hm⟩ : ∃ m, l.length = m := ⟨_, rfl⟩
  have HL := Lib.hid hm
  rw [hm] at hl ⊢
  clear hm hR hK h
  go_enter Tryz.func130, Tryz.ntmps130
  go_wp2_with fail
  go_loopw [8] (fun s8 wr => ∃ k : Nat, k ≤ m ∧ s8 = .int .i64 k ∧ Hid (idxP x (l.drop k) k = R) ∧ Hid (Below w.heap.size w wr)) (fun s8 _ => m - (intOf s8).toNat)
  case atStart => exact ⟨0, Nat.zero_le _, rfl, HR, Below.refl _ _⟩
  case round =>
    obtain ⟨k, hk, rfl, HX2, HB⟩ := hrel
    by_cases hlt : k < m
    · have hlx : k < l.length := by rw [HL.out]; exact hlt
      have hx := HX2.out
      rw [List.drop_eq_getElem_cons hlx, idxP] at hx
      obtain ⟨b3, i3, rfl, hc⟩ := (HK.out.below HB.out).open hlx
      obtain ⟨f0, f1⟩ := hc k hlx
      have HC := Lib.hid (osameName_any l[k] N x wr ((HB.out.cell hlt0).trans HX.out))
      generalize l[k] = q at f0 f1 HC hx
      generalize decide (q.name = x) = y at HC hx
      unfold pmV at HC
      clear hc
      cases y
      · rw [if_neg (by decide)] at hx
        have HN := Lib.hid hx
        clear hx
        go_wp2_with fail
        refine HC.out.mono ?_; rintro e w2 ⟨rfl, hb2⟩
        have HB2 := Lib.hid (below_2 HB.out hb2)
        clear hb2
        go_wp2_with fail
        go_roundw
        case rel => exact ⟨k + 1, by omega, by go_num, HN, HB2⟩
        case measure => simp [intOf]; omega
      · rw [if_pos rfl] at hx
        have HV := Lib.hid hx
        clear hx
        go_wp2_with fail
        refine HC.out.mono ?_; rintro e w2 ⟨rfl, hb2⟩
        have HB2 := Lib.hid (below_2 HB.out hb2)
        clear hb2
        go_wp2_with fail
        go_ret
        exact ⟨ret_int HV.out, HB2.out⟩
    · have HV : Hid (-1 = R) := by
        show _ = _
        rw [← HX2.out, List.drop_of_length_le (by rw [HL.out]; omega), idxP]
      go_wp2_with fail
      go_ret
      exact ⟨ret_int HV.out, HB.out⟩
set_option maxHeartbeats 2000000 in
set_option maxRecDepth 100000 in
theorem ocontainsFunc_any (l : List Pm) (a : Option Addr) (c N : Nat) (x : ByteArray) (hl : l.length ≤ 1000000000000000) (w : World) (hK : PmsAt w a l) (h : w.cell? ⟨N, 0, none⟩ = some (.string x)) :
    Calls Tryz.prog 71 #[.slice a l.length c, .func (Fn.func 70) #[] #[.pointer (some ⟨N, 0, none⟩)]] w fun e' w' => e' = .returned (.bool (l.any (fun q => decide (q.name = x)))) ∧ Below w.heap.size w w' := by
  have HC := Lib.hid (oindexFunc_any l a c N x hl w hK h)
  have hv := idxP_any x l 0
  generalize idxP x l 0 = r at HC hv
  generalize l.any (fun q => decide (q.name = x)) = y at hv ⊢
  generalize l.length = m at HC ⊢
  clear hl hK h
  go_enter Tryz.func71, Tryz.ntmps71
  go_wp2_with fail
  refine HC.out.mono ?_; rintro e w2 ⟨rfl, hb2⟩
  have HB2 := Lib.hid hb2
  clear hb2
  go_wp2_with fail
  go_ret
  exact ⟨rfl, HB2.out⟩
theorem parF_drop {l : List Pm} {k : Nat} (h : k < l.length) : parF ((l.take k).map Pm.name) (l.drop k) = if nam l[k].name = false then 7 else if l[k].ty < 1 ∨ 3 < l[k].ty then 10 else if (l.take k).any (fun q => decide (q.name = l[k].name)) = true then 8 else parF ((l.take (k + 1)).map Pm.name) (l.drop (k + 1)) := by
  rw [List.drop_eq_getElem_cons h, parF, List.any_map, List.take_succ_eq_append_getElem h, List.map_append]
  rfl
theorem PmsAt.take {w : World} {a : Option Addr} {l : List Pm} (h : PmsAt w a l) (k : Nat) : PmsAt w a (l.take k) := by
  rcases h with h | ⟨b, i, ha, h⟩
  · left; rw [h]; simp
  · right
    refine ⟨b, i, ha, fun j hj => ?_⟩
    have hj2 : j < l.length := by rw [List.length_take] at hj; omega
    rw [List.getElem_take]
    exact h j hj2
set_option maxHeartbeats 8000000 in
set_option maxRecDepth 100000 in
theorem oparamsError_any (l : List Pm) (a : Option Addr) (c : Nat) (hl : l.length ≤ 1000000000000000) (w : World) (hc : l.length ≤ c) (hK : PmsAt w a l) :
    Calls Tryz.prog 33 #[.slice a l.length c] w fun e' w' => e' = .returned (.int .i64 (parE l)) ∧ Below w.heap.size w w' := by
  have HK := Lib.hid hK
  have hpe : parE l = if 6 < l.length then 2 else parF [] l := rfl
  obtain ⟨R, hR⟩ : ∃ R, parE l = R := ⟨_, rfl⟩
  rw [hR] at hpe ⊢
  have HP : Hid (l.length ≤ 6 → parF ((l.take 0).map Pm.name) (l.drop 0) = R) := fun h => by rw [hpe, if_neg (by omega)]; rfl
  have HP2 : Hid (6 < l.length → R = 2) := fun h => by rw [hpe, if_pos h]
  obtain ⟨m, hm⟩ : ∃ m, l.length = m := ⟨_, rfl⟩
  have HL := Lib.hid hm
  rw [hm] at hl hc HP HP2 ⊢
  clear hm hR hK hpe
  by_cases h6 : 6 < m
  · have HV : Hid (R = 2) := HP2.out h6
    have b6 : decide (6 < (m : Int)) = true := decide_eq_true (by omega)
    clear h6
    go_enter Tryz.func33, Tryz.ntmps33
    go_wp2_with fail
    go_ret
    exact ⟨ret_int HV.out.symm, Below.refl _ _⟩
  · have HR := Lib.hid (HP.out (by omega))
    have b6 : decide (6 < (m : Int)) = false := decide_eq_false (by omega)
    clear HP HP2
    go_enter Tryz.func33, Tryz.ntmps33
    go_wp2_with fail
    go_loopw [11] (fun s11 wr => ∃ k : Nat, k ≤ m ∧ s11 = .int .i64 k ∧ Hid (parF ((l.take k).map Pm.name) (l.drop k) = R) ∧ Hid (Below w.heap.size w wr)) (fun s11 _ => m - (intOf s11).toNat)
    case atStart => exact ⟨0, Nat.zero_le _, rfl, HR, Below.refl _ _⟩
    case round =>
      obtain ⟨k, hk, rfl, HX, HB⟩ := hrel
      by_cases hlt : k < m
      · have hlx : k < l.length := by rw [HL.out]; exact hlt
        have hx := HX.out
        rw [parF_drop hlx] at hx
        obtain ⟨b3, i3, rfl, hcc⟩ := (HK.out.below HB.out).open hlx
        obtain ⟨f0, f1⟩ := hcc k hlx
        have hbx := below_box wr (.cells #[.string l[k].name, .int .i64 l[k].ty] 58)
        have HI : Hid (∀ w, Calls Tryz.prog 32 #[.string l[k].name] w fun e' w' => e' = .returned (.bool (nam l[k].name)) ∧ Below w.heap.size w w') := fun w => L.oname_any l[k].name w
        have g0 : (wr.alloc (.cells #[.string l[k].name, .int .i64 l[k].ty] 58)).cell? ⟨wr.heap.size, 0, none⟩ = some (.string l[k].name) := by go_simp
        have g1 : (wr.alloc (.cells #[.string l[k].name, .int .i64 l[k].ty] 58)).cell? ⟨wr.heap.size, 1, none⟩ = some (.int .i64 l[k].ty) := by go_simp
        have hlen : (l.take k).length = k := by rw [List.length_take]; omega
        have HCF := Lib.hid (fun w' (hb : Below w.heap.size w w') (hx : w'.cell? ⟨wr.heap.size, 0, none⟩ = some (.string l[k].name)) => ocontainsFunc_any (l.take k) (some ⟨b3, i3, none⟩) c wr.heap.size l[k].name (by omega) w' ((HK.out.below hb).take k) hx)
        rw [hlen] at HCF
        have HG0 := Lib.hid g0
        have HG1 := Lib.hid g1
        have HBX := Lib.hid (below_2 HB.out hbx)
        generalize (l.take k).any (fun q => decide (q.name = l[k].name)) = y at HCF hx
        generalize l[k] = q at *
        clear hcc hlen hbx
        obtain ⟨nm, hnm⟩ : ∃ v, nam q.name = v := ⟨_, rfl⟩
        rw [hnm] at HI hx
        clear hnm
        cases nm
        · have HV : Hid (R = 7) := by show _ = _; rw [← hx, if_pos rfl]
          clear hx g0 g1
          go_wp2_with fail
          refine (HI.out _).mono ?_; rintro e w2 ⟨rfl, hb2⟩
          have HB2 := Lib.hid (below_2 HBX.out hb2)
          clear hb2
          go_wp2_with fail
          go_ret
          exact ⟨ret_int HV.out.symm, HB2.out⟩
        · rw [if_neg (by decide)] at hx
          clear g0 g1
          go_wp2_with fail
          refine (HI.out _).mono ?_; rintro e w2 ⟨rfl, hb2⟩
          have HB2 := Lib.hid (below_2 HBX.out hb2)
          have g0 := (hb2.cell (block_lt_of_cell HG0.out)).trans HG0.out
          have g1 := (hb2.cell (block_lt_of_cell HG1.out)).trans HG1.out
          clear hb2
          by_cases hty : q.ty < 1 ∨ 3 < q.ty
          · have t1 : (q.ty != 1) = true := bne_iff_ne.2 (by omega)
            have t2 : (q.ty != 2) = true := bne_iff_ne.2 (by omega)
            have t3 : (q.ty != 3) = true := bne_iff_ne.2 (by omega)
            have HV : Hid (R = 10) := by show _ = _; rw [← hx, if_pos hty]
            clear hx hty
            go_wp2_with fail
            go_ret
            exact ⟨ret_int HV.out.symm, HB2.out⟩
          · rw [if_neg hty] at hx
            have hC := HCF.out w2 HB2.out g0
            have HC := Lib.hid hC
            clear hC
            have ht : q.ty = 1 ∨ q.ty = 2 ∨ q.ty = 3 := by omega
            clear hty
            cases y
            · rw [if_neg (by decide)] at hx
              have HN := Lib.hid hx
              clear hx
              rcases ht with ht | ht | ht
              all_goals
                rw [ht] at g1
                clear ht
                go_wp2_with fail
                refine HC.out.mono ?_; rintro e w3 ⟨rfl, hb3⟩
                have HB3 := Lib.hid (below_2 HB2.out hb3)
                clear hb3
                go_wp2_with fail
                go_roundw
                case rel => exact ⟨k + 1, by omega, by go_num, HN, HB3⟩
                case measure => simp [intOf]; omega
            · have HV : Hid (R = 8) := by show _ = _; rw [← hx, if_pos rfl]
              clear hx
              rcases ht with ht | ht | ht
              all_goals
                rw [ht] at g1
                clear ht
                go_wp2_with fail
                refine HC.out.mono ?_; rintro e w3 ⟨rfl, hb3⟩
                have HB3 := Lib.hid (below_2 HB2.out hb3)
                clear hb3
                go_wp2_with fail
                go_ret
                exact ⟨ret_int HV.out.symm, HB3.out⟩
      · have HV : Hid (R = 0) := by
          show _ = _
          rw [← HX.out, List.drop_of_length_le (by rw [HL.out]; omega), parF]
        go_wp2_with fail
        go_ret
        exact ⟨ret_int HV.out.symm, HB.out⟩
end Go.Proofs.YteglaeopaocilaaGreatDoor.A
namespace Go.Proofs.YteglaeopaocilaaGreatDoor.A
open Go.RowKit
open L (Str isName prt size_len below_2 below_box ret_bool ret_int eql_eq bytes_eq)

set_option maxHeartbeats 2000000 in
set_option maxRecDepth 100000 in
theorem visV {w0 : World} {B : Nat} (hB : w0.heap.size ≤ B) : VisV ⟨B, 0, none⟩ gV w0 (Jb B (fun z => .int .i64 z)) := by
  refine ⟨fun n X z u ps pe w _ hX hJ hb0 hat hok => ?_, Jb.keep, Jb.wide, Jb.narrow⟩
  have hw := below_box w (.cells #[.pointer ps, .pointer pe, .int .i64 (u.d : Int)] 65)
  cases u with
  | st s d =>
    obtain ⟨b, i, rfl, rfl, hat⟩ := hat
    simp only [U.d] at *
    have hs : StAt (w.alloc (.cells #[.pointer (some ⟨b, i, none⟩), .pointer none, .int .i64 (d : Int)] 65)) s b i := (hat.below hb0).below hw
    have hd : d ≤ 1000000 := by have := hok.2; omega
    have HC := Lib.hid (ostmtError_any s b i d hd hok.1 _ hs)
    have HP : Hid (∀ w2, Below (w.alloc (.cells #[.pointer (some ⟨b, i, none⟩), .pointer none, .int .i64 (d : Int)] 65)).heap.size (w.alloc (.cells #[.pointer (some ⟨b, i, none⟩), .pointer none, .int .i64 (d : Int)] 65)) w2 → ∀ z2 : Int,
      Jb B (fun z => .int .i64 z) (n + 1) X z2 (w2.setCell ⟨B, 0, none⟩ (.int .i64 z2)) ∧ Below w0.heap.size w (w2.setCell ⟨B, 0, none⟩ (.int .i64 z2)) ∧ ∀ k, X k → (w2.setCell ⟨B, 0, none⟩ (.int .i64 z2)).heap[k]? = w.heap[k]?) := fun w2 hb z2 => Jb.store (m := n + 1) (s2 := z2) hX hB hJ (below_2 hw hb) hb0.size
    have HJ1 := Lib.hid (hJ.1.later hw)
    have HV : Hid (gV z (.st s d) = (stE s d, (stE s d == 0))) := by
      show (stE s d, decide (stE s d = 0)) = _
      rw [Bool.beq_eq_decide_eq]
    rw [HV.out]
    generalize stE s d = x at HC ⊢
    unfold nodeV
    clear hw hJ hb0 HV hX hok hat hs
    go_enter Tryz.func35, Tryz.ntmps35
    go_wp2_with fail
    refine HC.out.mono ?_; rintro e' w2 ⟨rfl, hb⟩
    obtain ⟨n1, n2, n3⟩ := HJ1.out.later hb
    have HP2 := Lib.hid (HP.out w2 hb x)
    clear hb
    go_wp2_with fail
    go_ret
    exact ⟨rfl, HP2.out⟩
  | ex e d =>
    obtain ⟨b, i, rfl, rfl, _⟩ := hat
    have HP := Lib.hid (Jb.same (m := n + 1) hX hJ hw hb0.size)
    have HV : Hid (gV z (.ex e d) = (z, (z == 0))) := by
      show (z, decide (z = 0)) = _
      rw [Bool.beq_eq_decide_eq]
    rw [HV.out]
    have n0 := hJ.1.cell
    have n2 := (hJ.1.later hw).cell
    unfold nodeV
    simp only [U.d] at *
    clear hw hJ hb0 hX hok HV
    go_enter Tryz.func35, Tryz.ntmps35
    go_wp2_with fail
    go_ret
    exact ⟨rfl, HP.out⟩
theorem val_cases (p : Pr) : valE p = if nam p.name = false then 7 else if parE p.params ≠ 0 then parE p.params else if firstE (walk p) ≠ 0 then firstE (walk p) else if 400 < nodes p then 2 else 0 := rfl
set_option maxHeartbeats 4000000 in
set_option maxRecDepth 100000 in
theorem ovalidate_any (p : Pr) (a1 a2 : Option Addr) (c1 c2 : Nat) (hok : OkP p) (hc1 : p.params.length ≤ c1) (w : World) (hK : PrIn w p a1 a2) :
    Calls Tryz.prog 13 #[prV p a1 c1 a2 c2] w fun e' w' => e' = .returned (.int .i64 (valE p)) ∧ Below w.heap.size w w' := by
  have hw := below_box w (prO p a1 c1 a2 c2)
  have HBL := Lib.hid (fun w' hb => proc_later (w := w) (w' := w') (p := p) (a1 := a1) (a2 := a2) (c1 := c1) (c2 := c2) hb)
  have HI : Hid (∀ w, Calls Tryz.prog 32 #[.string p.name] w fun e' w' => e' = .returned (.bool (nam p.name)) ∧ Below w.heap.size w w') := fun w => L.oname_any p.name w
  have HPE := Lib.hid (fun w' h => oparamsError_any p.params a1 c1 hok.params w' hc1 h)
  have HN := Lib.hid (fun w' h => onodes_any p a1 a2 c1 c2 hok.body hok.bodyLen w' h)
  have HWK := Lib.hid (fun (B : Nat) (hB : (w.alloc (prO p a1 c1 a2 c2)).heap.size ≤ B) (z : Int) (w' : World) (hJ : Jb B (fun z => .int .i64 z) 0 (fun _ => False) z w') (hb : Below (w.alloc (prO p a1 c1 a2 c2)).heap.size (w.alloc (prO p a1 c1 a2 c2)) w') => owalkV_any (visV (w0 := w.alloc (prO p a1 c1 a2 c2)) hB) p a1 c1 a2 c2 hok.body hok.bodyLen (hK.below hw).body z w' hJ hb)
  have HK := Lib.hid hK
  have HW := Lib.hid hw
  have hv := val_cases p
  have hfr := first_run p
  generalize valE p = R at hv ⊢
  have HV := Lib.hid hv
  have HFR := Lib.hid hfr
  clear hv hfr hw hK hok hc1
  unfold prO at HBL HW HWK
  unfold prV at *
  generalize nam p.name = nm at HI HV
  cases nm
  · have HR : Hid (R = 7) := by show _ = _; rw [HV.out, if_pos rfl]
    go_enter Tryz.func13, Tryz.ntmps13
    go_wp2_with fail
    refine (HI.out _).mono ?_; rintro e w2 ⟨rfl, hb2⟩
    have HB2 := Lib.hid (below_2 HW.out hb2)
    clear hb2
    go_wp2_with fail
    go_ret
    exact ⟨ret_int HR.out.symm, HB2.out⟩
  · go_enter Tryz.func13, Tryz.ntmps13
    go_wp2_with fail
    refine (HI.out _).mono ?_; rintro e w2 ⟨rfl, hb2⟩
    have HBX := Lib.hid hb2
    clear hb2
    obtain ⟨j0, j1, j2⟩ := HBL.out _ HBX.out
    go_wp2_with fail
    refine (HPE.out _ (HK.out.below (below_2 HW.out HBX.out)).params).mono ?_; rintro e w3 ⟨rfl, hb3⟩
    have HBX := Lib.hid (below_2 HBX.out hb3)
    clear hb3 j0 j1 j2
    by_cases hp : parE p.params = 0
    · rw [hp]
      obtain ⟨j0, j1, j2⟩ := HBL.out _ HBX.out
      have hB := HBX.out.size
      have hC := HWK.out w3.heap.size hB 0 (w3.alloc (.cells #[.int .i64 0] 29)) ⟨cell1_at rfl, fun h => h⟩ (HBX.out.trans ((below_box w3 _).mono hB))
      rw [HFR.out] at hC
      have HC := Lib.hid hC
      have HBA := Lib.hid (below_2 HBX.out (below_box w3 (.cells #[.int .i64 0] 29)))
      obtain ⟨i0, i1, i2⟩ := HBL.out _ HBA.out
      have HR2 : Hid (R = if firstE (walk p) ≠ 0 then firstE (walk p) else if 400 < nodes p then 2 else 0) := by show _ = _; rw [HV.out, if_neg (by decide), if_neg (fun h => h hp)]
      clear hC hp hB j0 j1 j2
      generalize firstE (walk p) = f at HC HR2
      go_wp2_with fail
      refine HC.out.mono ?_; rintro e w4 ⟨rfl, ⟨_, hj, _⟩, hb4⟩
      have n0 := hj.cell
      have HJ4 := Lib.hid hj
      have HB4 := Lib.hid (HBA.out.trans hb4)
      clear hj hb4 i0 i1 i2
      obtain ⟨i0, i1, i2⟩ := HBL.out _ HB4.out
      by_cases hf : f = 0
      · have bf : (f == 0) = true := beq_iff_eq.2 hf
        have HR3 : Hid (R = if 400 < nodes p then 2 else 0) := by show _ = _; rw [HR2.out, if_neg (fun h => h hf)]
        have HF : Hid (f = 0) := hf
        clear hf
        go_wp2_with fail
        refine (HN.out _ (HK.out.below (below_2 HW.out HB4.out)).body).mono ?_; rintro e w5 ⟨rfl, hb5⟩
        have n5 := (HJ4.out.later hb5).cell
        have HB5 := Lib.hid (below_2 HW.out (below_2 HB4.out hb5))
        clear hb5
        by_cases h4 : 400 < nodes p
        · have b4 : decide (400 < (nodes p : Int)) = true := decide_eq_true (by omega)
          have HR : Hid (R = 2) := by show _ = _; rw [HR3.out, if_pos h4]
          clear h4
          go_wp2_with fail
          go_ret
          exact ⟨ret_int HR.out.symm, HB5.out⟩
        · have b4 : decide (400 < (nodes p : Int)) = false := decide_eq_false (by omega)
          have HR : Hid (R = f) := by show _ = _; rw [HR3.out, if_neg h4, HF.out]
          clear h4
          go_wp2_with fail
          go_ret
          exact ⟨ret_int HR.out.symm, HB5.out⟩
      · have bf : (f == 0) = false := beq_eq_false_iff_ne.2 hf
        have HR : Hid (R = f) := by show _ = _; rw [HR2.out, if_pos hf]
        have HB5 := Lib.hid (below_2 HW.out HB4.out)
        clear hf
        go_wp2_with fail
        go_ret
        exact ⟨ret_int HR.out.symm, HB5.out⟩
    · have bp : (parE p.params != 0) = true := bne_iff_ne.2 hp
      have HR : Hid (R = parE p.params) := by show _ = _; rw [HV.out, if_neg (by decide), if_pos hp]
      have HB5 := Lib.hid (below_2 (below_2 HW.out HBX.out) (below_box w3 (.cells #[.int .i64 (parE p.params)] 29)))
      clear hp
      go_wp2_with fail
      go_ret
      exact ⟨ret_int HR.out.symm, HB5.out⟩
end Go.Proofs.YteglaeopaocilaaGreatDoor.A
namespace Go.Proofs.YteglaeopaocilaaGreatDoor.A
open Go.RowKit
open L (Str isName prt size_len below_2 below_box ret_bool ret_int)

/-! ### a world without some of its blocks -/

open Classical in
noncomputable def hollow (Z : Nat → Prop) (w : World) : World := { w with heap := w.heap.mapIdx fun k o => if Z k then .cells #[] 0 else o }
theorem hollow_cell (Z : Nat → Prop) (w : World) (b i : Nat) (v : Value) : (hollow Z w).cell? ⟨b, i, none⟩ = some v ↔ ¬ Z b ∧ w.cell? ⟨b, i, none⟩ = some v := by
  unfold World.cell? hollow
  simp only [Array.getElem?_mapIdx]
  by_cases hz : Z b
  · cases h : w.heap[b]? with
    | none => simp
    | some o => simp [hz]
  · cases h : w.heap[b]? with
    | none => simp
    | some o => simp [hz]
/-- what is read in one world is read in the other -/
def Sub (w w' : World) : Prop := ∀ b i v, w.cell? ⟨b, i, none⟩ = some v → w'.cell? ⟨b, i, none⟩ = some v
mutual
theorem ExAt.sub {w w' : World} (h : Sub w w') : ∀ (e : Ex) {b i : Nat}, ExAt w e b i → ExAt w' e b i
  | .mk o n s l, b, i, hh => by
    rw [ExAt] at hh ⊢
    obtain ⟨h0, h1, h2, a, c, h3, h4⟩ := hh
    refine ⟨h _ _ _ h0, h _ _ _ h1, h _ _ _ h2, a, c, h _ _ _ h3, ?_⟩
    rcases h4 with h4 | ⟨b2, i2, ha, h5⟩
    · exact Or.inl h4
    · exact Or.inr ⟨b2, i2, ha, ExsAt.sub h l h5⟩
theorem ExsAt.sub {w w' : World} (h : Sub w w') : ∀ (l : List Ex) {b i : Nat}, ExsAt w l b i → ExsAt w' l b i
  | [], _, _, _ => by rw [ExsAt]; trivial
  | e :: r, b, i, hh => by
    rw [ExsAt] at hh ⊢
    exact ⟨ExAt.sub h e hh.1, ExsAt.sub h r hh.2⟩
end
theorem Kids.sub {w w' : World} (h : Sub w w') {a : Option Addr} {l : List Ex} (hk : Kids w a l) : Kids w' a l := by
  rcases hk with hk | ⟨b, i, ha, hk⟩
  · exact Or.inl hk
  · exact Or.inr ⟨b, i, ha, hk.sub h⟩
mutual
theorem StAt.sub {w w' : World} (h : Sub w w') : ∀ (s : St) {b i : Nat}, StAt w s b i → StAt w' s b i
  | .mk o nm mx a b bd el, blk, i, hh => by
    rw [StAt] at hh ⊢
    obtain ⟨h0, h1, h2, h3, h4, ⟨a5, c5, h5, g5⟩, ⟨a6, c6, h6, g6⟩⟩ := hh
    refine ⟨h _ _ _ h0, h _ _ _ h1, h _ _ _ h2, h3.sub h, h4.sub h, ⟨a5, c5, h _ _ _ h5, ?_⟩, ⟨a6, c6, h _ _ _ h6, ?_⟩⟩
    · rcases g5 with g | ⟨b2, i2, ha, g⟩
      · exact Or.inl g
      · exact Or.inr ⟨b2, i2, ha, StsAt.sub h bd g⟩
    · rcases g6 with g | ⟨b2, i2, ha, g⟩
      · exact Or.inl g
      · exact Or.inr ⟨b2, i2, ha, StsAt.sub h el g⟩
theorem StsAt.sub {w w' : World} (h : Sub w w') : ∀ (l : List St) {b i : Nat}, StsAt w l b i → StsAt w' l b i
  | [], _, _, _ => by rw [StsAt]; trivial
  | e :: r, b, i, hh => by
    rw [StsAt] at hh ⊢
    exact ⟨StAt.sub h e hh.1, StsAt.sub h r hh.2⟩
end
theorem Bodies.sub {w w' : World} (h : Sub w w') {a : Option Addr} {l : List St} (hk : Bodies w a l) : Bodies w' a l := by
  rcases hk with hk | ⟨b, i, ha, hk⟩
  · exact Or.inl hk
  · exact Or.inr ⟨b, i, ha, hk.sub h⟩
theorem hollow_now (Z : Nat → Prop) (w : World) : Sub (hollow Z w) w := fun b i v h => ((hollow_cell Z w b i v).1 h).2
/-- blocks outside of Z have stayed; what is left out now was left out before, or is new -/
structure Stays (Z Z' : Nat → Prop) (w w' : World) : Prop where
  block : ∀ k, k < w.heap.size → ¬ Z k → w'.heap[k]? = w.heap[k]?
  out : ∀ k, Z' k → Z k ∨ w.heap.size ≤ k
theorem hollow_next {Z Z' : Nat → Prop} {w w' : World} (h : Stays Z Z' w w') : Sub (hollow Z w) (hollow Z' w') := by
  intro b i v hh
  obtain ⟨hz, hc⟩ := (hollow_cell Z w b i v).1 hh
  have hlt := block_lt_of_cell hc
  have hnz : ¬ Z' b := fun h2 => by
    rcases h.out b h2 with h3 | h3
    · exact hz h3
    · have h4 : b < w.heap.size := hlt
      omega
  exact (hollow_cell Z' w' b i v).2 ⟨hnz, (World.cell?_of_block (w := w) (h.block b hlt hz)).trans hc⟩
theorem Stays.below {Z Z' : Nat → Prop} {w w' : World} (hb : Below w.heap.size w w') (h : ∀ k, Z' k → Z k ∨ w.heap.size ≤ k) : Stays Z Z' w w' := ⟨fun k hk _ => hb.block k hk, h⟩
/-- the expressions of a slice, in blocks that Z leaves out -/
def KidsF (Z : Nat → Prop) (w : World) (a : Option Addr) (l : List Ex) : Prop := Kids (hollow Z w) a l
def BodiesF (Z : Nat → Prop) (w : World) (a : Option Addr) (l : List St) : Prop := Bodies (hollow Z w) a l
theorem KidsF.now {Z : Nat → Prop} {w : World} {a : Option Addr} {l : List Ex} (h : KidsF Z w a l) : Kids w a l := Kids.sub (hollow_now Z w) h
theorem BodiesF.now {Z : Nat → Prop} {w : World} {a : Option Addr} {l : List St} (h : BodiesF Z w a l) : Bodies w a l := Bodies.sub (hollow_now Z w) h
theorem KidsF.next {Z Z' : Nat → Prop} {w w' : World} {a : Option Addr} {l : List Ex} (h : KidsF Z w a l) (hs : Stays Z Z' w w') : KidsF Z' w' a l := Kids.sub (hollow_next hs) h
theorem BodiesF.next {Z Z' : Nat → Prop} {w w' : World} {a : Option Addr} {l : List St} (h : BodiesF Z w a l) (hs : Stays Z Z' w w') : BodiesF Z' w' a l := Bodies.sub (hollow_next hs) h

/-! ### rows -/

/-- a kind of elements: their cells, and what hangs on them -/
structure RowK (α : Type) where
  f : α → List Value
  size : Nat
  bytes : Nat
  t : TypeId
  e : TypeId
  z : Value
  inn : (Nat → Prop) → World → α → Prop
  und : Tryz.prog.underlying t = some (.slice e)
  info : (Tryz.prog.info? e).map (fun i => (i.zero, i.size, i.bytes)) = some (some z, size, bytes)
  len : ∀ x, (f x).length = size
  one : ∀ x, ∀ u ∈ f x, u.oneCell' = true
  pos : 0 < size
  zs : z.cells.size = size
  small : bytes ≤ 1000
  next : ∀ {Z Z' : Nat → Prop} {w w' : World} {x : α}, inn Z w x → Stays Z Z' w w' → inn Z' w' x
namespace RowK
variable {α : Type} (K : RowK α)
def cs (l : List α) : List Value := l.flatMap K.f
theorem cs_app (a b : List α) : K.cs (a ++ b) = K.cs a ++ K.cs b := List.flatMap_append
theorem cs_one (x : α) : K.cs [x] = K.f x := by unfold cs; simp
theorem cs_get : ∀ (l : List α) (j : Nat) (hj : j < l.length) (r : Nat), r < K.size → (K.cs l)[j * K.size + r]? = (K.f l[j])[r]?
  | x :: l, 0, _, r, hr => by
    show (List.flatMap K.f (x :: l))[_]? = _
    rw [List.flatMap_cons, List.getElem?_append_left (by rw [K.len]; omega)]
    simp
  | x :: l, j + 1, hj, r, hr => by
    show (List.flatMap K.f (x :: l))[_]? = _
    rw [List.flatMap_cons, List.getElem?_append_right (by rw [K.len, Nat.add_one_mul]; omega), K.len, show (j + 1) * K.size + r - K.size = j * K.size + r by rw [Nat.add_one_mul]; omega]
    exact cs_get l j (by simpa using hj) r hr
/-- an element appended -/
theorem wpList {w : World} {ops : Array Oper} {rest : List Oper} {o : Oper} {a : Act} {Q : Exit → Act → World → Prop} (hgd : o.guard = none) (s x : Operand)
    (ho : o.op = .call { callee := .builtin .append, args := #[s, x], argTypes := #[K.t, K.t] })
    (base : Nat) (v : Value) (l : List α) (hs : a.eval s = v) (hown : w.ownsRow base K.e K.size v l.length (K.cs l)) (y : α) (cs : List Value) (hcs : cs = K.f y)
    (g : Nat) (hx : a.eval x = .slice (some ⟨g, 0, none⟩) 1 1) (hg : g = w.heap.size) (hn : l.length ≤ 1000000) (hbase : base ≤ w.heap.size)
    (h : ∀ g' cap w', w'.ownsRow base K.e K.size (.slice (some ⟨g', 0, none⟩) (l.length + 1) cap) (l ++ [y]).length (K.cs (l ++ [y])) → (w.alloc (.cells cs.toArray K.e)).grownBy w' v.ownBlock → (v.ownBlock = some g' ∨ g' = w.heap.size + 1) → Go.wpList Tryz.prog ops Q rest (a.put o.dst (.slice (some ⟨g', 0, none⟩) (l.length + 1) cap)) w') :
    Go.wpList Tryz.prog ops Q (o :: rest) a (w.alloc (.cells cs.toArray K.e)) := by
  subst hg
  obtain ⟨i0, hi, hz0, hz1, hz2⟩ := info_parts3 K.info
  have hb : (l.length + 1) * K.bytes ≤ 140737488355328 := Nat.le_trans (Nat.mul_le_mul (show l.length + 1 ≤ 1000001 by omega) K.small) (by decide)
  refine wpList_append_lies _ hgd s x K.t ho base K.e i0 _ K.size K.bytes K.und hi hz0 hz1 hz2 K.zs K.pos v l.length (K.cs l) hs (hown.alloc _) ⟨w.heap.size, 0, none⟩ 1 1 cs hx (by rw [hcs, K.len]; omega) (cells_row _ _ _) (by rw [hcs]; exact K.one y) (by decide) (by unfold maxLen; omega) hb (by simp; omega) (w.heap.size + 1) (by simp) ?_
  intro g' cap w' h1 h2 h3 _
  refine h g' cap w' ?_ h2 h3
  rw [List.length_append, K.cs_app, K.cs_one, ← hcs]
  exact h1
/-- the same at a step of a region that draws its order -/
theorem step {w : World} {ops : Array Oper} {o : Oper} {a : Act} {Kk : Act → World → Prop} {Q : Exit → Act → World → Prop} {E : Prop} (hgd : o.guard = none) (s x : Operand)
    (ho : o.op = .call { callee := .builtin .append, args := #[s, x], argTypes := #[K.t, K.t] })
    (base : Nat) (v : Value) (l : List α) (hs : a.eval s = v) (hown : w.ownsRow base K.e K.size v l.length (K.cs l)) (y : α) (cs : List Value) (hcs : cs = K.f y)
    (g : Nat) (hx : a.eval x = .slice (some ⟨g, 0, none⟩) 1 1) (hg : g = w.heap.size) (hn : l.length ≤ 1000000) (hbase : base ≤ w.heap.size)
    (h : ∀ g' cap w', w'.ownsRow base K.e K.size (.slice (some ⟨g', 0, none⟩) (l.length + 1) cap) (l ++ [y]).length (K.cs (l ++ [y])) → (w.alloc (.cells cs.toArray K.e)).grownBy w' v.ownBlock → (v.ownBlock = some g' ∨ g' = w.heap.size + 1) → Kk (a.put o.dst (.slice (some ⟨g', 0, none⟩) (l.length + 1) cap)) w') :
    if Region.wanted o (yielded ops a.tmps) = true then Oper.wp Tryz.prog o a (w.alloc (.cells cs.toArray K.e)) Kk Q else E := by
  subst hg
  obtain ⟨i0, hi, hz0, hz1, hz2⟩ := info_parts3 K.info
  have hb : (l.length + 1) * K.bytes ≤ 140737488355328 := Nat.le_trans (Nat.mul_le_mul (show l.length + 1 ≤ 1000001 by omega) K.small) (by decide)
  refine step_append_lies _ hgd s x K.t ho base K.e i0 _ K.size K.bytes K.und hi hz0 hz1 hz2 K.zs K.pos v l.length (K.cs l) hs (hown.alloc _) ⟨w.heap.size, 0, none⟩ 1 1 cs hx (by rw [hcs, K.len]; omega) (cells_row _ _ _) (by rw [hcs]; exact K.one y) (by decide) (by unfold maxLen; omega) hb (by simp; omega) (w.heap.size + 1) (by simp) ?_
  intro g' cap w' h1 h2 h3 _
  refine h g' cap w' ?_ h2 h3
  rw [List.length_append, K.cs_app, K.cs_one, ← hcs]
  exact h1
end RowK
/-- the call owns this row; what hangs on its elements lies in blocks that Z leaves out, and not in the row itself -/
structure Own1 {α : Type} (K : RowK α) (w : World) (b0 : Nat) (Z : Nat → Prop) (v : Value) (l : List α) : Prop where
  row : w.ownsRow b0 K.e K.size v l.length (K.cs l)
  off : ∀ g, v.ownBlock = some g → ¬ Z g
  each : ∀ x ∈ l, K.inn (fun k => Z k ∨ v.ownBlock = some k) w x
namespace Own1
variable {α : Type} {K : RowK α} {w w' : World} {b0 : Nat} {Z Z' : Nat → Prop} {v : Value} {l : List α}
theorem nil : Own1 K w b0 Z (.slice none 0 0) [] := ⟨⟨by simp [RowK.cs], Or.inl ⟨rfl, rfl⟩⟩, (fun g h => by cases h), (fun x h => by cases h)⟩
theorem shape (h : Own1 K w b0 Z v l) : ∃ p q, v = .slice p l.length q ∧ l.length ≤ q := by
  rcases h.row.2 with ⟨hv, h0⟩ | ⟨g, cap, cur, hv, _, _, hc, _⟩
  · exact ⟨none, 0, by rw [hv, h0], by omega⟩
  · exact ⟨_, cap, hv, hc⟩
theorem lt (h : Own1 K w b0 Z v l) : ∀ g, v.ownBlock = some g → b0 ≤ g ∧ g < w.heap.size := fun g hg => World.ownsRow.lt h.row g hg
theorem next (h : Own1 K w b0 Z v l) (hs : Stays Z Z' w w') : Own1 K w' b0 Z' v l := by
  have hZ : ∀ g, v.ownBlock = some g → ¬ Z' g := fun g hg hz => by
    rcases hs.out g hz with h1 | h1
    · exact h.off g hg h1
    · have := (h.lt g hg).2; omega
  refine ⟨⟨h.row.1, ?_⟩, hZ, fun x hx => K.next (h.each x hx) ⟨fun k hk hz => hs.block k hk (fun h2 => hz (Or.inl h2)), fun k hk => ?_⟩⟩
  · rcases h.row.2 with h0 | ⟨g, cap, cur, hv, hB, hg, r⟩
    · exact Or.inl h0
    · exact Or.inr ⟨g, cap, cur, hv, hB, (hs.block g (Array.getElem?_eq_some_iff.1 hg).1 (h.off g (by rw [hv]; rfl))).trans hg, r⟩
  · rcases hk with hk | hk
    · rcases hs.out k hk with h1 | h1
      · exact Or.inl (Or.inl h1)
      · exact Or.inr h1
    · exact Or.inl (Or.inr hk)
theorem below (h : Own1 K w b0 Z v l) (hb : Below w.heap.size w w') : Own1 K w' b0 Z v l := h.next (Stays.below hb fun _ hk => Or.inl hk)
theorem push {o : Obj} {y : α} {g' cap : Nat} (h : Own1 K w b0 Z v l) (hy : K.inn (fun k => Z k ∨ v.ownBlock = some k) w y) (hZ : ∀ k, Z k → k < w.heap.size)
    (h1 : w'.ownsRow b0 K.e K.size (.slice (some ⟨g', 0, none⟩) (l.length + 1) cap) (l ++ [y]).length (K.cs (l ++ [y]))) (h2 : (w.alloc o).grownBy w' v.ownBlock) (h3 : v.ownBlock = some g' ∨ g' = w.heap.size + 1) :
    Own1 K w' b0 Z (.slice (some ⟨g', 0, none⟩) (l.length + 1) cap) (l ++ [y]) := by
  have hblk : ∀ k, k < w.heap.size → ¬ (Z k ∨ v.ownBlock = some k) → w'.heap[k]? = w.heap[k]? := fun k hk hz =>
    (h2.block k (by simp; omega) (fun e => hz (Or.inr e.symm))).trans (Below.heap_alloc w o k hk)
  have hout : ∀ k, (Z k ∨ (Value.slice (some ⟨g', 0, none⟩) (l.length + 1) cap).ownBlock = some k) → (Z k ∨ v.ownBlock = some k) ∨ w.heap.size ≤ k := by
    intro k hk
    rcases hk with hk | hk
    · exact Or.inl (Or.inl hk)
    · have hk2 : g' = k := by injection hk
      rcases h3 with h3 | h3
      · exact Or.inl (Or.inr (by rw [h3, hk2]))
      · exact Or.inr (by omega)
  refine ⟨h1, fun g hg hz => ?_, fun x hx => ?_⟩
  · have hk2 : g' = g := by injection hg
    rcases h3 with h3 | h3
    · exact h.off g (by rw [h3, hk2]) hz
    · have := hZ g hz; omega
  · rcases List.mem_append.1 hx with hx | hx
    · exact K.next (h.each x hx) ⟨hblk, hout⟩
    · rw [List.mem_singleton] at hx
      rw [hx]
      exact K.next hy ⟨hblk, hout⟩
theorem cell {p : Option Addr} {q : Nat} (h : Own1 K w b0 Z (.slice p l.length q) l) {j : Nat} (hj : j < l.length) : ∃ g, p = some ⟨g, 0, none⟩ ∧ ¬ Z g ∧ ∀ r, r < K.size → w.cell? ⟨g, j * K.size + r, none⟩ = (K.f l[j])[r]? := by
  rcases h.row.2 with ⟨hv, h0⟩ | ⟨g, cap, cur, hv, _⟩
  · omega
  · injection hv with h1 h2 h3
    subst h1
    refine ⟨g, rfl, h.off g rfl, fun r hr => ?_⟩
    have hlt : j * K.size + r < l.length * K.size := Nat.lt_of_lt_of_le (show j * K.size + r < (j + 1) * K.size by rw [Nat.add_one_mul]; omega) (Nat.mul_le_mul_right _ hj)
    rw [World.ownsRow.cellAt h.row (j * K.size + r) hlt]
    exact K.cs_get l j hj r hr
/-- the frame: of what lay below b0 nothing has turned -/
theorem frame {w0 : World} {o : Obj} (h : Own1 K w b0 Z v l) (hb : Below b0 w0 w) (hz : b0 ≤ w.heap.size) (h2 : (w.alloc o).grownBy w' v.ownBlock) : Below b0 w0 w' :=
  (hb.alloc hz o).grown h2 (by simp; omega) (fun g hg => (h.lt g hg).1)
end Own1

/-! ### expressions in rows -/

structure ET where
  e : Ex
  a : Option Addr
  c : Nat
theorem info_e : (Tryz.prog.info? 38).map (fun i => (i.zero, i.size, i.bytes)) = some (some (.agg #[.int .i64 0, .int .i64 0, .string ⟨#[]⟩, .slice none 0 0]), 4, 56) := by kernel_rfl
def kE : RowK ET where
  f := fun x => [.int .i64 x.e.op, .int .i64 x.e.n, .string x.e.s, .slice x.a x.e.args.length x.c]
  size := 4
  bytes := 56
  t := 36
  e := 38
  z := .agg #[.int .i64 0, .int .i64 0, .string ⟨#[]⟩, .slice none 0 0]
  inn := fun Z w x => KidsF Z w x.a x.e.args
  und := Tryz.underlying36
  info := info_e
  len := fun _ => rfl
  one := fun x u hu => by simp at hu; rcases hu with rfl | rfl | rfl | rfl <;> rfl
  pos := by decide
  zs := rfl
  small := by decide
  next := fun h hs => KidsF.next h hs
theorem exs_of {W : World} {b : Nat} : ∀ (l : List ET) (i : Nat), (∀ j (h : j < l.length) r, r < 4 → W.cell? ⟨b, i + j * 4 + r, none⟩ = (kE.f l[j])[r]?) → (∀ x ∈ l, Kids W x.a x.e.args) → ExsAt W (l.map ET.e) b i
  | [], _, _, _ => by rw [List.map_nil, ExsAt]; trivial
  | x :: l, i, hc, hk => by
    rw [List.map_cons, ExsAt]
    refine ⟨?_, exs_of l (i + 4) (fun j hj r hr => ?_) fun y hy => hk y (List.mem_cons_of_mem _ hy)⟩
    · have h0 := hc 0 (by simp) 0 (by decide)
      have h1 := hc 0 (by simp) 1 (by decide)
      have h2 := hc 0 (by simp) 2 (by decide)
      have h3 := hc 0 (by simp) 3 (by decide)
      simp only [Nat.zero_mul, Nat.add_zero, List.getElem_cons_zero] at h0 h1 h2 h3
      have hk0 := hk x List.mem_cons_self
      obtain ⟨⟨o, n, s, args⟩, a, c⟩ := x
      rw [ExAt]
      exact ⟨h0, h1, h2, a, c, h3, hk0⟩
    · have := hc (j + 1) (by simpa using hj) r hr
      rw [show i + 4 + j * 4 + r = i + (j + 1) * 4 + r by omega]
      simpa using this
/-- the row as expressions in memory -/
theorem Own1.kids {w : World} {b0 : Nat} {Z : Nat → Prop} {p : Option Addr} {q : Nat} {l : List ET} (h : Own1 kE w b0 Z (.slice p l.length q) l) : KidsF Z w p (l.map ET.e) := by
  by_cases h0 : l = []
  · left; rw [h0]; rfl
  · have hpos : 0 < l.length := List.length_pos_iff.2 h0
    obtain ⟨g, rfl, hz, _⟩ := h.cell hpos
    refine Or.inr ⟨g, 0, rfl, exs_of l 0 (fun j hj r hr => ?_) fun x hx => ?_⟩
    · obtain ⟨g2, hg, hz2, hc⟩ := h.cell hj
      cases hg
      have hr2 : r < (kE.f l[j]).length := by rw [kE.len]; exact hr
      have hcr := hc r hr
      rw [List.getElem?_eq_getElem hr2] at hcr ⊢
      rw [Nat.zero_add]
      exact (hollow_cell Z w _ _ _).2 ⟨hz, hcr⟩
    · exact KidsF.next (Z' := Z) (h.each x hx) ⟨fun _ _ _ => rfl, fun k hk => Or.inl (Or.inl hk)⟩
end Go.Proofs.YteglaeopaocilaaGreatDoor.A
