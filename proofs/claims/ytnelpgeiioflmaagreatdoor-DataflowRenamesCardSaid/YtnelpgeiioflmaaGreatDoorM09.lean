/-
  What the reference of layer 8 returns: Occurs: a contract.
  What the program's functions of layer 8 return: paramsError and what it calls: contracts.
  What the program's functions of layer 8 return: fillsOthers, stmtError: contracts.
  What the program's function stmtError of layer 8 returns: its contract.
  What the reference of layer 8 returns: params: a contract.
-/
import Derived.Test.YtnelpgeiioflmaaGreatDoorM08
import Derived.Test.YtnelpgeiioflmaaGreatDoorM06
import Derived.Deep.Cut
import Derived.BigQuiet
namespace Go.Proofs.YtnelpgeiioflmaaGreatDoor.A
open Go.RowKit
open L (Str isName prt size_len below_2 below_box ret_bool ret_int eql_eq bytes_eq)

theorem eql_yes {a b : ByteArray} (h : a = b) : (a.toList == b.toList) = true := by rw [eql_eq]; exact decide_eq_true (by rw [h])
theorem eql_no {a b : ByteArray} (h : ¬ a = b) : (a.toList == b.toList) = false := by rw [eql_eq]; exact decide_eq_false (fun h2 => h (bytes_eq h2))
theorem occurs_par {p : Pr} {x : ByteArray} {k : Nat} (h : k < p.params.length) (hx : p.params[k].name = x) : occurs p x = true := by
  unfold occurs
  rw [List.any_eq_true.2 ⟨p.params[k], List.getElem_mem h, decide_eq_true hx⟩, Bool.true_or]
theorem occurs_walk {p : Pr} {x : ByteArray} {k : Nat} (h : k < (walk p).length) (hx : V.says x (walk p)[k] = true) : occurs p x = true := by
  unfold occurs
  rw [List.any_eq_true.2 ⟨(walk p)[k], List.getElem_mem h, hx⟩, Bool.or_true]
theorem occurs_no {p : Pr} {x : ByteArray} (h1 : ∀ j (h : j < p.params.length), ¬ p.params[j].name = x) (h2 : ∀ j (h : j < (walk p).length), V.says x (walk p)[j] = false) : occurs p x = false := by
  unfold occurs
  have e1 : p.params.any (fun q => decide (q.name = x)) = false := by
    rw [List.any_eq_false]
    intro q hq
    obtain ⟨j, hj, rfl⟩ := List.getElem_of_mem hq
    rw [decide_eq_true_eq]
    exact h1 j hj
  have e2 : (walk p).any (V.says x) = false := by
    rw [List.any_eq_false]
    intro q hq
    obtain ⟨j, hj, rfl⟩ := List.getElem_of_mem hq
    rw [h2 j hj]
    decide
  rw [e1, e2]; rfl
set_option maxHeartbeats 4000000 in
set_option maxRecDepth 100000 in
theorem roccurs_any (p : Pr) (a1 : Option Addr) (c1 : Nat) (a2 : Option Addr) (c2 : Nat) (x : ByteArray) (hok : OkP p) (w : World) (hK : PrIn w p a1 a2) :
    Calls Tryz.prog 50 #[prV p a1 c1 a2 c2, .string x] w fun e' w' => e' = .returned (.bool (occurs p x)) ∧ Below w.heap.size w w' := by
  have hw := below_box w (prO p a1 c1 a2 c2)
  have HW := Lib.hid hw
  have HBL := Lib.hid (fun w' hb => proc_later (w := w) (w' := w') (p := p) (a1 := a1) (a2 := a2) (c1 := c1) (c2 := c2) hb)
  have HKK := Lib.hid hK
  have HC := Lib.hid (fun w hK => rwalk_any p a1 a2 c1 c2 hok.body hok.bodyLen w hK)
  have hpl := hok.params
  have hn : (walk p).length ≤ 401 := by unfold walk; rw [List.length_take]; omega
  have S1 : Hid (∀ k (h : k < p.params.length), p.params[k].name = x → occurs p x = true) := fun k h hx => occurs_par h hx
  have S2 : Hid (∀ k (h : k < (walk p).length), V.says x (walk p)[k] = true → occurs p x = true) := fun k h hx => occurs_walk h hx
  have S3 : Hid ((∀ j (h : j < p.params.length), ¬ p.params[j].name = x) → (∀ j (h : j < (walk p).length), V.says x (walk p)[j] = false) → occurs p x = false) := fun h1 h2 => occurs_no h1 h2
  obtain ⟨g, hg⟩ : ∃ g, p.params.length = g := ⟨_, rfl⟩
  have HL := Lib.hid hg
  unfold prV prO at *
  rw [hg] at HW HBL hpl HC ⊢
  clear hw hK hok hg
  go_enter Tryz.func50, Tryz.ntmps50
  go_wp2_with fail
  go_loopw [5] (fun s5 wr => ∃ k : Nat, k ≤ g ∧ s5 = .int .i64 k ∧ Hid (∀ j (h : j < p.params.length), j < k → ¬ p.params[j].name = x) ∧ Hid (Below (w.alloc (.cells #[.string p.name, .slice a1 g c1, .slice a2 p.body.length c2] 25)).heap.size (w.alloc (.cells #[.string p.name, .slice a1 g c1, .slice a2 p.body.length c2] 25)) wr)) (fun s5 _ => g - (intOf s5).toNat)
  case atStart => exact ⟨0, Nat.zero_le _, rfl, fun j _ h => absurd h (Nat.not_lt_zero _), Below.refl _ _⟩
  case round =>
    obtain ⟨k, hk, rfl, HX, HB⟩ := hrel
    obtain ⟨c0', c1', c2'⟩ := HBL.out _ HB.out
    have HBB := Lib.hid (below_2 HW.out HB.out)
    by_cases hlt : k < g
    · have hlx : k < p.params.length := by rw [HL.out]; exact hlt
      obtain ⟨b3, i3, rfl, hc⟩ := (HKK.out.below HBB.out).params.open hlx
      obtain ⟨f0, f1⟩ := hc k hlx
      have HS1 := Lib.hid (S1.out k hlx)
      have HN : Hid (¬ p.params[k].name = x → ∀ j (h : j < p.params.length), j < k + 1 → ¬ p.params[j].name = x) := by
        intro hne j h hj
        by_cases hjk : j = k
        · subst hjk; exact hne
        · exact HX.out j h (by omega)
      generalize p.params[k] = q at f0 f1 HS1 HN
      by_cases hx : q.name = x
      · have hb := eql_yes hx
        have HV := Lib.hid (HS1.out hx)
        clear hc hx
        go_wp2_with fail
        go_ret
        exact ⟨ret_bool HV.out.symm, HBB.out⟩
      · have hb := eql_no hx
        have HV := Lib.hid (HN.out hx)
        clear hc hx
        go_wp2_with fail
        go_roundw
        case rel => exact ⟨k + 1, by omega, by go_num, HV.out, HB.out⟩
        case measure => simp [intOf]; omega
    · have HN : Hid (∀ j (h : j < p.params.length), ¬ p.params[j].name = x) := fun j h => HX.out j h (by have := HL.out; omega)
      go_wp2_with fail
      refine (HC.out _ (HKK.out.below HBB.out).body).mono ?_; rintro e w2 ⟨p3, q3, l', rfl, ho, hi, hv, hb2⟩
      have HO := Lib.hid ho
      have HW2 := Lib.hid hv
      have hln : l'.length ≤ 401 := by rw [← vs_len, hv]; exact hn
      have HV : Hid (Below w.heap.size w w2) := below_2 HBB.out hb2
      clear ho hi hv hb2 c0' c1' c2'
      go_wp2_with fail
      go_loopw [7] (fun s7 w3 => ∃ k : Nat, k ≤ l'.length ∧ s7 = .int .i64 k ∧ Hid (∀ j (h : j < (walk p).length), j < k → V.says x (walk p)[j] = false) ∧ w3 = w2) (fun s7 _ => l'.length - (intOf s7).toNat)
      case atStart => exact ⟨0, Nat.zero_le _, rfl, fun j _ h => absurd h (Nat.not_lt_zero _), rfl⟩
      case round =>
        obtain ⟨k2, hk2, rfl, HX2, rfl⟩ := hrel
        by_cases hlt2 : k2 < l'.length
        · obtain ⟨g3, rfl, hcell⟩ := visit_cells HO.out hlt2
          have hlw : k2 < (walk p).length := by rw [← HW2.out, vs_len]; exact hlt2
          have hvk : (walk p)[k2] = (l'[k2]).v := by simp only [← HW2.out, vs, List.getElem_map]
          have HS2 := Lib.hid (S2.out k2 hlw)
          have HN2 : Hid (V.says x (walk p)[k2] = false → ∀ j (h : j < (walk p).length), j < k2 + 1 → V.says x (walk p)[j] = false) := by
            intro hne j h hj
            by_cases hjk : j = k2
            · subst hjk; exact hne
            · exact HX2.out j h (by omega)
          rw [hvk] at HS2 HN2
          generalize l'[k2] = y at hcell HS2 HN2
          clear hvk hlw
          cases y with
          | st s d a5 c5 a6 c6 a7 c7 a8 c8 =>
            have f0 : wr.cell? ⟨g3, k2 * 20, none⟩ = some (.bool true) := hcell 0 (by omega)
            have f2 : wr.cell? ⟨g3, k2 * 20 + 2, none⟩ = some (.string s.name) := hcell 2 (by omega)
            clear hcell
            by_cases hx : s.name = x
            · have hb := eql_yes hx
              have HV2 := Lib.hid (HS2.out (by show V.says x (.st s d) = true; unfold V.says; exact decide_eq_true hx))
              clear hx
              go_wp2_with fail
              go_ret
              exact ⟨ret_bool HV2.out.symm, HV.out⟩
            · have hb := eql_no hx
              have HV2 := Lib.hid (HN2.out (by show V.says x (.st s d) = false; unfold V.says; exact decide_eq_false hx))
              clear hx
              go_wp2_with fail
              go_roundw
              case rel => exact ⟨k2 + 1, by omega, by go_num, HV2.out, trivial⟩
              case measure => simp [intOf]; omega
          | ex e r a5 c5 =>
            have f0 : wr.cell? ⟨g3, k2 * 20, none⟩ = some (.bool false) := hcell 0 (by omega)
            have f15 : wr.cell? ⟨g3, k2 * 20 + 15, none⟩ = some (.int .i64 e.op) := hcell 15 (by omega)
            have f17 : wr.cell? ⟨g3, k2 * 20 + 17, none⟩ = some (.string e.s) := hcell 17 (by omega)
            clear hcell
            by_cases h3 : e.op = 3
            · have b3 : (e.op == 3) = true := beq_iff_eq.2 h3
              by_cases hx : e.s = x
              · have hb := eql_yes hx
                have HV2 := Lib.hid (HS2.out (by show V.says x (.ex e r) = true; unfold V.says; simp [h3, hx]))
                clear hx h3
                go_wp2_with fail
                go_ret
                exact ⟨ret_bool HV2.out.symm, HV.out⟩
              · have hb := eql_no hx
                have HV2 := Lib.hid (HN2.out (by show V.says x (.ex e r) = false; unfold V.says; simp [hx]))
                clear hx h3
                go_wp2_with fail
                go_roundw
                case rel => exact ⟨k2 + 1, by omega, by go_num, HV2.out, trivial⟩
                case measure => simp [intOf]; omega
            · have b3 : (e.op == 3) = false := beq_eq_false_iff_ne.2 h3
              have HV2 := Lib.hid (HN2.out (by show V.says x (.ex e r) = false; unfold V.says; simp [h3]))
              clear h3
              go_wp2_with fail
              go_roundw
              case rel => exact ⟨k2 + 1, by omega, by go_num, HV2.out, trivial⟩
              case measure => simp [intOf]; omega
        · have HV2 : Hid (occurs p x = false) := S3.out HN.out (fun j h => HX2.out j h (by rw [← HW2.out, vs_len] at h; omega))
          go_wp2_with fail
          go_ret
          exact ⟨ret_bool HV2.out.symm, HV.out⟩
end Go.Proofs.YtnelpgeiioflmaaGreatDoor.A
namespace Go.Proofs.YtnelpgeiioflmaaGreatDoor.A
open Go.RowKit
open L (Str isName prt size_len below_2 below_box ret_bool ret_int eql_eq bytes_eq)

def pmV (q : Pm) : Value := .agg #[.string q.name, .int .i64 q.ty]
set_option maxHeartbeats 2000000 in
set_option maxRecDepth 100000 in
theorem osameName_any (q : Pm) (N : Nat) (x : ByteArray) (w : World) (h : w.cell? ⟨N, 0, none⟩ = some (.string x)) :
    Calls Tryz.prog 111 #[pmV q, .pointer (some ⟨N, 0, none⟩)] w fun e' w' => e' = .returned (.bool (decide (q.name = x))) ∧ Below w.heap.size w w' := by
  have hw := below_box w (.cells #[.string q.name, .int .i64 q.ty] 49)
  have h2 := (hw.cell (block_lt_of_cell h)).trans h
  have HW := Lib.hid hw
  have hb := bytes_dec q.name x
  obtain ⟨v, hv⟩ : ∃ v, decide (q.name = x) = v := ⟨_, rfl⟩
  rw [hv] at hb ⊢
  unfold pmV
  clear hw hv
  go_enter Tryz.func111, Tryz.ntmps111
  go_wp2_with fail
  go_ret
  exact ⟨rfl, HW.out⟩
def idxP (x : ByteArray) : List Pm → Nat → Int
  | [], _ => -1
  | q :: r, k => if decide (q.name = x) = true then (k : Int) else idxP x r (k + 1)
theorem idxP_any (x : ByteArray) : ∀ (l : List Pm) (k : Nat), decide (0 ≤ idxP x l k) = l.any (fun q => decide (q.name = x))
  | [], k => rfl
  | q :: r, k => by
    rw [idxP, List.any_cons]
    cases h : decide (q.name = x)
    · rw [if_neg (by decide), Bool.false_or]; exact idxP_any x r (k + 1)
    · rw [if_pos rfl, Bool.true_or]; exact decide_eq_true (by omega)
set_option maxHeartbeats 4000000 in
set_option maxRecDepth 100000 in
theorem oindexFunc_any (l : List Pm) (a : Option Addr) (c N : Nat) (x : ByteArray) (hl : l.length ≤ 1000000000000000) (w : World) (hK : PmsAt w a l) (h : w.cell? ⟨N, 0, none⟩ = some (.string x)) :
    Calls Tryz.prog 101 #[.slice a l.length c, .func (Fn.func 111) #[] #[.pointer (some ⟨N, 0, none⟩)]] w fun e' w' => e' = .returned (.int .i64 (idxP x l 0)) ∧ Below w.heap.size w w' := by
  have HK := Lib.hid hK
  have HX := Lib.hid h
  have hlt0 := block_lt_of_cell h
  obtain ⟨R, hR⟩ : ∃ R, idxP x l 0 = R := ⟨_, rfl⟩
  rw [hR]
  have HR : Hid (idxP x (l.drop 0) 0 = R) := hR
  obtain ⟨m, hm⟩ : ∃ m, l.length = m := ⟨_, rfl⟩
  have HL := Lib.hid hm
  rw [hm] at hl ⊢
  clear hm hR hK h
  go_enter Tryz.func101, Tryz.ntmps101
  go_wp2_with fail
  go_loopw [8] (fun s8 wr => ∃ k : Nat, k ≤ m ∧ s8 = .int .i64 k ∧ Hid (idxP x (l.drop k) k = R) ∧ Hid (Below w.heap.size w wr)) (fun s8 _ => m - (intOf s8).toNat)
  case atStart => exact ⟨0, Nat.zero_le _, rfl, HR, Below.refl _ _⟩
  case round =>
    obtain ⟨k, hk, rfl, HX2, HB⟩ := hrel
    by_cases hlt : k < m
    · have hlx : k < l.length := by rw [HL.out]; exact hlt
      have hx := HX2.out
      rw [List.drop_eq_getElem_cons hlx, idxP] at hx
      obtain ⟨b3, i3, rfl, hc⟩ := (HK.out.below HB.out).open hlx
      obtain ⟨f0, f1⟩ := hc k hlx
      have HC := Lib.hid (osameName_any l[k] N x wr ((HB.out.cell hlt0).trans HX.out))
      generalize l[k] = q at f0 f1 HC hx
      generalize decide (q.name = x) = y at HC hx
      unfold pmV at HC
      clear hc
      cases y
      · rw [if_neg (by decide)] at hx
        have HN := Lib.hid hx
        clear hx
        go_wp2_with fail
        refine HC.out.mono ?_; rintro e w2 ⟨rfl, hb2⟩
        have HB2 := Lib.hid (below_2 HB.out hb2)
        clear hb2
        go_wp2_with fail
        go_roundw
        case rel => exact ⟨k + 1, by omega, by go_num, HN, HB2⟩
        case measure => simp [intOf]; omega
      · rw [if_pos rfl] at hx
        have HV := Lib.hid hx
        clear hx
        go_wp2_with fail
        refine HC.out.mono ?_; rintro e w2 ⟨rfl, hb2⟩
        have HB2 := Lib.hid (below_2 HB.out hb2)
        clear hb2
        go_wp2_with fail
        go_ret
        exact ⟨ret_int HV.out, HB2.out⟩
    · have HV : Hid (-1 = R) := by
        show _ = _
        rw [← HX2.out, List.drop_of_length_le (by rw [HL.out]; omega), idxP]
      go_wp2_with fail
      go_ret
      exact ⟨ret_int HV.out, HB.out⟩
set_option maxHeartbeats 2000000 in
set_option maxRecDepth 100000 in
theorem ocontainsFunc_any (l : List Pm) (a : Option Addr) (c N : Nat) (x : ByteArray) (hl : l.length ≤ 1000000000000000) (w : World) (hK : PmsAt w a l) (h : w.cell? ⟨N, 0, none⟩ = some (.string x)) :
    Calls Tryz.prog 83 #[.slice a l.length c, .func (Fn.func 111) #[] #[.pointer (some ⟨N, 0, none⟩)]] w fun e' w' => e' = .returned (.bool (l.any (fun q => decide (q.name = x)))) ∧ Below w.heap.size w w' := by
  have HC := Lib.hid (oindexFunc_any l a c N x hl w hK h)
  have hv := idxP_any x l 0
  generalize idxP x l 0 = r at HC hv
  generalize l.any (fun q => decide (q.name = x)) = y at hv ⊢
  generalize l.length = m at HC ⊢
  clear hl hK h
  go_enter Tryz.func83, Tryz.ntmps83
  go_wp2_with fail
  refine HC.out.mono ?_; rintro e w2 ⟨rfl, hb2⟩
  have HB2 := Lib.hid hb2
  clear hb2
  go_wp2_with fail
  go_ret
  exact ⟨rfl, HB2.out⟩
theorem parF_drop {l : List Pm} {k : Nat} (h : k < l.length) : parF ((l.take k).map Pm.name) (l.drop k) = if nam l[k].name = false then 7 else if l[k].ty < 1 ∨ 3 < l[k].ty then 10 else if (l.take k).any (fun q => decide (q.name = l[k].name)) = true then 8 else parF ((l.take (k + 1)).map Pm.name) (l.drop (k + 1)) := by
  rw [List.drop_eq_getElem_cons h, parF, List.any_map, List.take_succ_eq_append_getElem h, List.map_append]
  rfl
theorem PmsAt.take {w : World} {a : Option Addr} {l : List Pm} (h : PmsAt w a l) (k : Nat) : PmsAt w a (l.take k) := by
  rcases h with h | ⟨b, i, ha, h⟩
  · left; rw [h]; simp
  · right
    refine ⟨b, i, ha, fun j hj => ?_⟩
    have hj2 : j < l.length := by rw [List.length_take] at hj; omega
    rw [List.getElem_take]
    exact h j hj2
set_option maxHeartbeats 8000000 in
set_option maxRecDepth 100000 in
theorem oparamsError_any (l : List Pm) (a : Option Addr) (c : Nat) (hl : l.length ≤ 1000000000000000) (w : World) (hc : l.length ≤ c) (hK : PmsAt w a l) :
    Calls Tryz.prog 97 #[.slice a l.length c] w fun e' w' => e' = .returned (.int .i64 (parE l)) ∧ Below w.heap.size w w' := by
  have HK := Lib.hid hK
  have hpe : parE l = if 6 < l.length then 2 else parF [] l := rfl
  obtain ⟨R, hR⟩ : ∃ R, parE l = R := ⟨_, rfl⟩
  rw [hR] at hpe ⊢
  have HP : Hid (l.length ≤ 6 → parF ((l.take 0).map Pm.name) (l.drop 0) = R) := fun h => by rw [hpe, if_neg (by omega)]; rfl
  have HP2 : Hid (6 < l.length → R = 2) := fun h => by rw [hpe, if_pos h]
  obtain ⟨m, hm⟩ : ∃ m, l.length = m := ⟨_, rfl⟩
  have HL := Lib.hid hm
  rw [hm] at hl hc HP HP2 ⊢
  clear hm hR hK hpe
  by_cases h6 : 6 < m
  · have HV : Hid (R = 2) := HP2.out h6
    have b6 : decide (6 < (m : Int)) = true := decide_eq_true (by omega)
    clear h6
    go_enter Tryz.func97, Tryz.ntmps97
    go_wp2_with fail
    go_ret
    exact ⟨ret_int HV.out.symm, Below.refl _ _⟩
  · have HR := Lib.hid (HP.out (by omega))
    have b6 : decide (6 < (m : Int)) = false := decide_eq_false (by omega)
    clear HP HP2
    go_enter Tryz.func97, Tryz.ntmps97
    go_wp2_with fail
    go_loopw [11] (fun s11 wr => ∃ k : Nat, k ≤ m ∧ s11 = .int .i64 k ∧ Hid (parF ((l.take k).map Pm.name) (l.drop k) = R) ∧ Hid (Below w.heap.size w wr)) (fun s11 _ => m - (intOf s11).toNat)
    case atStart => exact ⟨0, Nat.zero_le _, rfl, HR, Below.refl _ _⟩
    case round =>
      obtain ⟨k, hk, rfl, HX, HB⟩ := hrel
      by_cases hlt : k < m
      · have hlx : k < l.length := by rw [HL.out]; exact hlt
        have hx := HX.out
        rw [parF_drop hlx] at hx
        obtain ⟨b3, i3, rfl, hcc⟩ := (HK.out.below HB.out).open hlx
        obtain ⟨f0, f1⟩ := hcc k hlx
        have hbx := below_box wr (.cells #[.string l[k].name, .int .i64 l[k].ty] 49)
        have HI : Hid (∀ w, Calls Tryz.prog 96 #[.string l[k].name] w fun e' w' => e' = .returned (.bool (nam l[k].name)) ∧ Below w.heap.size w w') := fun w => L.oname_any l[k].name w
        have g0 : (wr.alloc (.cells #[.string l[k].name, .int .i64 l[k].ty] 49)).cell? ⟨wr.heap.size, 0, none⟩ = some (.string l[k].name) := by go_simp
        have g1 : (wr.alloc (.cells #[.string l[k].name, .int .i64 l[k].ty] 49)).cell? ⟨wr.heap.size, 1, none⟩ = some (.int .i64 l[k].ty) := by go_simp
        have hlen : (l.take k).length = k := by rw [List.length_take]; omega
        have HCF := Lib.hid (fun w' (hb : Below w.heap.size w w') (hx : w'.cell? ⟨wr.heap.size, 0, none⟩ = some (.string l[k].name)) => ocontainsFunc_any (l.take k) (some ⟨b3, i3, none⟩) c wr.heap.size l[k].name (by omega) w' ((HK.out.below hb).take k) hx)
        rw [hlen] at HCF
        have HG0 := Lib.hid g0
        have HG1 := Lib.hid g1
        have HBX := Lib.hid (below_2 HB.out hbx)
        generalize (l.take k).any (fun q => decide (q.name = l[k].name)) = y at HCF hx
        generalize l[k] = q at *
        clear hcc hlen hbx
        obtain ⟨nm, hnm⟩ : ∃ v, nam q.name = v := ⟨_, rfl⟩
        rw [hnm] at HI hx
        clear hnm
        cases nm
        · have HV : Hid (R = 7) := by show _ = _; rw [← hx, if_pos rfl]
          clear hx g0 g1
          go_wp2_with fail
          refine (HI.out _).mono ?_; rintro e w2 ⟨rfl, hb2⟩
          have HB2 := Lib.hid (below_2 HBX.out hb2)
          clear hb2
          go_wp2_with fail
          go_ret
          exact ⟨ret_int HV.out.symm, HB2.out⟩
        · rw [if_neg (by decide)] at hx
          clear g0 g1
          go_wp2_with fail
          refine (HI.out _).mono ?_; rintro e w2 ⟨rfl, hb2⟩
          have HB2 := Lib.hid (below_2 HBX.out hb2)
          have g0 := (hb2.cell (block_lt_of_cell HG0.out)).trans HG0.out
          have g1 := (hb2.cell (block_lt_of_cell HG1.out)).trans HG1.out
          clear hb2
          by_cases hty : q.ty < 1 ∨ 3 < q.ty
          · have t1 : (q.ty != 1) = true := bne_iff_ne.2 (by omega)
            have t2 : (q.ty != 2) = true := bne_iff_ne.2 (by omega)
            have t3 : (q.ty != 3) = true := bne_iff_ne.2 (by omega)
            have HV : Hid (R = 10) := by show _ = _; rw [← hx, if_pos hty]
            clear hx hty
            go_wp2_with fail
            go_ret
            exact ⟨ret_int HV.out.symm, HB2.out⟩
          · rw [if_neg hty] at hx
            have hC := HCF.out w2 HB2.out g0
            have HC := Lib.hid hC
            clear hC
            have ht : q.ty = 1 ∨ q.ty = 2 ∨ q.ty = 3 := by omega
            clear hty
            cases y
            · rw [if_neg (by decide)] at hx
              have HN := Lib.hid hx
              clear hx
              rcases ht with ht | ht | ht
              all_goals
                rw [ht] at g1
                clear ht
                go_wp2_with fail
                refine HC.out.mono ?_; rintro e w3 ⟨rfl, hb3⟩
                have HB3 := Lib.hid (below_2 HB2.out hb3)
                clear hb3
                go_wp2_with fail
                go_roundw
                case rel => exact ⟨k + 1, by omega, by go_num, HN, HB3⟩
                case measure => simp [intOf]; omega
            · have HV : Hid (R = 8) := by show _ = _; rw [← hx, if_pos rfl]
              clear hx
              rcases ht with ht | ht | ht
              all_goals
                rw [ht] at g1
                clear ht
                go_wp2_with fail
                refine HC.out.mono ?_; rintro e w3 ⟨rfl, hb3⟩
                have HB3 := Lib.hid (below_2 HB2.out hb3)
                clear hb3
                go_wp2_with fail
                go_ret
                exact ⟨ret_int HV.out.symm, HB3.out⟩
      · have HV : Hid (R = 0) := by
          show _ = _
          rw [← HX.out, List.drop_of_length_le (by rw [HL.out]; omega), parF]
        go_wp2_with fail
        go_ret
        exact ⟨ret_int HV.out.symm, HB.out⟩
end Go.Proofs.YtnelpgeiioflmaaGreatDoor.A
namespace Go.Proofs.YtnelpgeiioflmaaGreatDoor.A
open Go.RowKit
open L (Str isName prt size_len below_2 below_box ret_bool ret_int eql_eq bytes_eq)

def Rest (l : List Oper) (_ _ : Unit) : List Oper := l
theorem wpList_cut {P : Program} {ops : Array Oper} {Q : Exit → Act → World → Prop} {a : Act} {w : World} (n : Nat) {l : List Oper} (mid : Act → World → Prop)
    (h1 : ∀ B, Hid (∀ a w, mid a w → wpList P ops Q (Rest B () ()) a w) → wpList P ops Q (l.take n ++ Rest B () ()) a w) (h2 : ∀ a w, mid a w → wpList P ops Q (l.drop n) a w) : wpList P ops Q l a w := by
  rw [← List.take_append_drop n l]
  exact h1 _ h2
theorem used_bits (o : Int) : hasB (usedI o) 1 = uN o ∧ hasB (usedI o) 4 = uA o ∧ hasB (usedI o) 8 = uB o ∧ hasB (usedI o) 16 = uD o ∧ hasB (usedI o) 32 = uE o ∧ (1 ≤ o → o ≤ 8 → hasB (usedI o) 2 = uM o) ∧ ((usedI o == 0) = (decide (o < 1) || decide (8 < o))) := by
  by_cases h : 1 ≤ o ∧ o ≤ 8
  · obtain ⟨h1, h2⟩ := h
    have : o = 1 ∨ o = 2 ∨ o = 3 ∨ o = 4 ∨ o = 5 ∨ o = 6 ∨ o = 7 ∨ o = 8 := by omega
    rcases this with rfl | rfl | rfl | rfl | rfl | rfl | rfl | rfl <;> decide
  · have h1 : ¬ o = 1 := by omega
    have h2 : ¬ o = 2 := by omega
    have h3 : ¬ o = 3 := by omega
    have h4 : ¬ o = 4 := by omega
    have h5 : ¬ o = 5 := by omega
    have h6 : ¬ o = 6 := by omega
    have h7 : ¬ o = 7 := by omega
    have h8 : ¬ o = 8 := by omega
    have hu : usedI o = 0 := by unfold usedI; simp [h1, h2, h3, h4, h5, h6, h7, h8]
    rw [hu]
    refine ⟨?_, ?_, ?_, ?_, ?_, fun a b => absurd ⟨a, b⟩ h, ?_⟩
    · unfold uN; rw [decide_eq_false (by omega)]; decide
    · unfold uA; rw [decide_eq_false (by omega)]; decide
    · unfold uB; rw [decide_eq_false (by omega)]; decide
    · unfold uD; rw [decide_eq_false (by omega)]; decide
    · unfold uE; rw [decide_eq_false (by omega)]; decide
    · rw [← Bool.decide_or, decide_eq_true (by omega)]; rfl
def fillB (s : St) : Bool := (!decide (s.name.size = 0) && !hasB (usedI s.op) 1) || ((s.mx != 0) && !hasB (usedI s.op) 2) || (!absent s.a && !hasB (usedI s.op) 4) || (!absent s.b && !hasB (usedI s.op) 8) || (decide (0 < (s.body.length : Int)) && !hasB (usedI s.op) 16) || (decide (0 < (s.els.length : Int)) && !hasB (usedI s.op) 32)
theorem fill_def (s : St) : fillB s = ((!decide (s.name.size = 0) && !hasB (usedI s.op) 1) || ((s.mx != 0) && !hasB (usedI s.op) 2) || (!absent s.a && !hasB (usedI s.op) 4) || (!absent s.b && !hasB (usedI s.op) 8) || (decide (0 < (s.body.length : Int)) && !hasB (usedI s.op) 16) || (decide (0 < (s.els.length : Int)) && !hasB (usedI s.op) 32)) := rfl
theorem empty_len {α : Type} (l : List α) : (!l.isEmpty) = decide (0 < (l.length : Int)) := by
  cases l with
  | nil => rfl
  | cons x l => rw [decide_eq_true (by simp)]; rfl
theorem fill_bad (s : St) : ((usedI s.op == 0) || fillB s) = badS s := by
  obtain ⟨h1, h4, h8, h16, h32, h2, h0⟩ := used_bits s.op
  unfold fillB badS
  rw [h1, h4, h8, h16, h32, h0, ← empty_len, ← empty_len]
  by_cases h : 1 ≤ s.op ∧ s.op ≤ 8
  · rw [h2 h.1 h.2, decide_eq_false (show ¬ s.op < 1 by omega), decide_eq_false (show ¬ 8 < s.op by omega)]
    rw [show (s.mx != 0) = !decide (s.mx = 0) by simp [bne, Bool.beq_eq_decide_eq]]
    simp only [Bool.false_or]
    simp only [Bool.and_comm]
  · rw [← Bool.decide_or, decide_eq_true (by omega)]
    simp
set_option maxHeartbeats 8000000 in
set_option maxRecDepth 100000 in
theorem ofills_any (s : St) (b i : Nat) (a1 : Option Addr) (c1 : Nat) (a2 : Option Addr) (c2 : Nat) (a3 : Option Addr) (c3 : Nat) (a4 : Option Addr) (c4 : Nat) (hl1 : s.body.length ≤ 1000000000000000) (hl2 : s.els.length ≤ 1000000000000000) (w : World) (h : StCells w s b i a1 c1 a2 c2 a3 c3 a4 c4) :
    Calls Tryz.prog 113 #[.pointer (some ⟨b, i, none⟩), .int .i64 (usedI s.op)] w fun e' w' => e' = .returned (.bool (fillB s)) ∧ w' = w := by
  have HA := Lib.hid (oabsent_any s.a b (i + 3) a1 c1 w h.fourA)
  have HB := Lib.hid (oabsent_any s.b b (i + 7) a2 c2 w h.fourB)
  have HH1 := Lib.hid (ohas_any s.op 1 (by omega) w)
  have HH2 := Lib.hid (ohas_any s.op 2 (by omega) w)
  have HH4 := Lib.hid (ohas_any s.op 4 (by omega) w)
  have HH8 := Lib.hid (ohas_any s.op 8 (by omega) w)
  have HH16 := Lib.hid (ohas_any s.op 16 (by omega) w)
  have HH32 := Lib.hid (ohas_any s.op 32 (by omega) w)
  have k1 := h.k1
  have k2 := h.k2
  have k11 := h.k11
  have k12 := h.k12
  have hV := fill_def s
  have he2 := nil_of (s := s.name)
  have he3 := empty_of (s := s.name)
  obtain ⟨v1, h1⟩ : ∃ v, decide (s.name.size = 0) = v := ⟨_, rfl⟩
  obtain ⟨v2, h2⟩ : ∃ v, (s.mx != 0) = v := ⟨_, rfl⟩
  obtain ⟨v3, h3⟩ : ∃ v, absent s.a = v := ⟨_, rfl⟩
  obtain ⟨v4, h4⟩ : ∃ v, absent s.b = v := ⟨_, rfl⟩
  obtain ⟨v5, h5⟩ : ∃ v, decide (0 < (s.body.length : Int)) = v := ⟨_, rfl⟩
  obtain ⟨v6, h6⟩ : ∃ v, decide (0 < (s.els.length : Int)) = v := ⟨_, rfl⟩
  obtain ⟨u1, g1⟩ : ∃ v, hasB (usedI s.op) 1 = v := ⟨_, rfl⟩
  obtain ⟨u2, g2⟩ : ∃ v, hasB (usedI s.op) 2 = v := ⟨_, rfl⟩
  obtain ⟨u3, g3⟩ : ∃ v, hasB (usedI s.op) 4 = v := ⟨_, rfl⟩
  obtain ⟨u4, g4⟩ : ∃ v, hasB (usedI s.op) 8 = v := ⟨_, rfl⟩
  obtain ⟨u5, g5⟩ : ∃ v, hasB (usedI s.op) 16 = v := ⟨_, rfl⟩
  obtain ⟨u6, g6⟩ : ∃ v, hasB (usedI s.op) 32 = v := ⟨_, rfl⟩
  rw [h1] at he2 he3
  rw [h3] at HA
  rw [h4] at HB
  rw [g1] at HH1
  rw [g2] at HH2
  rw [g3] at HH4
  rw [g4] at HH8
  rw [g5] at HH16
  rw [g6] at HH32
  rw [h1, h2, h3, h4, h5, h6, g1, g2, g3, g4, g5, g6] at hV
  have HV := Lib.hid hV
  generalize usedI s.op = o at HH1 HH2 HH4 HH8 HH16 HH32 ⊢
  clear hV h h1 h3 h4 g1 g2 g3 g4 g5 g6
  have h5' : decide (0 < s.body.length) = v5 := by rw [← h5]; exact decide_eq_decide.2 (by omega)
  have h6' : decide (0 < s.els.length) = v6 := by rw [← h6]; exact decide_eq_decide.2 (by omega)
  obtain ⟨p1, hp1⟩ : ∃ p, (!v1 && !u1) = p := ⟨_, rfl⟩
  obtain ⟨p2, hp2⟩ : ∃ p, (p1 || (v2 && !u2)) = p := ⟨_, rfl⟩
  obtain ⟨p3, hp3⟩ : ∃ p, (p2 || (!v3 && !u3)) = p := ⟨_, rfl⟩
  obtain ⟨p4, hp4⟩ : ∃ p, (p3 || (!v4 && !u4)) = p := ⟨_, rfl⟩
  obtain ⟨p5, hp5⟩ : ∃ p, (p4 || (v5 && !u5)) = p := ⟨_, rfl⟩
  obtain ⟨p6, hp6⟩ : ∃ p, (p5 || (v6 && !u6)) = p := ⟨_, rfl⟩
  rw [hp1, hp2, hp3, hp4, hp5, hp6] at HV
  have HP1 := Lib.hid hp1
  have HP2 := Lib.hid hp2
  have HP3 := Lib.hid hp3
  have HP4 := Lib.hid hp4
  have HP5 := Lib.hid hp5
  have HP6 := Lib.hid hp6
  clear hp1 hp2 hp3 hp4 hp5 hp6
  rw [HV.out]
  clear HV
  go_enter Tryz.func113, Tryz.ntmps113
  go_upto_region 1 with fail
  refine wp_region_lit ?_
  simp only [List.append_eq, List.cons_append, List.nil_append]
  refine wpList_cut 11 (fun a' w' => ∃ u5 u6 u7 u8 u9 u10 u11 u12 u13 u14 : Value, a' = ⟨#[.pointer (some ⟨b, i, none⟩), .int .i64 o, undef, undef, .bool false, u5, u6, u7, u8, u9, u10, u11, u12, u13, u14, .bool p1, undef, undef, undef, undef, undef, undef, undef, undef, undef, undef, undef, undef, undef, undef, undef, undef, undef, undef, undef, undef, undef, undef, undef, undef, undef, undef, undef, undef, undef, undef, undef, undef, undef, undef, undef, undef, undef, undef, undef, undef, undef, undef, undef, undef, undef, undef, undef, undef, undef, undef, undef, undef, undef, undef, undef, undef, undef, undef, undef, undef, undef], []⟩ ∧ w = w') ?_ ?_
  · intro B hB
    simp only [List.take_succ_cons, List.take_zero, List.cons_append, List.nil_append]
    cases v1 <;> cases u1
    all_goals
      have hp := HP1.out
      subst hp
      go_wp2_with fail
      repeat ((first | (with_reducible refine HA.out.mono ?_; rintro e' w2 ⟨rfl, rfl⟩) | (with_reducible refine HB.out.mono ?_; rintro e' w2 ⟨rfl, rfl⟩) | (with_reducible refine HH1.out.mono ?_; rintro e' w2 ⟨rfl, rfl⟩) | (with_reducible refine HH2.out.mono ?_; rintro e' w2 ⟨rfl, rfl⟩) | (with_reducible refine HH4.out.mono ?_; rintro e' w2 ⟨rfl, rfl⟩) | (with_reducible refine HH8.out.mono ?_; rintro e' w2 ⟨rfl, rfl⟩) | (with_reducible refine HH16.out.mono ?_; rintro e' w2 ⟨rfl, rfl⟩) | (with_reducible refine HH32.out.mono ?_; rintro e' w2 ⟨rfl, rfl⟩)); go_wp2_with fail)
      refine hB.out _ _ ?_
      repeat' apply Exists.intro
      exact ⟨rfl, rfl⟩
  rintro a' w' ⟨u5, u6, u7, u8, u9, u10, u11, u12, u13, u14, rfl, rfl⟩
  simp only [List.drop_succ_cons, List.drop_zero]
  clear HP1
  refine wpList_cut 12 (fun a' w' => ∃ u5 u6 u7 u8 u9 u10 u11 u12 u13 u14 u15 u16 u17 u18 u19 u20 u21 u22 u23 u24 u25 u26 : Value, a' = ⟨#[.pointer (some ⟨b, i, none⟩), .int .i64 o, undef, undef, .bool false, u5, u6, u7, u8, u9, u10, u11, u12, u13, u14, u15, u16, u17, u18, u19, u20, u21, u22, u23, u24, u25, u26, .bool p2, undef, undef, undef, undef, undef, undef, undef, undef, undef, undef, undef, undef, undef, undef, undef, undef, undef, undef, undef, undef, undef, undef, undef, undef, undef, undef, undef, undef, undef, undef, undef, undef, undef, undef, undef, undef, undef, undef, undef, undef, undef, undef, undef, undef, undef, undef, undef, undef, undef], []⟩ ∧ w = w') ?_ ?_
  · intro B hB
    simp only [List.take_succ_cons, List.take_zero, List.cons_append, List.nil_append]
    cases p1 <;> cases v2 <;> cases u2
    all_goals
      have hp := HP2.out
      subst hp
      go_wp2_with fail
      repeat ((first | (with_reducible refine HA.out.mono ?_; rintro e' w2 ⟨rfl, rfl⟩) | (with_reducible refine HB.out.mono ?_; rintro e' w2 ⟨rfl, rfl⟩) | (with_reducible refine HH1.out.mono ?_; rintro e' w2 ⟨rfl, rfl⟩) | (with_reducible refine HH2.out.mono ?_; rintro e' w2 ⟨rfl, rfl⟩) | (with_reducible refine HH4.out.mono ?_; rintro e' w2 ⟨rfl, rfl⟩) | (with_reducible refine HH8.out.mono ?_; rintro e' w2 ⟨rfl, rfl⟩) | (with_reducible refine HH16.out.mono ?_; rintro e' w2 ⟨rfl, rfl⟩) | (with_reducible refine HH32.out.mono ?_; rintro e' w2 ⟨rfl, rfl⟩)); go_wp2_with fail)
      refine hB.out _ _ ?_
      repeat' apply Exists.intro
      exact ⟨rfl, rfl⟩
  rintro a' w' ⟨u5, u6, u7, u8, u9, u10, u11, u12, u13, u14, u15, u16, u17, u18, u19, u20, u21, u22, u23, u24, u25, u26, rfl, rfl⟩
  simp only [List.drop_succ_cons, List.drop_zero]
  clear HP2
  refine wpList_cut 12 (fun a' w' => ∃ u5 u6 u7 u8 u9 u10 u11 u12 u13 u14 u15 u16 u17 u18 u19 u20 u21 u22 u23 u24 u25 u26 u27 u28 u29 u30 u31 u32 u33 u34 u35 u36 u37 u38 : Value, a' = ⟨#[.pointer (some ⟨b, i, none⟩), .int .i64 o, undef, undef, .bool false, u5, u6, u7, u8, u9, u10, u11, u12, u13, u14, u15, u16, u17, u18, u19, u20, u21, u22, u23, u24, u25, u26, u27, u28, u29, u30, u31, u32, u33, u34, u35, u36, u37, u38, .bool p3, undef, undef, undef, undef, undef, undef, undef, undef, undef, undef, undef, undef, undef, undef, undef, undef, undef, undef, undef, undef, undef, undef, undef, undef, undef, undef, undef, undef, undef, undef, undef, undef, undef, undef, undef, undef, undef], []⟩ ∧ w = w') ?_ ?_
  · intro B hB
    simp only [List.take_succ_cons, List.take_zero, List.cons_append, List.nil_append]
    cases p2 <;> cases v3 <;> cases u3
    all_goals
      have hp := HP3.out
      subst hp
      go_wp2_with fail
      repeat ((first | (with_reducible refine HA.out.mono ?_; rintro e' w2 ⟨rfl, rfl⟩) | (with_reducible refine HB.out.mono ?_; rintro e' w2 ⟨rfl, rfl⟩) | (with_reducible refine HH1.out.mono ?_; rintro e' w2 ⟨rfl, rfl⟩) | (with_reducible refine HH2.out.mono ?_; rintro e' w2 ⟨rfl, rfl⟩) | (with_reducible refine HH4.out.mono ?_; rintro e' w2 ⟨rfl, rfl⟩) | (with_reducible refine HH8.out.mono ?_; rintro e' w2 ⟨rfl, rfl⟩) | (with_reducible refine HH16.out.mono ?_; rintro e' w2 ⟨rfl, rfl⟩) | (with_reducible refine HH32.out.mono ?_; rintro e' w2 ⟨rfl, rfl⟩)); go_wp2_with fail)
      refine hB.out _ _ ?_
      repeat' apply Exists.intro
      exact ⟨rfl, rfl⟩
  rintro a' w' ⟨u5, u6, u7, u8, u9, u10, u11, u12, u13, u14, u15, u16, u17, u18, u19, u20, u21, u22, u23, u24, u25, u26, u27, u28, u29, u30, u31, u32, u33, u34, u35, u36, u37, u38, rfl, rfl⟩
  simp only [List.drop_succ_cons, List.drop_zero]
  clear HP3
  refine wpList_cut 12 (fun a' w' => ∃ u5 u6 u7 u8 u9 u10 u11 u12 u13 u14 u15 u16 u17 u18 u19 u20 u21 u22 u23 u24 u25 u26 u27 u28 u29 u30 u31 u32 u33 u34 u35 u36 u37 u38 u39 u40 u41 u42 u43 u44 u45 u46 u47 u48 u49 u50 : Value, a' = ⟨#[.pointer (some ⟨b, i, none⟩), .int .i64 o, undef, undef, .bool false, u5, u6, u7, u8, u9, u10, u11, u12, u13, u14, u15, u16, u17, u18, u19, u20, u21, u22, u23, u24, u25, u26, u27, u28, u29, u30, u31, u32, u33, u34, u35, u36, u37, u38, u39, u40, u41, u42, u43, u44, u45, u46, u47, u48, u49, u50, .bool p4, undef, undef, undef, undef, undef, undef, undef, undef, undef, undef, undef, undef, undef, undef, undef, undef, undef, undef, undef, undef, undef, undef, undef, undef, undef], []⟩ ∧ w = w') ?_ ?_
  · intro B hB
    simp only [List.take_succ_cons, List.take_zero, List.cons_append, List.nil_append]
    cases p3 <;> cases v4 <;> cases u4
    all_goals
      have hp := HP4.out
      subst hp
      go_wp2_with fail
      repeat ((first | (with_reducible refine HA.out.mono ?_; rintro e' w2 ⟨rfl, rfl⟩) | (with_reducible refine HB.out.mono ?_; rintro e' w2 ⟨rfl, rfl⟩) | (with_reducible refine HH1.out.mono ?_; rintro e' w2 ⟨rfl, rfl⟩) | (with_reducible refine HH2.out.mono ?_; rintro e' w2 ⟨rfl, rfl⟩) | (with_reducible refine HH4.out.mono ?_; rintro e' w2 ⟨rfl, rfl⟩) | (with_reducible refine HH8.out.mono ?_; rintro e' w2 ⟨rfl, rfl⟩) | (with_reducible refine HH16.out.mono ?_; rintro e' w2 ⟨rfl, rfl⟩) | (with_reducible refine HH32.out.mono ?_; rintro e' w2 ⟨rfl, rfl⟩)); go_wp2_with fail)
      refine hB.out _ _ ?_
      repeat' apply Exists.intro
      exact ⟨rfl, rfl⟩
  rintro a' w' ⟨u5, u6, u7, u8, u9, u10, u11, u12, u13, u14, u15, u16, u17, u18, u19, u20, u21, u22, u23, u24, u25, u26, u27, u28, u29, u30, u31, u32, u33, u34, u35, u36, u37, u38, u39, u40, u41, u42, u43, u44, u45, u46, u47, u48, u49, u50, rfl, rfl⟩
  simp only [List.drop_succ_cons, List.drop_zero]
  clear HP4
  refine wpList_cut 13 (fun a' w' => ∃ u5 u6 u7 u8 u9 u10 u11 u12 u13 u14 u15 u16 u17 u18 u19 u20 u21 u22 u23 u24 u25 u26 u27 u28 u29 u30 u31 u32 u33 u34 u35 u36 u37 u38 u39 u40 u41 u42 u43 u44 u45 u46 u47 u48 u49 u50 u51 u52 u53 u54 u55 u56 u57 u58 u59 u60 u61 u62 u63 : Value, a' = ⟨#[.pointer (some ⟨b, i, none⟩), .int .i64 o, undef, undef, .bool false, u5, u6, u7, u8, u9, u10, u11, u12, u13, u14, u15, u16, u17, u18, u19, u20, u21, u22, u23, u24, u25, u26, u27, u28, u29, u30, u31, u32, u33, u34, u35, u36, u37, u38, u39, u40, u41, u42, u43, u44, u45, u46, u47, u48, u49, u50, u51, u52, u53, u54, u55, u56, u57, u58, u59, u60, u61, u62, u63, .bool p5, undef, undef, undef, undef, undef, undef, undef, undef, undef, undef, undef, undef], []⟩ ∧ w = w') ?_ ?_
  · intro B hB
    simp only [List.take_succ_cons, List.take_zero, List.cons_append, List.nil_append]
    cases p4 <;> cases v5 <;> cases u5
    all_goals
      have hp := HP5.out
      subst hp
      go_wp2_with fail
      repeat ((first | (with_reducible refine HA.out.mono ?_; rintro e' w2 ⟨rfl, rfl⟩) | (with_reducible refine HB.out.mono ?_; rintro e' w2 ⟨rfl, rfl⟩) | (with_reducible refine HH1.out.mono ?_; rintro e' w2 ⟨rfl, rfl⟩) | (with_reducible refine HH2.out.mono ?_; rintro e' w2 ⟨rfl, rfl⟩) | (with_reducible refine HH4.out.mono ?_; rintro e' w2 ⟨rfl, rfl⟩) | (with_reducible refine HH8.out.mono ?_; rintro e' w2 ⟨rfl, rfl⟩) | (with_reducible refine HH16.out.mono ?_; rintro e' w2 ⟨rfl, rfl⟩) | (with_reducible refine HH32.out.mono ?_; rintro e' w2 ⟨rfl, rfl⟩)); go_wp2_with fail)
      refine hB.out _ _ ?_
      repeat' apply Exists.intro
      exact ⟨rfl, rfl⟩
  rintro a' w' ⟨u5, u6, u7, u8, u9, u10, u11, u12, u13, u14, u15, u16, u17, u18, u19, u20, u21, u22, u23, u24, u25, u26, u27, u28, u29, u30, u31, u32, u33, u34, u35, u36, u37, u38, u39, u40, u41, u42, u43, u44, u45, u46, u47, u48, u49, u50, u51, u52, u53, u54, u55, u56, u57, u58, u59, u60, u61, u62, u63, rfl, rfl⟩
  simp only [List.drop_succ_cons, List.drop_zero]
  clear HP5
  cases p5 <;> cases v6 <;> cases u6
  all_goals
    have hp := HP6.out
    subst hp
    go_wp2_with fail
    repeat ((first | (with_reducible refine HA.out.mono ?_; rintro e' w2 ⟨rfl, rfl⟩) | (with_reducible refine HB.out.mono ?_; rintro e' w2 ⟨rfl, rfl⟩) | (with_reducible refine HH1.out.mono ?_; rintro e' w2 ⟨rfl, rfl⟩) | (with_reducible refine HH2.out.mono ?_; rintro e' w2 ⟨rfl, rfl⟩) | (with_reducible refine HH4.out.mono ?_; rintro e' w2 ⟨rfl, rfl⟩) | (with_reducible refine HH8.out.mono ?_; rintro e' w2 ⟨rfl, rfl⟩) | (with_reducible refine HH16.out.mono ?_; rintro e' w2 ⟨rfl, rfl⟩) | (with_reducible refine HH32.out.mono ?_; rintro e' w2 ⟨rfl, rfl⟩)); go_wp2_with fail)
    go_ret
    exact ⟨rfl, rfl⟩
end Go.Proofs.YtnelpgeiioflmaaGreatDoor.A
namespace Go.Proofs.YtnelpgeiioflmaaGreatDoor.A
open Go.RowKit
open L (Str isName prt size_len below_2 below_box ret_bool ret_int eql_eq bytes_eq)

set_option maxHeartbeats 2000000 in
set_option maxRecDepth 100000 in
theorem ovalidExpr_wide (e : Ex) (a : Option Addr) (c : Nat) (hok : okE e) (hsz : 1 + cE e ≤ 1000000) (w : World) (hK : Kids w a e.args) :
    Calls Tryz.prog 116 #[exV e a c] w fun e' w' => e' = .returned (.int .i64 (vE e 1)) ∧ Below w.heap.size w w' := by
  have hw := below_box w (exO e a c)
  have hat := exAt_box (c := c) hK
  have HA := Lib.hid hat
  have HW := Lib.hid hw
  have hz : (w.alloc (exO e a c)).heap.size = w.heap.size + 1 := by simp
  have HR := Lib.hid (run_E e 1 0)
  have hst : StepA ⟨w.heap.size + 1, 0, none⟩ gE (w.alloc (exO e a c)) (fun z w' => Cell1 (w.heap.size + 1) (.int .i64 z) w') := stepE (by omega)
  have HC := Lib.hid (fun w2 h1 h2 => owalkExprA_any hst e 1 w.heap.size 0 0 w2 hok (by omega) hat h1 h2)
  rw [HR.out] at HC
  generalize vE e 1 = x at HC ⊢
  unfold exV
  unfold exO at *
  simp only [show ((1 : Nat) : Int) = 1 from rfl] at HC
  have HZ := Lib.hid hz
  clear hw hat hst hz
  go_enter Tryz.func116, Tryz.ntmps116
  go_wp2_with fail
  refine (HC.out _ (cell1_at HZ.out) (below_box _ _)).mono ?_; rintro e' w2 ⟨rfl, hI2, hb2⟩
  obtain ⟨j1, j2, j3⟩ := hI2
  have HB := Lib.hid (below_b HW.out (below_box _ _) hb2)
  clear hb2
  go_wp2_with fail
  go_ret
  exact ⟨rfl, HB.out⟩
theorem st_bad {s : St} {d : Nat} (h : badS s = true ∨ badM s = true) : stE s d = 1 := by
  unfold stE
  rcases h with h | h
  · rw [if_pos h]
  · rw [h]; split <;> rfl
theorem st_name {s : St} {d : Nat} (h1 : badS s = false) (h2 : badM s = false) (h : uN s.op = true) (h3 : nam s.name = false) : stE s d = 7 := by
  unfold stE
  rw [h1, h2, h, h3]; rfl
def restE (s : St) (d : Nat) : Int := if (uA s.op && !decide (vE s.a 1 = 0)) = true then vE s.a 1 else if (uB s.op && !decide (vE s.b 1 = 0)) = true then vE s.b 1 else if 12 < d then 2 else 0
theorem st_rest {s : St} {d : Nat} (h1 : badS s = false) (h2 : badM s = false) (h : uN s.op = false ∨ nam s.name = true) : stE s d = restE s d := by
  unfold stE restE
  rw [h1, h2]
  rcases h with h | h
  · rw [h]; rfl
  · rw [h]; simp
set_option maxHeartbeats 8000000 in
set_option maxRecDepth 100000 in
theorem ostmtError_any (s : St) (b i d : Nat) (hd : d ≤ 1000000) (hok : okS s) (hsz : cS s ≤ 1000000) (w : World) (h : StAt w s b i) :
    Calls Tryz.prog 99 #[.pointer (some ⟨b, i, none⟩), .int .i64 (d : Int)] w fun e' w' => e' = .returned (.int .i64 (stE s d)) ∧ Below w.heap.size w w' := by
  have ho := okS_open hok
  have hsp := cS_parts s
  obtain ⟨a1, c1, a2, c2, a3, c3, a4, c4, hcs, hks⟩ := h.open
  have HU := Lib.hid (fun w => oused_any s.op w)
  have HF := Lib.hid (ofills_any s b i a1 c1 a2 c2 a3 c3 a4 c4 ho.bodyLen ho.elsLen w hcs)
  have HM := Lib.hid (omax_any s b i w hcs.k0 hcs.k2)
  have HH1 := Lib.hid (fun w => ohas_any s.op 1 (by omega) w)
  have HH4 := Lib.hid (fun w => ohas_any s.op 4 (by omega) w)
  have HH8 := Lib.hid (fun w => ohas_any s.op 8 (by omega) w)
  have HI : Hid (∀ w, Calls Tryz.prog 96 #[.string s.name] w fun e' w' => e' = .returned (.bool (nam s.name)) ∧ Below w.heap.size w w') := fun w => L.oname_any s.name w
  have HVA := Lib.hid (fun w h => ovalidExpr_wide s.a a1 c1 ho.a (by omega) w h)
  have HVB := Lib.hid (fun w h => ovalidExpr_wide s.b a2 c2 ho.b (by omega) w h)
  have HC := Lib.hid hcs
  have HK := Lib.hid hks
  have hfb := fill_bad s
  obtain ⟨hu1, hu4, hu8, _, _, _, _⟩ := used_bits s.op
  rw [hu1] at HH1
  rw [hu4] at HH4
  rw [hu8] at HH8
  have X1 := Lib.hid (@st_bad s d)
  have X2 := Lib.hid (@st_name s d)
  have X3 := Lib.hid (@st_rest s d)
  have hR : restE s d = _ := rfl
  unfold restE at hR
  rw [show restE s d = (if (uA s.op && !decide (vE s.a 1 = 0)) = true then vE s.a 1 else if (uB s.op && !decide (vE s.b 1 = 0)) = true then vE s.b 1 else if 12 < d then 2 else 0) from rfl] at X3
  clear hR
  have k0 := hcs.k0
  have k1 := hcs.k1
  generalize badS s = BS at X1 X2 X3 hfb
  generalize badM s = BM at X1 X2 X3 HM
  generalize fillB s = FB at HF hfb
  generalize uN s.op = UN at X2 X3 HH1
  generalize uA s.op = UA at X3 HH4
  generalize uB s.op = UB at X3 HH8
  generalize nam s.name = NM at X2 X3 HI
  generalize vE s.a 1 = va at X3 HVA
  generalize vE s.b 1 = vb at X3 HVB
  obtain ⟨z0, hz0⟩ : ∃ z, (usedI s.op == 0) = z := ⟨_, rfl⟩
  rw [hz0] at hfb
  have HFB := Lib.hid hfb
  have HBc := Lib.hid (Below.refl w.heap.size w)
  generalize stE s d = R at X1 X2 X3 ⊢
  generalize usedI s.op = uu at HU HF HH1 HH4 HH8 hz0
  clear ho hsp hok hsz h hcs hks hfb hu1 hu4 hu8
  unfold exV at HVA HVB
  go_enter Tryz.func99, Tryz.ntmps99
  go_wp2_with fail
  refine (HU.out _).mono ?_; rintro e' w1 ⟨rfl, rfl⟩
  cases z0
  case true =>
    have HV : Hid (R = 1) := X1.out (Or.inl (by rw [← HFB.out]; rfl))
    go_wp2_with fail
    go_ret
    exact ⟨ret_int HV.out.symm, HBc.out⟩
  go_wp2_with fail
  refine HF.out.mono ?_; rintro e' w2 ⟨rfl, rfl⟩
  cases FB
  case true =>
    have HV : Hid (R = 1) := X1.out (Or.inl (by rw [← HFB.out]; rfl))
    go_wp2_with fail
    go_ret
    exact ⟨ret_int HV.out.symm, HBc.out⟩
  obtain rfl : BS = false := by rw [← HFB.out]; rfl
  go_wp2_with fail
  refine HM.out.mono ?_; rintro e' w3 ⟨rfl, rfl⟩
  cases BM
  case true =>
    have HV : Hid (R = 1) := X1.out (by simp)
    go_wp2_with fail
    go_ret
    exact ⟨ret_int HV.out.symm, HBc.out⟩
  go_wp2_with fail
  refine (HH1.out _).mono ?_; rintro e' w4 ⟨rfl, rfl⟩
  cases UN
  · have HRA := Lib.hid (X3.out (by trivial) (by trivial) (by simp))
    go_wp2_with fail
    refine (HH4.out _).mono ?_; rintro e' w5 ⟨rfl, rfl⟩
    cases UA
    · have HRB : Hid (R = if (UB && !decide (vb = 0)) = true then vb else if 12 < d then 2 else 0) := by show _ = _; rw [HRA.out]; rfl
      go_wp2_with fail
      refine (HH8.out _).mono ?_; rintro e' w5 ⟨rfl, rfl⟩
      cases UB
      · have HR : Hid (R = if 12 < d then 2 else 0) := by show _ = _; rw [HRB.out]; rfl
        by_cases hd12 : 12 < d
        · have bd : decide (12 < (d : Int)) = true := decide_eq_true (by omega)
          have HV : Hid (R = 2) := by show _ = _; rw [HR.out, if_pos hd12]
          clear hd12
          go_wp2_with fail
          go_ret
          exact ⟨ret_int HV.out.symm, HBc.out⟩
        · have bd : decide (12 < (d : Int)) = false := decide_eq_false (by omega)
          have HV : Hid (R = 0) := by show _ = _; rw [HR.out, if_neg hd12]
          clear hd12
          go_wp2_with fail
          go_ret
          exact ⟨ret_int HV.out.symm, HBc.out⟩
      · obtain ⟨_, _, _, _, _, _, _, m7, m8, m9, m10, _, _⟩ := HC.out.below HBc.out
        go_wp2_with fail
        refine (HVB.out _ (HK.out.below HBc.out).b).mono ?_; rintro e' w6 ⟨rfl, hb⟩
        have HBc := Lib.hid (below_2 HBc.out hb)
        clear hb m7 m8 m9 m10
        by_cases hvb : vb = 0
        · have bb : (vb != 0) = false := by rw [bne_eq_false_iff_eq]; exact hvb
          have HR : Hid (R = if 12 < d then 2 else 0) := by show _ = _; rw [HRB.out, hvb]; rfl
          clear hvb
          by_cases hd12 : 12 < d
          · have bd : decide (12 < (d : Int)) = true := decide_eq_true (by omega)
            have HV : Hid (R = 2) := by show _ = _; rw [HR.out, if_pos hd12]
            clear hd12
            go_wp2_with fail
            go_ret
            exact ⟨ret_int HV.out.symm, HBc.out⟩
          · have bd : decide (12 < (d : Int)) = false := decide_eq_false (by omega)
            have HV : Hid (R = 0) := by show _ = _; rw [HR.out, if_neg hd12]
            clear hd12
            go_wp2_with fail
            go_ret
            exact ⟨ret_int HV.out.symm, HBc.out⟩
        · have bb : (vb != 0) = true := bne_iff_ne.2 hvb
          have HV : Hid (R = vb) := by show _ = _; rw [HRB.out, decide_eq_false hvb]; rfl
          clear hvb
          go_wp2_with fail
          go_ret
          exact ⟨ret_int HV.out.symm, HBc.out⟩
    · obtain ⟨_, _, _, m3, m4, m5, m6, _, _, _, _, _, _⟩ := HC.out.below HBc.out
      go_wp2_with fail
      refine (HVA.out _ (HK.out.below HBc.out).a).mono ?_; rintro e' w6 ⟨rfl, hb⟩
      have HBc := Lib.hid (below_2 HBc.out hb)
      clear hb m3 m4 m5 m6
      by_cases hva : va = 0
      · have ba : (va != 0) = false := by rw [bne_eq_false_iff_eq]; exact hva
        have HRB : Hid (R = if (UB && !decide (vb = 0)) = true then vb else if 12 < d then 2 else 0) := by show _ = _; rw [HRA.out, hva]; rfl
        clear hva
        go_wp2_with fail
        refine (HH8.out _).mono ?_; rintro e' w5 ⟨rfl, rfl⟩
        cases UB
        · have HR : Hid (R = if 12 < d then 2 else 0) := by show _ = _; rw [HRB.out]; rfl
          by_cases hd12 : 12 < d
          · have bd : decide (12 < (d : Int)) = true := decide_eq_true (by omega)
            have HV : Hid (R = 2) := by show _ = _; rw [HR.out, if_pos hd12]
            clear hd12
            go_wp2_with fail
            go_ret
            exact ⟨ret_int HV.out.symm, HBc.out⟩
          · have bd : decide (12 < (d : Int)) = false := decide_eq_false (by omega)
            have HV : Hid (R = 0) := by show _ = _; rw [HR.out, if_neg hd12]
            clear hd12
            go_wp2_with fail
            go_ret
            exact ⟨ret_int HV.out.symm, HBc.out⟩
        · obtain ⟨_, _, _, _, _, _, _, m7, m8, m9, m10, _, _⟩ := HC.out.below HBc.out
          go_wp2_with fail
          refine (HVB.out _ (HK.out.below HBc.out).b).mono ?_; rintro e' w6 ⟨rfl, hb⟩
          have HBc := Lib.hid (below_2 HBc.out hb)
          clear hb m7 m8 m9 m10
          by_cases hvb : vb = 0
          · have bb : (vb != 0) = false := by rw [bne_eq_false_iff_eq]; exact hvb
            have HR : Hid (R = if 12 < d then 2 else 0) := by show _ = _; rw [HRB.out, hvb]; rfl
            clear hvb
            by_cases hd12 : 12 < d
            · have bd : decide (12 < (d : Int)) = true := decide_eq_true (by omega)
              have HV : Hid (R = 2) := by show _ = _; rw [HR.out, if_pos hd12]
              clear hd12
              go_wp2_with fail
              go_ret
              exact ⟨ret_int HV.out.symm, HBc.out⟩
            · have bd : decide (12 < (d : Int)) = false := decide_eq_false (by omega)
              have HV : Hid (R = 0) := by show _ = _; rw [HR.out, if_neg hd12]
              clear hd12
              go_wp2_with fail
              go_ret
              exact ⟨ret_int HV.out.symm, HBc.out⟩
          · have bb : (vb != 0) = true := bne_iff_ne.2 hvb
            have HV : Hid (R = vb) := by show _ = _; rw [HRB.out, decide_eq_false hvb]; rfl
            clear hvb
            go_wp2_with fail
            go_ret
            exact ⟨ret_int HV.out.symm, HBc.out⟩
      · have ba : (va != 0) = true := bne_iff_ne.2 hva
        have HV : Hid (R = va) := by show _ = _; rw [HRA.out, decide_eq_false hva]; rfl
        clear hva
        go_wp2_with fail
        go_ret
        exact ⟨ret_int HV.out.symm, HBc.out⟩
  · go_wp2_with fail
    refine (HI.out _).mono ?_; rintro e' w5 ⟨rfl, hb⟩
    have HBc := Lib.hid (below_2 HBc.out hb)
    clear hb k0 k1
    cases NM
    · have HV : Hid (R = 7) := X2.out (by trivial) (by trivial) (by trivial) (by trivial)
      go_wp2_with fail
      go_ret
      exact ⟨ret_int HV.out.symm, HBc.out⟩
    · have HRA := Lib.hid (X3.out (by trivial) (by trivial) (by simp))
      go_wp2_with fail
      refine (HH4.out _).mono ?_; rintro e' w5 ⟨rfl, rfl⟩
      cases UA
      · have HRB : Hid (R = if (UB && !decide (vb = 0)) = true then vb else if 12 < d then 2 else 0) := by show _ = _; rw [HRA.out]; rfl
        go_wp2_with fail
        refine (HH8.out _).mono ?_; rintro e' w5 ⟨rfl, rfl⟩
        cases UB
        · have HR : Hid (R = if 12 < d then 2 else 0) := by show _ = _; rw [HRB.out]; rfl
          by_cases hd12 : 12 < d
          · have bd : decide (12 < (d : Int)) = true := decide_eq_true (by omega)
            have HV : Hid (R = 2) := by show _ = _; rw [HR.out, if_pos hd12]
            clear hd12
            go_wp2_with fail
            go_ret
            exact ⟨ret_int HV.out.symm, HBc.out⟩
          · have bd : decide (12 < (d : Int)) = false := decide_eq_false (by omega)
            have HV : Hid (R = 0) := by show _ = _; rw [HR.out, if_neg hd12]
            clear hd12
            go_wp2_with fail
            go_ret
            exact ⟨ret_int HV.out.symm, HBc.out⟩
        · obtain ⟨_, _, _, _, _, _, _, m7, m8, m9, m10, _, _⟩ := HC.out.below HBc.out
          go_wp2_with fail
          refine (HVB.out _ (HK.out.below HBc.out).b).mono ?_; rintro e' w6 ⟨rfl, hb⟩
          have HBc := Lib.hid (below_2 HBc.out hb)
          clear hb m7 m8 m9 m10
          by_cases hvb : vb = 0
          · have bb : (vb != 0) = false := by rw [bne_eq_false_iff_eq]; exact hvb
            have HR : Hid (R = if 12 < d then 2 else 0) := by show _ = _; rw [HRB.out, hvb]; rfl
            clear hvb
            by_cases hd12 : 12 < d
            · have bd : decide (12 < (d : Int)) = true := decide_eq_true (by omega)
              have HV : Hid (R = 2) := by show _ = _; rw [HR.out, if_pos hd12]
              clear hd12
              go_wp2_with fail
              go_ret
              exact ⟨ret_int HV.out.symm, HBc.out⟩
            · have bd : decide (12 < (d : Int)) = false := decide_eq_false (by omega)
              have HV : Hid (R = 0) := by show _ = _; rw [HR.out, if_neg hd12]
              clear hd12
              go_wp2_with fail
              go_ret
              exact ⟨ret_int HV.out.symm, HBc.out⟩
          · have bb : (vb != 0) = true := bne_iff_ne.2 hvb
            have HV : Hid (R = vb) := by show _ = _; rw [HRB.out, decide_eq_false hvb]; rfl
            clear hvb
            go_wp2_with fail
            go_ret
            exact ⟨ret_int HV.out.symm, HBc.out⟩
      · obtain ⟨_, _, _, m3, m4, m5, m6, _, _, _, _, _, _⟩ := HC.out.below HBc.out
        go_wp2_with fail
        refine (HVA.out _ (HK.out.below HBc.out).a).mono ?_; rintro e' w6 ⟨rfl, hb⟩
        have HBc := Lib.hid (below_2 HBc.out hb)
        clear hb m3 m4 m5 m6
        by_cases hva : va = 0
        · have ba : (va != 0) = false := by rw [bne_eq_false_iff_eq]; exact hva
          have HRB : Hid (R = if (UB && !decide (vb = 0)) = true then vb else if 12 < d then 2 else 0) := by show _ = _; rw [HRA.out, hva]; rfl
          clear hva
          go_wp2_with fail
          refine (HH8.out _).mono ?_; rintro e' w5 ⟨rfl, rfl⟩
          cases UB
          · have HR : Hid (R = if 12 < d then 2 else 0) := by show _ = _; rw [HRB.out]; rfl
            by_cases hd12 : 12 < d
            · have bd : decide (12 < (d : Int)) = true := decide_eq_true (by omega)
              have HV : Hid (R = 2) := by show _ = _; rw [HR.out, if_pos hd12]
              clear hd12
              go_wp2_with fail
              go_ret
              exact ⟨ret_int HV.out.symm, HBc.out⟩
            · have bd : decide (12 < (d : Int)) = false := decide_eq_false (by omega)
              have HV : Hid (R = 0) := by show _ = _; rw [HR.out, if_neg hd12]
              clear hd12
              go_wp2_with fail
              go_ret
              exact ⟨ret_int HV.out.symm, HBc.out⟩
          · obtain ⟨_, _, _, _, _, _, _, m7, m8, m9, m10, _, _⟩ := HC.out.below HBc.out
            go_wp2_with fail
            refine (HVB.out _ (HK.out.below HBc.out).b).mono ?_; rintro e' w6 ⟨rfl, hb⟩
            have HBc := Lib.hid (below_2 HBc.out hb)
            clear hb m7 m8 m9 m10
            by_cases hvb : vb = 0
            · have bb : (vb != 0) = false := by rw [bne_eq_false_iff_eq]; exact hvb
              have HR : Hid (R = if 12 < d then 2 else 0) := by show _ = _; rw [HRB.out, hvb]; rfl
              clear hvb
              by_cases hd12 : 12 < d
              · have bd : decide (12 < (d : Int)) = true := decide_eq_true (by omega)
                have HV : Hid (R = 2) := by show _ = _; rw [HR.out, if_pos hd12]
                clear hd12
                go_wp2_with fail
                go_ret
                exact ⟨ret_int HV.out.symm, HBc.out⟩
              · have bd : decide (12 < (d : Int)) = false := decide_eq_false (by omega)
                have HV : Hid (R = 0) := by show _ = _; rw [HR.out, if_neg hd12]
                clear hd12
                go_wp2_with fail
                go_ret
                exact ⟨ret_int HV.out.symm, HBc.out⟩
            · have bb : (vb != 0) = true := bne_iff_ne.2 hvb
              have HV : Hid (R = vb) := by show _ = _; rw [HRB.out, decide_eq_false hvb]; rfl
              clear hvb
              go_wp2_with fail
              go_ret
              exact ⟨ret_int HV.out.symm, HBc.out⟩
        · have ba : (va != 0) = true := bne_iff_ne.2 hva
          have HV : Hid (R = va) := by show _ = _; rw [HRA.out, decide_eq_false hva]; rfl
          clear hva
          go_wp2_with fail
          go_ret
          exact ⟨ret_int HV.out.symm, HBc.out⟩
end Go.Proofs.YtnelpgeiioflmaaGreatDoor.A
namespace Go.Proofs.YtnelpgeiioflmaaGreatDoor.A
open Go.RowKit
open L (Str isName prt size_len below_2 below_box ret_bool ret_int eql_eq bytes_eq isName_any)

set_option maxHeartbeats 8000000 in
set_option maxRecDepth 100000 in
theorem rparams_any (l : List Pm) (a : Option Addr) (c : Nat) (hl : l.length ≤ 1000000000000000) (hns : ∀ j (h : j < l.length), l[j].name.size ≤ 1000000000000000) (w : World) (hK : PmsAt w a l) :
    Calls Tryz.prog 65 #[.slice a l.length c] w fun e' w' => e' = .returned (.int .i64 (parE l)) ∧ Below w.heap.size w w' := by
  have HK := Lib.hid hK
  have HNS := Lib.hid hns
  have hpe : parE l = if 6 < l.length then 2 else parF [] l := rfl
  obtain ⟨R, hR⟩ : ∃ R, parE l = R := ⟨_, rfl⟩
  rw [hR] at hpe ⊢
  have HP : Hid (l.length ≤ 6 → parF ((l.take 0).map Pm.name) (l.drop 0) = R) := fun h => by rw [hpe, if_neg (by omega)]; rfl
  have HP2 : Hid (6 < l.length → R = 2) := fun h => by rw [hpe, if_pos h]
  obtain ⟨m, hm⟩ : ∃ m, l.length = m := ⟨_, rfl⟩
  have HL := Lib.hid hm
  rw [hm] at hl HP HP2 ⊢
  clear hm hR hK hpe hns
  by_cases h6 : 6 < m
  · have HV : Hid (R = 2) := HP2.out h6
    have b6 : decide (6 < (m : Int)) = true := decide_eq_true (by omega)
    clear h6
    go_enter Tryz.func65, Tryz.ntmps65
    go_wp2_with fail
    go_ret
    exact ⟨ret_int HV.out.symm, Below.refl _ _⟩
  · have HR := Lib.hid (HP.out (by omega))
    have b6 : decide (6 < (m : Int)) = false := decide_eq_false (by omega)
    clear HP HP2
    go_enter Tryz.func65, Tryz.ntmps65
    go_wp2_with fail
    go_loopw [3] (fun s3 wr => ∃ k : Nat, k ≤ m ∧ s3 = .int .i64 k ∧ Hid (parF ((l.take k).map Pm.name) (l.drop k) = R) ∧ Hid (Below w.heap.size w wr)) (fun s3 _ => m - (intOf s3).toNat)
    case atStart => exact ⟨0, Nat.zero_le _, rfl, HR, Below.refl _ _⟩
    case round =>
      obtain ⟨k, hk, rfl, HX, HB⟩ := hrel
      by_cases hlt : k < m
      · have hlx : k < l.length := by rw [HL.out]; exact hlt
        have hx := HX.out
        rw [parF_drop hlx] at hx
        obtain ⟨b3, i3, rfl, hcc⟩ := (HK.out.below HB.out).open hlx
        obtain ⟨f0, f1⟩ := hcc k hlx
        have HCC : Hid (∀ j (h : j < l.length), wr.cell? ⟨b3, i3 + j * 2, none⟩ = some (.string l[j].name)) := fun j h => (hcc j h).1
        have HI : Hid (∀ w, Calls Tryz.prog 49 #[.string l[k].name] w fun e' w' => e' = .returned (.bool (nam l[k].name)) ∧ Below w.heap.size w w') := fun w => isName_any l[k].name (by have := HNS.out k hlx; omega) w
        have HG0 := Lib.hid f0
        have HG1 := Lib.hid f1
        have hy : ∀ j, j < k → ∀ h : j < l.length, l[j].name = l[k].name → (l.take k).any (fun q => decide (q.name = l[k].name)) = true := by
          intro j hj h hh
          rw [List.any_eq_true]
          refine ⟨l[j], ?_, decide_eq_true hh⟩
          rw [List.mem_take_iff_getElem]
          exact ⟨j, by omega, rfl⟩
        have hn : (∀ j, j < k → ∀ h : j < l.length, ¬ l[j].name = l[k].name) → (l.take k).any (fun q => decide (q.name = l[k].name)) = false := by
          intro hh
          rw [List.any_eq_false]
          intro q hq
          obtain ⟨j, hj, rfl⟩ := List.mem_take_iff_getElem.1 hq
          rw [decide_eq_true_eq]
          exact hh j (by omega) (by omega)
        have HY := Lib.hid hy
        have HN := Lib.hid hn
        clear hy hn
        generalize (l.take k).any (fun q => decide (q.name = l[k].name)) = y at HY HN hx
        obtain ⟨q, hq⟩ : ∃ q, l[k] = q := ⟨_, rfl⟩
        rw [hq] at f0 f1 HI HG0 HG1 HY HN hx
        clear hcc hq
        obtain ⟨nm, hnm⟩ : ∃ v, nam q.name = v := ⟨_, rfl⟩
        rw [hnm] at HI hx
        clear hnm
        cases nm
        · have HV : Hid (R = 7) := by show _ = _; rw [← hx, if_pos rfl]
          clear hx f1
          go_wp2_with fail
          refine (HI.out _).mono ?_; rintro e w2 ⟨rfl, hb2⟩
          have HB2 := Lib.hid (below_2 HB.out hb2)
          clear hb2
          go_wp2_with fail
          go_ret
          exact ⟨ret_int HV.out.symm, HB2.out⟩
        · rw [if_neg (by decide)] at hx
          clear f1
          go_wp2_with fail
          refine (HI.out _).mono ?_; rintro e w2 ⟨rfl, hb2⟩
          have HB2 := Lib.hid (below_2 HB.out hb2)
          have g0 := (hb2.cell (block_lt_of_cell HG0.out)).trans HG0.out
          have g1 := (hb2.cell (block_lt_of_cell HG1.out)).trans HG1.out
          have HC2 : Hid (∀ j (h : j < l.length), w2.cell? ⟨b3, i3 + j * 2, none⟩ = some (.string l[j].name)) := fun j h => (hb2.cell (block_lt_of_cell (HCC.out j h))).trans (HCC.out j h)
          clear hb2 f0
          by_cases hty : q.ty < 1 ∨ 3 < q.ty
          · have HV : Hid (R = 10) := by show _ = _; rw [← hx, if_pos hty]
            clear hx g0
            obtain ⟨t1, ht1⟩ : ∃ v, decide (q.ty < 1) = v := ⟨_, rfl⟩
            cases t1
            · have t3 : decide (3 < q.ty) = true := decide_eq_true (by have := of_decide_eq_false ht1; omega)
              clear hty
              go_wp2_with fail
              go_ret
              exact ⟨ret_int HV.out.symm, HB2.out⟩
            · clear hty
              go_wp2_with fail
              go_ret
              exact ⟨ret_int HV.out.symm, HB2.out⟩
          · rw [if_neg hty] at hx
            have t1 : decide (q.ty < 1) = false := decide_eq_false (by omega)
            have t3 : decide (3 < q.ty) = false := decide_eq_false (by omega)
            have HXX := Lib.hid hx
            have HGG := Lib.hid g0
            clear hty hx g0
            go_wp2_with fail
            go_loopw [4] (fun s4 w3 => ∃ j : Nat, j ≤ k ∧ s4 = .int .i64 j ∧ Hid (∀ i, i < j → ∀ h : i < l.length, ¬ l[i].name = q.name) ∧ Hid (Below w2.heap.size w2 w3)) (fun s4 _ => k - (intOf s4).toNat)
            case atStart => exact ⟨0, Nat.zero_le _, rfl, fun i h => absurd h (Nat.not_lt_zero _), Below.refl _ _⟩
            case round =>
              obtain ⟨j, hj, rfl, HJ, HB3⟩ := hrel
              have HBB := Lib.hid (below_2 HB2.out HB3.out)
              by_cases hjk : j < k
              · have hjl : j < l.length := by omega
                have e0 := (HB3.out.cell (block_lt_of_cell (HC2.out j hjl))).trans (HC2.out j hjl)
                have g0 := (HB3.out.cell (block_lt_of_cell HGG.out)).trans HGG.out
                have HYY := Lib.hid (HY.out j hjk hjl)
                have HJN : Hid (¬ l[j].name = q.name → ∀ i, i < j + 1 → ∀ h : i < l.length, ¬ l[i].name = q.name) := by
                  intro hne i hi h
                  by_cases hij : i = j
                  · subst hij; exact hne
                  · exact HJ.out i (by omega) h
                generalize l[j] = r at e0 HYY HJN
                clear g1
                by_cases hsm : r.name = q.name
                · have hb := eql_yes hsm
                  have HV : Hid (R = 8) := by show _ = _; rw [← HXX.out, if_pos (HYY.out hsm)]
                  clear hsm
                  go_wp2_with fail
                  go_quiet (fail)
                  go_wp2_with fail
                  go_ret
                  exact ⟨ret_int HV.out.symm, below_2 HBB.out (below_dn _ _)⟩
                · have hb := eql_no hsm
                  have HV := Lib.hid (HJN.out hsm)
                  clear hsm
                  go_wp2_with fail
                  go_quiet (fail)
                  go_wp2_with fail
                  go_roundw
                  case rel => exact ⟨j + 1, by omega, by go_num, HV.out, below_2 HB3.out (below_dn _ _)⟩
                  case measure => simp [intOf]; omega
              · have hy0 := HN.out (fun i hi h => HJ.out i (by omega) h)
                have hx := HXX.out
                rw [if_neg (by rw [hy0]; decide)] at hx
                have HNX := Lib.hid hx
                clear hx g1
                go_wp2_with fail
                go_roundw
                case rel => exact ⟨k + 1, by omega, by go_num, HNX, HBB⟩
                case measure => simp [intOf]; omega
      · have HV : Hid (R = 0) := by
          show _ = _
          rw [← HX.out, List.drop_of_length_le (by rw [HL.out]; omega), parF]
        go_wp2_with fail
        go_ret
        exact ⟨ret_int HV.out.symm, HB.out⟩
end Go.Proofs.YtnelpgeiioflmaaGreatDoor.A
