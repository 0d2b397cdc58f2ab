/-
  What the reference of layer 8 returns: uses, swap: contracts.
  What the reference of layer 8 returns: Occurs: a contract.
  What the program's functions of layer 8 return: paramsError and what it calls: contracts.
  What the program's functions of layer 8 return: fillsOthers, stmtError: contracts.
-/
import Derived.Test.YtkjefigebdbkaaaDoorN08
import Derived.Test.YtkjefigebdbkaaaDoorN09
import Derived.Test.YtkjefigebdbkaaaDoorN06
import Derived.Test.YtkjefigebdbkaaaDoorN07
import Derived.Deep.Cut
namespace Go.Proofs.YtkjefigebdbkaaaDoor.A
open Go.RowKit
open L (Str isName prt size_len below_2 below_box ret_bool ret_int eql_eq bytes_eq)

theorem results_tmp6 {fn : Func} {t1 t2 t3 t4 t5 t6 : Tmp} (h : fn.results = #[.tmp t1, .tmp t2, .tmp t3, .tmp t4, .tmp t5, .tmp t6]) (tmps : Array Value) (P : Program) (w : World) :
    (results fn tmps).run P w = .ok (.tuple #[tmps.getD t1 undef, tmps.getD t2 undef, tmps.getD t3 undef, tmps.getD t4 undef, tmps.getD t5 undef, tmps.getD t6 undef]) w := by
  simp [results, h]
/-- which fields a statement uses, as six Booleans -/
def usesV (o : Int) : Value := .tuple #[.bool (uN o), .bool (uM o), .bool (uA o), .bool (uB o), .bool (uD o), .bool (uE o)]
set_option maxHeartbeats 2000000 in
set_option maxRecDepth 100000 in
theorem ruses_any (op : Int) (w : World) : Calls Tryd.prog 125 #[.int .i64 op] w fun e w' => e = .returned (usesV op) ∧ w' = w := by
  by_cases h1 : op = 1
  · subst h1
    go_enter Tryd.func125, Tryd.ntmps125
    go_wp2_with fail
    (try simp only [Exit.inBlock, Exit.then])
    refine bodyPost_ret (results_tmp6 rfl _ _ _) rfl ?_
    exact ⟨rfl, rfl⟩
  by_cases h2 : op = 2
  · subst h2
    go_enter Tryd.func125, Tryd.ntmps125
    go_wp2_with fail
    (try simp only [Exit.inBlock, Exit.then])
    refine bodyPost_ret (results_tmp6 rfl _ _ _) rfl ?_
    exact ⟨rfl, rfl⟩
  by_cases h3 : op = 3
  · subst h3
    go_enter Tryd.func125, Tryd.ntmps125
    go_wp2_with fail
    (try simp only [Exit.inBlock, Exit.then])
    refine bodyPost_ret (results_tmp6 rfl _ _ _) rfl ?_
    exact ⟨rfl, rfl⟩
  by_cases h4 : op = 4
  · subst h4
    go_enter Tryd.func125, Tryd.ntmps125
    go_wp2_with fail
    (try simp only [Exit.inBlock, Exit.then])
    refine bodyPost_ret (results_tmp6 rfl _ _ _) rfl ?_
    exact ⟨rfl, rfl⟩
  by_cases h5 : op = 5
  · subst h5
    go_enter Tryd.func125, Tryd.ntmps125
    go_wp2_with fail
    (try simp only [Exit.inBlock, Exit.then])
    refine bodyPost_ret (results_tmp6 rfl _ _ _) rfl ?_
    exact ⟨rfl, rfl⟩
  by_cases h6 : op = 6
  · subst h6
    go_enter Tryd.func125, Tryd.ntmps125
    go_wp2_with fail
    (try simp only [Exit.inBlock, Exit.then])
    refine bodyPost_ret (results_tmp6 rfl _ _ _) rfl ?_
    exact ⟨rfl, rfl⟩
  by_cases h7 : op = 7
  · subst h7
    go_enter Tryd.func125, Tryd.ntmps125
    go_wp2_with fail
    (try simp only [Exit.inBlock, Exit.then])
    refine bodyPost_ret (results_tmp6 rfl _ _ _) rfl ?_
    exact ⟨rfl, rfl⟩
  have b1 : (op == 1) = false := beq_eq_false_iff_ne.2 h1
  have b2 : (op == 2) = false := beq_eq_false_iff_ne.2 h2
  have b3 : (op == 3) = false := beq_eq_false_iff_ne.2 h3
  have b4 : (op == 4) = false := beq_eq_false_iff_ne.2 h4
  have b5 : (op == 5) = false := beq_eq_false_iff_ne.2 h5
  have b6 : (op == 6) = false := beq_eq_false_iff_ne.2 h6
  have b7 : (op == 7) = false := beq_eq_false_iff_ne.2 h7
  have HV : Hid (usesV op = .tuple #[.bool false, .bool true, .bool false, .bool false, .bool false, .bool false]) := by
    show _ = _
    unfold usesV uN uM uA uB uD uE
    simp [h1, h2, h3, h4, h5, h6, h7]
  rw [HV.out]
  clear h1 h2 h3 h4 h5 h6 h7
  go_enter Tryd.func125, Tryd.ntmps125
  go_wp2_with fail
  (try simp only [Exit.inBlock, Exit.then])
  refine bodyPost_ret (results_tmp6 rfl _ _ _) rfl ?_
  exact ⟨rfl, rfl⟩
end Go.Proofs.YtkjefigebdbkaaaDoor.A
namespace Go.Proofs.YtkjefigebdbkaaaDoor.A
open Go.RowKit
open L (Str isName prt size_len below_2 below_box ret_bool ret_int eql_eq bytes_eq)

theorem eql_yes {a b : ByteArray} (h : a = b) : (a.toList == b.toList) = true := by rw [eql_eq]; exact decide_eq_true (by rw [h])
theorem eql_no {a b : ByteArray} (h : ¬ a = b) : (a.toList == b.toList) = false := by rw [eql_eq]; exact decide_eq_false (fun h2 => h (bytes_eq h2))
end Go.Proofs.YtkjefigebdbkaaaDoor.A
namespace Go.Proofs.YtkjefigebdbkaaaDoor.A
open Go.RowKit
open L (Str isName prt size_len below_2 below_box ret_bool ret_int eql_eq bytes_eq)

def pmV (q : Pm) : Value := .agg #[.string q.name, .int .i64 q.ty]
set_option maxHeartbeats 2000000 in
set_option maxRecDepth 100000 in
theorem osameName_any (q : Pm) (N : Nat) (x : ByteArray) (w : World) (h : w.cell? ⟨N, 0, none⟩ = some (.string x)) :
    Calls Tryd.prog 102 #[pmV q, .pointer (some ⟨N, 0, none⟩)] w fun e' w' => e' = .returned (.bool (decide (q.name = x))) ∧ Below w.heap.size w w' := by
  have hw := below_box w (.cells #[.string q.name, .int .i64 q.ty] 51)
  have h2 := (hw.cell (block_lt_of_cell h)).trans h
  have HW := Lib.hid hw
  have hb := bytes_dec q.name x
  obtain ⟨v, hv⟩ : ∃ v, decide (q.name = x) = v := ⟨_, rfl⟩
  rw [hv] at hb ⊢
  unfold pmV
  clear hw hv
  go_enter Tryd.func102, Tryd.ntmps102
  go_wp2_with fail
  go_ret
  exact ⟨rfl, HW.out⟩
/-- the first parameter with this name -/
def idxP (x : ByteArray) : List Pm → Nat → Int
  | [], _ => -1
  | q :: r, k => if decide (q.name = x) = true then (k : Int) else idxP x r (k + 1)
theorem idxP_any (x : ByteArray) : ∀ (l : List Pm) (k : Nat), decide (0 ≤ idxP x l k) = l.any (fun q => decide (q.name = x))
  | [], k => rfl
  | q :: r, k => by
    rw [idxP, List.any_cons]
    cases h : decide (q.name = x)
    · rw [if_neg (by decide), Bool.false_or]; exact idxP_any x r (k + 1)
    · rw [if_pos rfl, Bool.true_or]; exact decide_eq_true (by omega)
set_option maxHeartbeats 4000000 in
set_option maxRecDepth 100000 in
theorem oindexFunc_any (l : List Pm) (a : Option Addr) (c N : Nat) (x : ByteArray) (hl : l.length ≤ 1000000000000000) (w : World) (hK : PmsAt w a l) (h : w.cell? ⟨N, 0, none⟩ = some (.string x)) :
    Calls Tryd.prog 85 #[.slice a l.length c, .func (Fn.func 102) #[] #[.pointer (some ⟨N, 0, none⟩)]] w fun e' w' => e' = .returned (.int .i64 (idxP x l 0)) ∧ Below w.heap.size w w' := by
  have HK := Lib.hid hK
  have HX := Lib.hid h
  have hlt0 := block_lt_of_cell h
  obtain ⟨R, hR⟩ : ∃ R, idxP x l 0 = R := ⟨_, rfl⟩
  rw [hR]
  have HR : Hid (idxP x (l.drop 0) 0 = R) := hR
  obtain ⟨m, hm⟩ : ∃ m, l.length = m := ⟨_, rfl⟩
  have HL := Lib.hid hm
  rw [hm] at hl ⊢
  clear hm hR hK h
  go_enter Tryd.func85, Tryd.ntmps85
  go_wp2_with fail
  go_loopw [8] (fun s8 wr => ∃ k : Nat, k ≤ m ∧ s8 = .int .i64 k ∧ Hid (idxP x (l.drop k) k = R) ∧ Hid (Below w.heap.size w wr)) (fun s8 _ => m - (intOf s8).toNat)
  case atStart => exact ⟨0, Nat.zero_le _, rfl, HR, Below.refl _ _⟩
  case round =>
    obtain ⟨k, hk, rfl, HX2, HB⟩ := hrel
    by_cases hlt : k < m
    · have hlx : k < l.length := by rw [HL.out]; exact hlt
      have hx := HX2.out
      rw [List.drop_eq_getElem_cons hlx, idxP] at hx
      obtain ⟨b3, i3, rfl, hc⟩ := (HK.out.below HB.out).open hlx
      obtain ⟨f0, f1⟩ := hc k hlx
      have HC := Lib.hid (osameName_any l[k] N x wr ((HB.out.cell hlt0).trans HX.out))
      generalize l[k] = q at f0 f1 HC hx
      generalize decide (q.name = x) = y at HC hx
      unfold pmV at HC
      clear hc
      cases y
      · rw [if_neg (by decide)] at hx
        have HN := Lib.hid hx
        clear hx
        go_wp2_with fail
        refine HC.out.mono ?_; rintro e w2 ⟨rfl, hb2⟩
        have HB2 := Lib.hid (below_2 HB.out hb2)
        clear hb2
        go_wp2_with fail
        go_roundw
        case rel => exact ⟨k + 1, by omega, by go_num, HN, HB2⟩
        case measure => simp [intOf]; omega
      · rw [if_pos rfl] at hx
        have HV := Lib.hid hx
        clear hx
        go_wp2_with fail
        refine HC.out.mono ?_; rintro e w2 ⟨rfl, hb2⟩
        have HB2 := Lib.hid (below_2 HB.out hb2)
        clear hb2
        go_wp2_with fail
        go_ret
        exact ⟨ret_int HV.out, HB2.out⟩
    · have HV : Hid (-1 = R) := by
        show _ = _
        rw [← HX2.out, List.drop_of_length_le (by rw [HL.out]; omega), idxP]
      go_wp2_with fail
      go_ret
      exact ⟨ret_int HV.out, HB.out⟩
set_option maxHeartbeats 2000000 in
set_option maxRecDepth 100000 in
theorem ocontainsFunc_any (l : List Pm) (a : Option Addr) (c N : Nat) (x : ByteArray) (hl : l.length ≤ 1000000000000000) (w : World) (hK : PmsAt w a l) (h : w.cell? ⟨N, 0, none⟩ = some (.string x)) :
    Calls Tryd.prog 50 #[.slice a l.length c, .func (Fn.func 102) #[] #[.pointer (some ⟨N, 0, none⟩)]] w fun e' w' => e' = .returned (.bool (l.any (fun q => decide (q.name = x)))) ∧ Below w.heap.size w w' := by
  have HC := Lib.hid (oindexFunc_any l a c N x hl w hK h)
  have hv := idxP_any x l 0
  generalize idxP x l 0 = r at HC hv
  generalize l.any (fun q => decide (q.name = x)) = y at hv ⊢
  generalize l.length = m at HC ⊢
  clear hl hK h
  go_enter Tryd.func50, Tryd.ntmps50
  go_wp2_with fail
  refine HC.out.mono ?_; rintro e w2 ⟨rfl, hb2⟩
  have HB2 := Lib.hid hb2
  clear hb2
  go_wp2_with fail
  go_ret
  exact ⟨rfl, HB2.out⟩
theorem parF_drop {l : List Pm} {k : Nat} (h : k < l.length) : parF ((l.take k).map Pm.name) (l.drop k) = if nam l[k].name = false then 7 else if l[k].ty < 1 ∨ 3 < l[k].ty then 10 else if (l.take k).any (fun q => decide (q.name = l[k].name)) = true then 8 else parF ((l.take (k + 1)).map Pm.name) (l.drop (k + 1)) := by
  rw [List.drop_eq_getElem_cons h, parF, List.any_map, List.take_succ_eq_append_getElem h, List.map_append]
  rfl
theorem PmsAt.take {w : World} {a : Option Addr} {l : List Pm} (h : PmsAt w a l) (k : Nat) : PmsAt w a (l.take k) := by
  rcases h with h | ⟨b, i, ha, h⟩
  · left; rw [h]; simp
  · right
    refine ⟨b, i, ha, fun j hj => ?_⟩
    have hj2 : j < l.length := by rw [List.length_take] at hj; omega
    rw [List.getElem_take]
    exact h j hj2
set_option maxHeartbeats 8000000 in
set_option maxRecDepth 100000 in
theorem oparamsError_any (l : List Pm) (a : Option Addr) (c : Nat) (hl : l.length ≤ 1000000000000000) (w : World) (hc : l.length ≤ c) (hK : PmsAt w a l) :
    Calls Tryd.prog 64 #[.slice a l.length c] w fun e' w' => e' = .returned (.int .i64 (parE l)) ∧ Below w.heap.size w w' := by
  have HK := Lib.hid hK
  have hpe : parE l = if 6 < l.length then 2 else parF [] l := rfl
  obtain ⟨R, hR⟩ : ∃ R, parE l = R := ⟨_, rfl⟩
  rw [hR] at hpe ⊢
  have HP : Hid (l.length ≤ 6 → parF ((l.take 0).map Pm.name) (l.drop 0) = R) := fun h => by rw [hpe, if_neg (by omega)]; rfl
  have HP2 : Hid (6 < l.length → R = 2) := fun h => by rw [hpe, if_pos h]
  obtain ⟨m, hm⟩ : ∃ m, l.length = m := ⟨_, rfl⟩
  have HL := Lib.hid hm
  rw [hm] at hl hc HP HP2 ⊢
  clear hm hR hK hpe
  by_cases h6 : 6 < m
  · have HV : Hid (R = 2) := HP2.out h6
    have b6 : decide (6 < (m : Int)) = true := decide_eq_true (by omega)
    clear h6
    go_enter Tryd.func64, Tryd.ntmps64
    go_wp2_with fail
    go_ret
    exact ⟨ret_int HV.out.symm, Below.refl _ _⟩
  · have HR := Lib.hid (HP.out (by omega))
    have b6 : decide (6 < (m : Int)) = false := decide_eq_false (by omega)
    clear HP HP2
    go_enter Tryd.func64, Tryd.ntmps64
    go_wp2_with fail
    go_loopw [11] (fun s11 wr => ∃ k : Nat, k ≤ m ∧ s11 = .int .i64 k ∧ Hid (parF ((l.take k).map Pm.name) (l.drop k) = R) ∧ Hid (Below w.heap.size w wr)) (fun s11 _ => m - (intOf s11).toNat)
    case atStart => exact ⟨0, Nat.zero_le _, rfl, HR, Below.refl _ _⟩
    case round =>
      obtain ⟨k, hk, rfl, HX, HB⟩ := hrel
      by_cases hlt : k < m
      · have hlx : k < l.length := by rw [HL.out]; exact hlt
        have hx := HX.out
        rw [parF_drop hlx] at hx
        obtain ⟨b3, i3, rfl, hcc⟩ := (HK.out.below HB.out).open hlx
        obtain ⟨f0, f1⟩ := hcc k hlx
        have hbx := below_box wr (.cells #[.string l[k].name, .int .i64 l[k].ty] 51)
        have HI : Hid (∀ w, Calls Tryd.prog 37 #[.string l[k].name] w fun e' w' => e' = .returned (.bool (nam l[k].name)) ∧ Below w.heap.size w w') := fun w => L.oname_any l[k].name w
        have g0 : (wr.alloc (.cells #[.string l[k].name, .int .i64 l[k].ty] 51)).cell? ⟨wr.heap.size, 0, none⟩ = some (.string l[k].name) := by go_simp
        have g1 : (wr.alloc (.cells #[.string l[k].name, .int .i64 l[k].ty] 51)).cell? ⟨wr.heap.size, 1, none⟩ = some (.int .i64 l[k].ty) := by go_simp
        have hlen : (l.take k).length = k := by rw [List.length_take]; omega
        have HCF := Lib.hid (fun w' (hb : Below w.heap.size w w') (hx : w'.cell? ⟨wr.heap.size, 0, none⟩ = some (.string l[k].name)) => ocontainsFunc_any (l.take k) (some ⟨b3, i3, none⟩) c wr.heap.size l[k].name (by omega) w' ((HK.out.below hb).take k) hx)
        rw [hlen] at HCF
        have HG0 := Lib.hid g0
        have HG1 := Lib.hid g1
        have HBX := Lib.hid (below_2 HB.out hbx)
        generalize (l.take k).any (fun q => decide (q.name = l[k].name)) = y at HCF hx
        generalize l[k] = q at *
        clear hcc hlen hbx
        obtain ⟨nm, hnm⟩ : ∃ v, nam q.name = v := ⟨_, rfl⟩
        rw [hnm] at HI hx
        clear hnm
        cases nm
        · have HV : Hid (R = 7) := by show _ = _; rw [← hx, if_pos rfl]
          clear hx g0 g1
          go_wp2_with fail
          refine (HI.out _).mono ?_; rintro e w2 ⟨rfl, hb2⟩
          have HB2 := Lib.hid (below_2 HBX.out hb2)
          clear hb2
          go_wp2_with fail
          go_ret
          exact ⟨ret_int HV.out.symm, HB2.out⟩
        · rw [if_neg (by decide)] at hx
          clear g0 g1
          go_wp2_with fail
          refine (HI.out _).mono ?_; rintro e w2 ⟨rfl, hb2⟩
          have HB2 := Lib.hid (below_2 HBX.out hb2)
          have g0 := (hb2.cell (block_lt_of_cell HG0.out)).trans HG0.out
          have g1 := (hb2.cell (block_lt_of_cell HG1.out)).trans HG1.out
          clear hb2
          by_cases hty : q.ty < 1 ∨ 3 < q.ty
          · have t1 : (q.ty != 1) = true := bne_iff_ne.2 (by omega)
            have t2 : (q.ty != 2) = true := bne_iff_ne.2 (by omega)
            have t3 : (q.ty != 3) = true := bne_iff_ne.2 (by omega)
            have HV : Hid (R = 10) := by show _ = _; rw [← hx, if_pos hty]
            clear hx hty
            go_wp2_with fail
            go_ret
            exact ⟨ret_int HV.out.symm, HB2.out⟩
          · rw [if_neg hty] at hx
            have hC := HCF.out w2 HB2.out g0
            have HC := Lib.hid hC
            clear hC
            have ht : q.ty = 1 ∨ q.ty = 2 ∨ q.ty = 3 := by omega
            clear hty
            cases y
            · rw [if_neg (by decide)] at hx
              have HN := Lib.hid hx
              clear hx
              rcases ht with ht | ht | ht
              all_goals
                rw [ht] at g1
                clear ht
                go_wp2_with fail
                refine HC.out.mono ?_; rintro e w3 ⟨rfl, hb3⟩
                have HB3 := Lib.hid (below_2 HB2.out hb3)
                clear hb3
                go_wp2_with fail
                go_roundw
                case rel => exact ⟨k + 1, by omega, by go_num, HN, HB3⟩
                case measure => simp [intOf]; omega
            · have HV : Hid (R = 8) := by show _ = _; rw [← hx, if_pos rfl]
              clear hx
              rcases ht with ht | ht | ht
              all_goals
                rw [ht] at g1
                clear ht
                go_wp2_with fail
                refine HC.out.mono ?_; rintro e w3 ⟨rfl, hb3⟩
                have HB3 := Lib.hid (below_2 HB2.out hb3)
                clear hb3
                go_wp2_with fail
                go_ret
                exact ⟨ret_int HV.out.symm, HB3.out⟩
      · have HV : Hid (R = 0) := by
          show _ = _
          rw [← HX.out, List.drop_of_length_le (by rw [HL.out]; omega), parF]
        go_wp2_with fail
        go_ret
        exact ⟨ret_int HV.out.symm, HB.out⟩
end Go.Proofs.YtkjefigebdbkaaaDoor.A
namespace Go.Proofs.YtkjefigebdbkaaaDoor.A
open Go.RowKit
open L (Str isName prt size_len below_2 below_box ret_bool ret_int eql_eq bytes_eq)

/-- the operations that follow a cut -/
def Rest (l : List Oper) (_ _ : Unit) : List Oper := l
/-- a list of operations cut in two: what is known between -/
theorem wpList_cut {P : Program} {ops : Array Oper} {Q : Exit → Act → World → Prop} {a : Act} {w : World} (n : Nat) {l : List Oper} (mid : Act → World → Prop)
    (h1 : ∀ B, Hid (∀ a w, mid a w → wpList P ops Q (Rest B () ()) a w) → wpList P ops Q (l.take n ++ Rest B () ()) a w) (h2 : ∀ a w, mid a w → wpList P ops Q (l.drop n) a w) : wpList P ops Q l a w := by
  rw [← List.take_append_drop n l]
  exact h1 _ h2
theorem used_bits (o : Int) : hasB (usedI o) 1 = uN o ∧ hasB (usedI o) 4 = uA o ∧ hasB (usedI o) 8 = uB o ∧ hasB (usedI o) 16 = uD o ∧ hasB (usedI o) 32 = uE o ∧ (1 ≤ o → o ≤ 8 → hasB (usedI o) 2 = uM o) ∧ ((usedI o == 0) = (decide (o < 1) || decide (8 < o))) := by
  by_cases h : 1 ≤ o ∧ o ≤ 8
  · obtain ⟨h1, h2⟩ := h
    have : o = 1 ∨ o = 2 ∨ o = 3 ∨ o = 4 ∨ o = 5 ∨ o = 6 ∨ o = 7 ∨ o = 8 := by omega
    rcases this with rfl | rfl | rfl | rfl | rfl | rfl | rfl | rfl <;> decide
  · have h1 : ¬ o = 1 := by omega
    have h2 : ¬ o = 2 := by omega
    have h3 : ¬ o = 3 := by omega
    have h4 : ¬ o = 4 := by omega
    have h5 : ¬ o = 5 := by omega
    have h6 : ¬ o = 6 := by omega
    have h7 : ¬ o = 7 := by omega
    have h8 : ¬ o = 8 := by omega
    have hu : usedI o = 0 := by unfold usedI; simp [h1, h2, h3, h4, h5, h6, h7, h8]
    rw [hu]
    refine ⟨?_, ?_, ?_, ?_, ?_, fun a b => absurd ⟨a, b⟩ h, ?_⟩
    · unfold uN; rw [decide_eq_false (by omega)]; decide
    · unfold uA; rw [decide_eq_false (by omega)]; decide
    · unfold uB; rw [decide_eq_false (by omega)]; decide
    · unfold uD; rw [decide_eq_false (by omega)]; decide
    · unfold uE; rw [decide_eq_false (by omega)]; decide
    · rw [← Bool.decide_or, decide_eq_true (by omega)]; rfl
/-- a field that is not used is filled -/
def fillB (s : St) : Bool := (!decide (s.name.size = 0) && !hasB (usedI s.op) 1) || ((s.mx != 0) && !hasB (usedI s.op) 2) || (!absent s.a && !hasB (usedI s.op) 4) || (!absent s.b && !hasB (usedI s.op) 8) || (decide (0 < (s.body.length : Int)) && !hasB (usedI s.op) 16) || (decide (0 < (s.els.length : Int)) && !hasB (usedI s.op) 32)
theorem fill_def (s : St) : fillB s = ((!decide (s.name.size = 0) && !hasB (usedI s.op) 1) || ((s.mx != 0) && !hasB (usedI s.op) 2) || (!absent s.a && !hasB (usedI s.op) 4) || (!absent s.b && !hasB (usedI s.op) 8) || (decide (0 < (s.body.length : Int)) && !hasB (usedI s.op) 16) || (decide (0 < (s.els.length : Int)) && !hasB (usedI s.op) 32)) := rfl
theorem empty_len {α : Type} (l : List α) : (!l.isEmpty) = decide (0 < (l.length : Int)) := by
  cases l with
  | nil => rfl
  | cons x l => rw [decide_eq_true (by simp)]; rfl
theorem fill_bad (s : St) : ((usedI s.op == 0) || fillB s) = badS s := by
  obtain ⟨h1, h4, h8, h16, h32, h2, h0⟩ := used_bits s.op
  unfold fillB badS
  rw [h1, h4, h8, h16, h32, h0, ← empty_len, ← empty_len]
  by_cases h : 1 ≤ s.op ∧ s.op ≤ 8
  · rw [h2 h.1 h.2, decide_eq_false (show ¬ s.op < 1 by omega), decide_eq_false (show ¬ 8 < s.op by omega)]
    rw [show (s.mx != 0) = !decide (s.mx = 0) by simp [bne, Bool.beq_eq_decide_eq]]
    simp only [Bool.false_or]
    simp only [Bool.and_comm]
  · rw [← Bool.decide_or, decide_eq_true (by omega)]
    simp
set_option maxHeartbeats 8000000 in
set_option maxRecDepth 100000 in
theorem ofills_any (s : St) (b i : Nat) (a1 : Option Addr) (c1 : Nat) (a2 : Option Addr) (c2 : Nat) (a3 : Option Addr) (c3 : Nat) (a4 : Option Addr) (c4 : Nat) (hl1 : s.body.length ≤ 1000000000000000) (hl2 : s.els.length ≤ 1000000000000000) (w : World) (h : StCells w s b i a1 c1 a2 c2 a3 c3 a4 c4) :
    Calls Tryd.prog 106 #[.pointer (some ⟨b, i, none⟩), .int .i64 (usedI s.op)] w fun e' w' => e' = .returned (.bool (fillB s)) ∧ w' = w := by
  have HA := Lib.hid (oabsent_any s.a b (i + 3) a1 c1 w h.fourA)
  have HB := Lib.hid (oabsent_any s.b b (i + 7) a2 c2 w h.fourB)
  have HH1 := Lib.hid (ohas_any s.op 1 (by omega) w)
  have HH2 := Lib.hid (ohas_any s.op 2 (by omega) w)
  have HH4 := Lib.hid (ohas_any s.op 4 (by omega) w)
  have HH8 := Lib.hid (ohas_any s.op 8 (by omega) w)
  have HH16 := Lib.hid (ohas_any s.op 16 (by omega) w)
  have HH32 := Lib.hid (ohas_any s.op 32 (by omega) w)
  have k1 := h.k1
  have k2 := h.k2
  have k11 := h.k11
  have k12 := h.k12
  have hV := fill_def s
  have he2 := nil_of (s := s.name)
  have he3 := empty_of (s := s.name)
  obtain ⟨v1, h1⟩ : ∃ v, decide (s.name.size = 0) = v := ⟨_, rfl⟩
  obtain ⟨v2, h2⟩ : ∃ v, (s.mx != 0) = v := ⟨_, rfl⟩
  obtain ⟨v3, h3⟩ : ∃ v, absent s.a = v := ⟨_, rfl⟩
  obtain ⟨v4, h4⟩ : ∃ v, absent s.b = v := ⟨_, rfl⟩
  obtain ⟨v5, h5⟩ : ∃ v, decide (0 < (s.body.length : Int)) = v := ⟨_, rfl⟩
  obtain ⟨v6, h6⟩ : ∃ v, decide (0 < (s.els.length : Int)) = v := ⟨_, rfl⟩
  obtain ⟨u1, g1⟩ : ∃ v, hasB (usedI s.op) 1 = v := ⟨_, rfl⟩
  obtain ⟨u2, g2⟩ : ∃ v, hasB (usedI s.op) 2 = v := ⟨_, rfl⟩
  obtain ⟨u3, g3⟩ : ∃ v, hasB (usedI s.op) 4 = v := ⟨_, rfl⟩
  obtain ⟨u4, g4⟩ : ∃ v, hasB (usedI s.op) 8 = v := ⟨_, rfl⟩
  obtain ⟨u5, g5⟩ : ∃ v, hasB (usedI s.op) 16 = v := ⟨_, rfl⟩
  obtain ⟨u6, g6⟩ : ∃ v, hasB (usedI s.op) 32 = v := ⟨_, rfl⟩
  rw [h1] at he2 he3
  rw [h3] at HA
  rw [h4] at HB
  rw [g1] at HH1
  rw [g2] at HH2
  rw [g3] at HH4
  rw [g4] at HH8
  rw [g5] at HH16
  rw [g6] at HH32
  rw [h1, h2, h3, h4, h5, h6, g1, g2, g3, g4, g5, g6] at hV
  have HV := Lib.hid hV
  generalize usedI s.op = o at HH1 HH2 HH4 HH8 HH16 HH32 ⊢
  clear hV h h1 h3 h4 g1 g2 g3 g4 g5 g6
  have h5' : decide (0 < s.body.length) = v5 := by rw [← h5]; exact decide_eq_decide.2 (by omega)
  have h6' : decide (0 < s.els.length) = v6 := by rw [← h6]; exact decide_eq_decide.2 (by omega)
  obtain ⟨p1, hp1⟩ : ∃ p, (!v1 && !u1) = p := ⟨_, rfl⟩
  obtain ⟨p2, hp2⟩ : ∃ p, (p1 || (v2 && !u2)) = p := ⟨_, rfl⟩
  obtain ⟨p3, hp3⟩ : ∃ p, (p2 || (!v3 && !u3)) = p := ⟨_, rfl⟩
  obtain ⟨p4, hp4⟩ : ∃ p, (p3 || (!v4 && !u4)) = p := ⟨_, rfl⟩
  obtain ⟨p5, hp5⟩ : ∃ p, (p4 || (v5 && !u5)) = p := ⟨_, rfl⟩
  obtain ⟨p6, hp6⟩ : ∃ p, (p5 || (v6 && !u6)) = p := ⟨_, rfl⟩
  rw [hp1, hp2, hp3, hp4, hp5, hp6] at HV
  have HP1 := Lib.hid hp1
  have HP2 := Lib.hid hp2
  have HP3 := Lib.hid hp3
  have HP4 := Lib.hid hp4
  have HP5 := Lib.hid hp5
  have HP6 := Lib.hid hp6
  clear hp1 hp2 hp3 hp4 hp5 hp6
  rw [HV.out]
  clear HV
  go_enter Tryd.func106, Tryd.ntmps106
  go_upto_region 1 with fail
  refine wp_region_lit ?_
  simp only [List.append_eq, List.cons_append, List.nil_append]
  refine wpList_cut 11 (fun a' w' => ∃ u5 u6 u7 u8 u9 u10 u11 u12 u13 u14 : Value, a' = ⟨#[.pointer (some ⟨b, i, none⟩), .int .i64 o, undef, undef, .bool false, u5, u6, u7, u8, u9, u10, u11, u12, u13, u14, .bool p1, undef, undef, undef, undef, undef, undef, undef, undef, undef, undef, undef, undef, undef, undef, undef, undef, undef, undef, undef, undef, undef, undef, undef, undef, undef, undef, undef, undef, undef, undef, undef, undef, undef, undef, undef, undef, undef, undef, undef, undef, undef, undef, undef, undef, undef, undef, undef, undef, undef, undef, undef, undef, undef, undef, undef, undef, undef, undef, undef, undef, undef], []⟩ ∧ w = w') ?_ ?_
  · intro B hB
    simp only [List.take_succ_cons, List.take_zero, List.cons_append, List.nil_append]
    cases v1 <;> cases u1
    all_goals
      have hp := HP1.out
      subst hp
      go_wp2_with fail
      repeat ((first | (with_reducible refine HA.out.mono ?_; rintro e' w2 ⟨rfl, rfl⟩) | (with_reducible refine HB.out.mono ?_; rintro e' w2 ⟨rfl, rfl⟩) | (with_reducible refine HH1.out.mono ?_; rintro e' w2 ⟨rfl, rfl⟩) | (with_reducible refine HH2.out.mono ?_; rintro e' w2 ⟨rfl, rfl⟩) | (with_reducible refine HH4.out.mono ?_; rintro e' w2 ⟨rfl, rfl⟩) | (with_reducible refine HH8.out.mono ?_; rintro e' w2 ⟨rfl, rfl⟩) | (with_reducible refine HH16.out.mono ?_; rintro e' w2 ⟨rfl, rfl⟩) | (with_reducible refine HH32.out.mono ?_; rintro e' w2 ⟨rfl, rfl⟩)); go_wp2_with fail)
      refine hB.out _ _ ?_
      repeat' apply Exists.intro
      exact ⟨rfl, rfl⟩
  rintro a' w' ⟨u5, u6, u7, u8, u9, u10, u11, u12, u13, u14, rfl, rfl⟩
  simp only [List.drop_succ_cons, List.drop_zero]
  clear HP1
  refine wpList_cut 12 (fun a' w' => ∃ u5 u6 u7 u8 u9 u10 u11 u12 u13 u14 u15 u16 u17 u18 u19 u20 u21 u22 u23 u24 u25 u26 : Value, a' = ⟨#[.pointer (some ⟨b, i, none⟩), .int .i64 o, undef, undef, .bool false, u5, u6, u7, u8, u9, u10, u11, u12, u13, u14, u15, u16, u17, u18, u19, u20, u21, u22, u23, u24, u25, u26, .bool p2, undef, undef, undef, undef, undef, undef, undef, undef, undef, undef, undef, undef, undef, undef, undef, undef, undef, undef, undef, undef, undef, undef, undef, undef, undef, undef, undef, undef, undef, undef, undef, undef, undef, undef, undef, undef, undef, undef, undef, undef, undef, undef, undef, undef, undef, undef, undef, undef, undef], []⟩ ∧ w = w') ?_ ?_
  · intro B hB
    simp only [List.take_succ_cons, List.take_zero, List.cons_append, List.nil_append]
    cases p1 <;> cases v2 <;> cases u2
    all_goals
      have hp := HP2.out
      subst hp
      go_wp2_with fail
      repeat ((first | (with_reducible refine HA.out.mono ?_; rintro e' w2 ⟨rfl, rfl⟩) | (with_reducible refine HB.out.mono ?_; rintro e' w2 ⟨rfl, rfl⟩) | (with_reducible refine HH1.out.mono ?_; rintro e' w2 ⟨rfl, rfl⟩) | (with_reducible refine HH2.out.mono ?_; rintro e' w2 ⟨rfl, rfl⟩) | (with_reducible refine HH4.out.mono ?_; rintro e' w2 ⟨rfl, rfl⟩) | (with_reducible refine HH8.out.mono ?_; rintro e' w2 ⟨rfl, rfl⟩) | (with_reducible refine HH16.out.mono ?_; rintro e' w2 ⟨rfl, rfl⟩) | (with_reducible refine HH32.out.mono ?_; rintro e' w2 ⟨rfl, rfl⟩)); go_wp2_with fail)
      refine hB.out _ _ ?_
      repeat' apply Exists.intro
      exact ⟨rfl, rfl⟩
  rintro a' w' ⟨u5, u6, u7, u8, u9, u10, u11, u12, u13, u14, u15, u16, u17, u18, u19, u20, u21, u22, u23, u24, u25, u26, rfl, rfl⟩
  simp only [List.drop_succ_cons, List.drop_zero]
  clear HP2
  refine wpList_cut 12 (fun a' w' => ∃ u5 u6 u7 u8 u9 u10 u11 u12 u13 u14 u15 u16 u17 u18 u19 u20 u21 u22 u23 u24 u25 u26 u27 u28 u29 u30 u31 u32 u33 u34 u35 u36 u37 u38 : Value, a' = ⟨#[.pointer (some ⟨b, i, none⟩), .int .i64 o, undef, undef, .bool false, u5, u6, u7, u8, u9, u10, u11, u12, u13, u14, u15, u16, u17, u18, u19, u20, u21, u22, u23, u24, u25, u26, u27, u28, u29, u30, u31, u32, u33, u34, u35, u36, u37, u38, .bool p3, undef, undef, undef, undef, undef, undef, undef, undef, undef, undef, undef, undef, undef, undef, undef, undef, undef, undef, undef, undef, undef, undef, undef, undef, undef, undef, undef, undef, undef, undef, undef, undef, undef, undef, undef, undef, undef], []⟩ ∧ w = w') ?_ ?_
  · intro B hB
    simp only [List.take_succ_cons, List.take_zero, List.cons_append, List.nil_append]
    cases p2 <;> cases v3 <;> cases u3
    all_goals
      have hp := HP3.out
      subst hp
      go_wp2_with fail
      repeat ((first | (with_reducible refine HA.out.mono ?_; rintro e' w2 ⟨rfl, rfl⟩) | (with_reducible refine HB.out.mono ?_; rintro e' w2 ⟨rfl, rfl⟩) | (with_reducible refine HH1.out.mono ?_; rintro e' w2 ⟨rfl, rfl⟩) | (with_reducible refine HH2.out.mono ?_; rintro e' w2 ⟨rfl, rfl⟩) | (with_reducible refine HH4.out.mono ?_; rintro e' w2 ⟨rfl, rfl⟩) | (with_reducible refine HH8.out.mono ?_; rintro e' w2 ⟨rfl, rfl⟩) | (with_reducible refine HH16.out.mono ?_; rintro e' w2 ⟨rfl, rfl⟩) | (with_reducible refine HH32.out.mono ?_; rintro e' w2 ⟨rfl, rfl⟩)); go_wp2_with fail)
      refine hB.out _ _ ?_
      repeat' apply Exists.intro
      exact ⟨rfl, rfl⟩
  rintro a' w' ⟨u5, u6, u7, u8, u9, u10, u11, u12, u13, u14, u15, u16, u17, u18, u19, u20, u21, u22, u23, u24, u25, u26, u27, u28, u29, u30, u31, u32, u33, u34, u35, u36, u37, u38, rfl, rfl⟩
  simp only [List.drop_succ_cons, List.drop_zero]
  clear HP3
  refine wpList_cut 12 (fun a' w' => ∃ u5 u6 u7 u8 u9 u10 u11 u12 u13 u14 u15 u16 u17 u18 u19 u20 u21 u22 u23 u24 u25 u26 u27 u28 u29 u30 u31 u32 u33 u34 u35 u36 u37 u38 u39 u40 u41 u42 u43 u44 u45 u46 u47 u48 u49 u50 : Value, a' = ⟨#[.pointer (some ⟨b, i, none⟩), .int .i64 o, undef, undef, .bool false, u5, u6, u7, u8, u9, u10, u11, u12, u13, u14, u15, u16, u17, u18, u19, u20, u21, u22, u23, u24, u25, u26, u27, u28, u29, u30, u31, u32, u33, u34, u35, u36, u37, u38, u39, u40, u41, u42, u43, u44, u45, u46, u47, u48, u49, u50, .bool p4, undef, undef, undef, undef, undef, undef, undef, undef, undef, undef, undef, undef, undef, undef, undef, undef, undef, undef, undef, undef, undef, undef, undef, undef, undef], []⟩ ∧ w = w') ?_ ?_
  · intro B hB
    simp only [List.take_succ_cons, List.take_zero, List.cons_append, List.nil_append]
    cases p3 <;> cases v4 <;> cases u4
    all_goals
      have hp := HP4.out
      subst hp
      go_wp2_with fail
      repeat ((first | (with_reducible refine HA.out.mono ?_; rintro e' w2 ⟨rfl, rfl⟩) | (with_reducible refine HB.out.mono ?_; rintro e' w2 ⟨rfl, rfl⟩) | (with_reducible refine HH1.out.mono ?_; rintro e' w2 ⟨rfl, rfl⟩) | (with_reducible refine HH2.out.mono ?_; rintro e' w2 ⟨rfl, rfl⟩) | (with_reducible refine HH4.out.mono ?_; rintro e' w2 ⟨rfl, rfl⟩) | (with_reducible refine HH8.out.mono ?_; rintro e' w2 ⟨rfl, rfl⟩) | (with_reducible refine HH16.out.mono ?_; rintro e' w2 ⟨rfl, rfl⟩) | (with_reducible refine HH32.out.mono ?_; rintro e' w2 ⟨rfl, rfl⟩)); go_wp2_with fail)
      refine hB.out _ _ ?_
      repeat' apply Exists.intro
      exact ⟨rfl, rfl⟩
  rintro a' w' ⟨u5, u6, u7, u8, u9, u10, u11, u12, u13, u14, u15, u16, u17, u18, u19, u20, u21, u22, u23, u24, u25, u26, u27, u28, u29, u30, u31, u32, u33, u34, u35, u36, u37, u38, u39, u40, u41, u42, u43, u44, u45, u46, u47, u48, u49, u50, rfl, rfl⟩
  simp only [List.drop_succ_cons, List.drop_zero]
  clear HP4
  refine wpList_cut 13 (fun a' w' => ∃ u5 u6 u7 u8 u9 u10 u11 u12 u13 u14 u15 u16 u17 u18 u19 u20 u21 u22 u23 u24 u25 u26 u27 u28 u29 u30 u31 u32 u33 u34 u35 u36 u37 u38 u39 u40 u41 u42 u43 u44 u45 u46 u47 u48 u49 u50 u51 u52 u53 u54 u55 u56 u57 u58 u59 u60 u61 u62 u63 : Value, a' = ⟨#[.pointer (some ⟨b, i, none⟩), .int .i64 o, undef, undef, .bool false, u5, u6, u7, u8, u9, u10, u11, u12, u13, u14, u15, u16, u17, u18, u19, u20, u21, u22, u23, u24, u25, u26, u27, u28, u29, u30, u31, u32, u33, u34, u35, u36, u37, u38, u39, u40, u41, u42, u43, u44, u45, u46, u47, u48, u49, u50, u51, u52, u53, u54, u55, u56, u57, u58, u59, u60, u61, u62, u63, .bool p5, undef, undef, undef, undef, undef, undef, undef, undef, undef, undef, undef, undef], []⟩ ∧ w = w') ?_ ?_
  · intro B hB
    simp only [List.take_succ_cons, List.take_zero, List.cons_append, List.nil_append]
    cases p4 <;> cases v5 <;> cases u5
    all_goals
      have hp := HP5.out
      subst hp
      go_wp2_with fail
      repeat ((first | (with_reducible refine HA.out.mono ?_; rintro e' w2 ⟨rfl, rfl⟩) | (with_reducible refine HB.out.mono ?_; rintro e' w2 ⟨rfl, rfl⟩) | (with_reducible refine HH1.out.mono ?_; rintro e' w2 ⟨rfl, rfl⟩) | (with_reducible refine HH2.out.mono ?_; rintro e' w2 ⟨rfl, rfl⟩) | (with_reducible refine HH4.out.mono ?_; rintro e' w2 ⟨rfl, rfl⟩) | (with_reducible refine HH8.out.mono ?_; rintro e' w2 ⟨rfl, rfl⟩) | (with_reducible refine HH16.out.mono ?_; rintro e' w2 ⟨rfl, rfl⟩) | (with_reducible refine HH32.out.mono ?_; rintro e' w2 ⟨rfl, rfl⟩)); go_wp2_with fail)
      refine hB.out _ _ ?_
      repeat' apply Exists.intro
      exact ⟨rfl, rfl⟩
  rintro a' w' ⟨u5, u6, u7, u8, u9, u10, u11, u12, u13, u14, u15, u16, u17, u18, u19, u20, u21, u22, u23, u24, u25, u26, u27, u28, u29, u30, u31, u32, u33, u34, u35, u36, u37, u38, u39, u40, u41, u42, u43, u44, u45, u46, u47, u48, u49, u50, u51, u52, u53, u54, u55, u56, u57, u58, u59, u60, u61, u62, u63, rfl, rfl⟩
  simp only [List.drop_succ_cons, List.drop_zero]
  clear HP5
  cases p5 <;> cases v6 <;> cases u6
  all_goals
    have hp := HP6.out
    subst hp
    go_wp2_with fail
    repeat ((first | (with_reducible refine HA.out.mono ?_; rintro e' w2 ⟨rfl, rfl⟩) | (with_reducible refine HB.out.mono ?_; rintro e' w2 ⟨rfl, rfl⟩) | (with_reducible refine HH1.out.mono ?_; rintro e' w2 ⟨rfl, rfl⟩) | (with_reducible refine HH2.out.mono ?_; rintro e' w2 ⟨rfl, rfl⟩) | (with_reducible refine HH4.out.mono ?_; rintro e' w2 ⟨rfl, rfl⟩) | (with_reducible refine HH8.out.mono ?_; rintro e' w2 ⟨rfl, rfl⟩) | (with_reducible refine HH16.out.mono ?_; rintro e' w2 ⟨rfl, rfl⟩) | (with_reducible refine HH32.out.mono ?_; rintro e' w2 ⟨rfl, rfl⟩)); go_wp2_with fail)
    go_ret
    exact ⟨rfl, rfl⟩
end Go.Proofs.YtkjefigebdbkaaaDoor.A
