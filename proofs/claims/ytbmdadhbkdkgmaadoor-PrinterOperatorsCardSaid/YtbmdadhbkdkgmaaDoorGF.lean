/-
  What the program's function stmtError of layer 8 returns: its contract.
  What the program's functions of layer 8 return: paramsError and what it calls: contracts.
-/
import Derived.Test.YtbmdadhbkdkgmaaDoorAOG
import Derived.Test.YtbmdadhbkdkgmaaDoorGE
import Derived.Test.YtbmdadhbkdkgmaaDoorGU
namespace Go.Proofs.YtbmdadhbkdkgmaaDoor.A
open Go.RowKit
open L (Str isName prt size_len below_2 below_box ret_bool ret_int eql_eq bytes_eq)

theorem st_bad {s : St} {d : Nat} (h : badS s = true ∨ badM s = true) : stE s d = 1 := by
  unfold stE
  rcases h with h | h
  · rw [if_pos h]
  · rw [h]; split <;> rfl
theorem st_name {s : St} {d : Nat} (h1 : badS s = false) (h2 : badM s = false) (h : uN s.op = true) (h3 : nam s.name = false) : stE s d = 7 := by
  unfold stE
  rw [h1, h2, h, h3]; rfl
/-- what is left behind the name -/
def restE (s : St) (d : Nat) : Int := if (uA s.op && !decide (vE s.a 1 = 0)) = true then vE s.a 1 else if (uB s.op && !decide (vE s.b 1 = 0)) = true then vE s.b 1 else if 12 < d then 2 else 0
theorem st_rest {s : St} {d : Nat} (h1 : badS s = false) (h2 : badM s = false) (h : uN s.op = false ∨ nam s.name = true) : stE s d = restE s d := by
  unfold stE restE
  rw [h1, h2]
  rcases h with h | h
  · rw [h]; rfl
  · rw [h]; simp
set_option maxHeartbeats 8000000 in
set_option maxRecDepth 100000 in
theorem ostmtError_any (s : St) (b i d : Nat) (hd : d ≤ 1000000) (hok : okS s) (w : World) (h : StAt w s b i) :
    Calls Tryd.prog 19 #[.pointer (some ⟨b, i, none⟩), .int .i64 (d : Int)] w fun e' w' => e' = .returned (.int .i64 (stE s d)) ∧ Below w.heap.size w w' := by
  have ho := okS_open hok
  obtain ⟨a1, c1, a2, c2, a3, c3, a4, c4, hcs, hks⟩ := h.open
  have HU := Lib.hid (fun w => oused_any s.op w)
  have HF := Lib.hid (ofills_any s b i a1 c1 a2 c2 a3 c3 a4 c4 ho.bodyLen ho.elsLen w hcs)
  have HM := Lib.hid (omax_any s b i w hcs.k0 hcs.k2)
  have HH1 := Lib.hid (fun w => ohas_any s.op 1 (by omega) w)
  have HH4 := Lib.hid (fun w => ohas_any s.op 4 (by omega) w)
  have HH8 := Lib.hid (fun w => ohas_any s.op 8 (by omega) w)
  have HI : Hid (∀ w, Calls Tryd.prog 15 #[.string s.name] w fun e' w' => e' = .returned (.bool (nam s.name)) ∧ Below w.heap.size w w') := fun w => L.oname_any s.name w
  have HVA := Lib.hid (fun w h => ovalidExpr_any s.a a1 c1 ho.a w h)
  have HVB := Lib.hid (fun w h => ovalidExpr_any s.b a2 c2 ho.b w h)
  have HC := Lib.hid hcs
  have HK := Lib.hid hks
  have hfb := fill_bad s
  obtain ⟨hu1, hu4, hu8, _, _, _, _⟩ := used_bits s.op
  rw [hu1] at HH1
  rw [hu4] at HH4
  rw [hu8] at HH8
  have X1 := Lib.hid (@st_bad s d)
  have X2 := Lib.hid (@st_name s d)
  have X3 := Lib.hid (@st_rest s d)
  have hR : restE s d = _ := rfl
  unfold restE at hR
  rw [show restE s d = (if (uA s.op && !decide (vE s.a 1 = 0)) = true then vE s.a 1 else if (uB s.op && !decide (vE s.b 1 = 0)) = true then vE s.b 1 else if 12 < d then 2 else 0) from rfl] at X3
  clear hR
  have k0 := hcs.k0
  have k1 := hcs.k1
  generalize badS s = BS at X1 X2 X3 hfb
  generalize badM s = BM at X1 X2 X3 HM
  generalize fillB s = FB at HF hfb
  generalize uN s.op = UN at X2 X3 HH1
  generalize uA s.op = UA at X3 HH4
  generalize uB s.op = UB at X3 HH8
  generalize nam s.name = NM at X2 X3 HI
  generalize vE s.a 1 = va at X3 HVA
  generalize vE s.b 1 = vb at X3 HVB
  obtain ⟨z0, hz0⟩ : ∃ z, (usedI s.op == 0) = z := ⟨_, rfl⟩
  rw [hz0] at hfb
  have HFB := Lib.hid hfb
  have HBc := Lib.hid (Below.refl w.heap.size w)
  generalize stE s d = R at X1 X2 X3 ⊢
  generalize usedI s.op = uu at HU HF HH1 HH4 HH8 hz0
  clear ho hok h hcs hks hfb hu1 hu4 hu8
  unfold exV at HVA HVB
  go_enter Tryd.func19, Tryd.ntmps19
  go_wp2_with fail
  refine (HU.out _).mono ?_; rintro e' w1 ⟨rfl, rfl⟩
  cases z0
  case true =>
    have HV : Hid (R = 1) := X1.out (Or.inl (by rw [← HFB.out]; rfl))
    go_wp2_with fail
    go_ret
    exact ⟨ret_int HV.out.symm, HBc.out⟩
  go_wp2_with fail
  refine HF.out.mono ?_; rintro e' w2 ⟨rfl, rfl⟩
  cases FB
  case true =>
    have HV : Hid (R = 1) := X1.out (Or.inl (by rw [← HFB.out]; rfl))
    go_wp2_with fail
    go_ret
    exact ⟨ret_int HV.out.symm, HBc.out⟩
  obtain rfl : BS = false := by rw [← HFB.out]; rfl
  go_wp2_with fail
  refine HM.out.mono ?_; rintro e' w3 ⟨rfl, rfl⟩
  cases BM
  case true =>
    have HV : Hid (R = 1) := X1.out (by simp)
    go_wp2_with fail
    go_ret
    exact ⟨ret_int HV.out.symm, HBc.out⟩
  go_wp2_with fail
  refine (HH1.out _).mono ?_; rintro e' w4 ⟨rfl, rfl⟩
  cases UN
  · have HRA := Lib.hid (X3.out (by trivial) (by trivial) (by simp))
    go_wp2_with fail
    refine (HH4.out _).mono ?_; rintro e' w5 ⟨rfl, rfl⟩
    cases UA
    · have HRB : Hid (R = if (UB && !decide (vb = 0)) = true then vb else if 12 < d then 2 else 0) := by show _ = _; rw [HRA.out]; rfl
      go_wp2_with fail
      refine (HH8.out _).mono ?_; rintro e' w5 ⟨rfl, rfl⟩
      cases UB
      · have HR : Hid (R = if 12 < d then 2 else 0) := by show _ = _; rw [HRB.out]; rfl
        by_cases hd12 : 12 < d
        · have bd : decide (12 < (d : Int)) = true := decide_eq_true (by omega)
          have HV : Hid (R = 2) := by show _ = _; rw [HR.out, if_pos hd12]
          clear hd12
          go_wp2_with fail
          go_ret
          exact ⟨ret_int HV.out.symm, HBc.out⟩
        · have bd : decide (12 < (d : Int)) = false := decide_eq_false (by omega)
          have HV : Hid (R = 0) := by show _ = _; rw [HR.out, if_neg hd12]
          clear hd12
          go_wp2_with fail
          go_ret
          exact ⟨ret_int HV.out.symm, HBc.out⟩
      · obtain ⟨_, _, _, _, _, _, _, m7, m8, m9, m10, _, _⟩ := HC.out.below HBc.out
        go_wp2_with fail
        refine (HVB.out _ (HK.out.below HBc.out).b).mono ?_; rintro e' w6 ⟨rfl, hb⟩
        have HBc := Lib.hid (below_2 HBc.out hb)
        clear hb m7 m8 m9 m10
        by_cases hvb : vb = 0
        · have bb : (vb != 0) = false := by rw [bne_eq_false_iff_eq]; exact hvb
          have HR : Hid (R = if 12 < d then 2 else 0) := by show _ = _; rw [HRB.out, hvb]; rfl
          clear hvb
          by_cases hd12 : 12 < d
          · have bd : decide (12 < (d : Int)) = true := decide_eq_true (by omega)
            have HV : Hid (R = 2) := by show _ = _; rw [HR.out, if_pos hd12]
            clear hd12
            go_wp2_with fail
            go_ret
            exact ⟨ret_int HV.out.symm, HBc.out⟩
          · have bd : decide (12 < (d : Int)) = false := decide_eq_false (by omega)
            have HV : Hid (R = 0) := by show _ = _; rw [HR.out, if_neg hd12]
            clear hd12
            go_wp2_with fail
            go_ret
            exact ⟨ret_int HV.out.symm, HBc.out⟩
        · have bb : (vb != 0) = true := bne_iff_ne.2 hvb
          have HV : Hid (R = vb) := by show _ = _; rw [HRB.out, decide_eq_false hvb]; rfl
          clear hvb
          go_wp2_with fail
          go_ret
          exact ⟨ret_int HV.out.symm, HBc.out⟩
    · obtain ⟨_, _, _, m3, m4, m5, m6, _, _, _, _, _, _⟩ := HC.out.below HBc.out
      go_wp2_with fail
      refine (HVA.out _ (HK.out.below HBc.out).a).mono ?_; rintro e' w6 ⟨rfl, hb⟩
      have HBc := Lib.hid (below_2 HBc.out hb)
      clear hb m3 m4 m5 m6
      by_cases hva : va = 0
      · have ba : (va != 0) = false := by rw [bne_eq_false_iff_eq]; exact hva
        have HRB : Hid (R = if (UB && !decide (vb = 0)) = true then vb else if 12 < d then 2 else 0) := by show _ = _; rw [HRA.out, hva]; rfl
        clear hva
        go_wp2_with fail
        refine (HH8.out _).mono ?_; rintro e' w5 ⟨rfl, rfl⟩
        cases UB
        · have HR : Hid (R = if 12 < d then 2 else 0) := by show _ = _; rw [HRB.out]; rfl
          by_cases hd12 : 12 < d
          · have bd : decide (12 < (d : Int)) = true := decide_eq_true (by omega)
            have HV : Hid (R = 2) := by show _ = _; rw [HR.out, if_pos hd12]
            clear hd12
            go_wp2_with fail
            go_ret
            exact ⟨ret_int HV.out.symm, HBc.out⟩
          · have bd : decide (12 < (d : Int)) = false := decide_eq_false (by omega)
            have HV : Hid (R = 0) := by show _ = _; rw [HR.out, if_neg hd12]
            clear hd12
            go_wp2_with fail
            go_ret
            exact ⟨ret_int HV.out.symm, HBc.out⟩
        · obtain ⟨_, _, _, _, _, _, _, m7, m8, m9, m10, _, _⟩ := HC.out.below HBc.out
          go_wp2_with fail
          refine (HVB.out _ (HK.out.below HBc.out).b).mono ?_; rintro e' w6 ⟨rfl, hb⟩
          have HBc := Lib.hid (below_2 HBc.out hb)
          clear hb m7 m8 m9 m10
          by_cases hvb : vb = 0
          · have bb : (vb != 0) = false := by rw [bne_eq_false_iff_eq]; exact hvb
            have HR : Hid (R = if 12 < d then 2 else 0) := by show _ = _; rw [HRB.out, hvb]; rfl
            clear hvb
            by_cases hd12 : 12 < d
            · have bd : decide (12 < (d : Int)) = true := decide_eq_true (by omega)
              have HV : Hid (R = 2) := by show _ = _; rw [HR.out, if_pos hd12]
              clear hd12
              go_wp2_with fail
              go_ret
              exact ⟨ret_int HV.out.symm, HBc.out⟩
            · have bd : decide (12 < (d : Int)) = false := decide_eq_false (by omega)
              have HV : Hid (R = 0) := by show _ = _; rw [HR.out, if_neg hd12]
              clear hd12
              go_wp2_with fail
              go_ret
              exact ⟨ret_int HV.out.symm, HBc.out⟩
          · have bb : (vb != 0) = true := bne_iff_ne.2 hvb
            have HV : Hid (R = vb) := by show _ = _; rw [HRB.out, decide_eq_false hvb]; rfl
            clear hvb
            go_wp2_with fail
            go_ret
            exact ⟨ret_int HV.out.symm, HBc.out⟩
      · have ba : (va != 0) = true := bne_iff_ne.2 hva
        have HV : Hid (R = va) := by show _ = _; rw [HRA.out, decide_eq_false hva]; rfl
        clear hva
        go_wp2_with fail
        go_ret
        exact ⟨ret_int HV.out.symm, HBc.out⟩
  · go_wp2_with fail
    refine (HI.out _).mono ?_; rintro e' w5 ⟨rfl, hb⟩
    have HBc := Lib.hid (below_2 HBc.out hb)
    clear hb k0 k1
    cases NM
    · have HV : Hid (R = 7) := X2.out (by trivial) (by trivial) (by trivial) (by trivial)
      go_wp2_with fail
      go_ret
      exact ⟨ret_int HV.out.symm, HBc.out⟩
    · have HRA := Lib.hid (X3.out (by trivial) (by trivial) (by simp))
      go_wp2_with fail
      refine (HH4.out _).mono ?_; rintro e' w5 ⟨rfl, rfl⟩
      cases UA
      · have HRB : Hid (R = if (UB && !decide (vb = 0)) = true then vb else if 12 < d then 2 else 0) := by show _ = _; rw [HRA.out]; rfl
        go_wp2_with fail
        refine (HH8.out _).mono ?_; rintro e' w5 ⟨rfl, rfl⟩
        cases UB
        · have HR : Hid (R = if 12 < d then 2 else 0) := by show _ = _; rw [HRB.out]; rfl
          by_cases hd12 : 12 < d
          · have bd : decide (12 < (d : Int)) = true := decide_eq_true (by omega)
            have HV : Hid (R = 2) := by show _ = _; rw [HR.out, if_pos hd12]
            clear hd12
            go_wp2_with fail
            go_ret
            exact ⟨ret_int HV.out.symm, HBc.out⟩
          · have bd : decide (12 < (d : Int)) = false := decide_eq_false (by omega)
            have HV : Hid (R = 0) := by show _ = _; rw [HR.out, if_neg hd12]
            clear hd12
            go_wp2_with fail
            go_ret
            exact ⟨ret_int HV.out.symm, HBc.out⟩
        · obtain ⟨_, _, _, _, _, _, _, m7, m8, m9, m10, _, _⟩ := HC.out.below HBc.out
          go_wp2_with fail
          refine (HVB.out _ (HK.out.below HBc.out).b).mono ?_; rintro e' w6 ⟨rfl, hb⟩
          have HBc := Lib.hid (below_2 HBc.out hb)
          clear hb m7 m8 m9 m10
          by_cases hvb : vb = 0
          · have bb : (vb != 0) = false := by rw [bne_eq_false_iff_eq]; exact hvb
            have HR : Hid (R = if 12 < d then 2 else 0) := by show _ = _; rw [HRB.out, hvb]; rfl
            clear hvb
            by_cases hd12 : 12 < d
            · have bd : decide (12 < (d : Int)) = true := decide_eq_true (by omega)
              have HV : Hid (R = 2) := by show _ = _; rw [HR.out, if_pos hd12]
              clear hd12
              go_wp2_with fail
              go_ret
              exact ⟨ret_int HV.out.symm, HBc.out⟩
            · have bd : decide (12 < (d : Int)) = false := decide_eq_false (by omega)
              have HV : Hid (R = 0) := by show _ = _; rw [HR.out, if_neg hd12]
              clear hd12
              go_wp2_with fail
              go_ret
              exact ⟨ret_int HV.out.symm, HBc.out⟩
          · have bb : (vb != 0) = true := bne_iff_ne.2 hvb
            have HV : Hid (R = vb) := by show _ = _; rw [HRB.out, decide_eq_false hvb]; rfl
            clear hvb
            go_wp2_with fail
            go_ret
            exact ⟨ret_int HV.out.symm, HBc.out⟩
      · obtain ⟨_, _, _, m3, m4, m5, m6, _, _, _, _, _, _⟩ := HC.out.below HBc.out
        go_wp2_with fail
        refine (HVA.out _ (HK.out.below HBc.out).a).mono ?_; rintro e' w6 ⟨rfl, hb⟩
        have HBc := Lib.hid (below_2 HBc.out hb)
        clear hb m3 m4 m5 m6
        by_cases hva : va = 0
        · have ba : (va != 0) = false := by rw [bne_eq_false_iff_eq]; exact hva
          have HRB : Hid (R = if (UB && !decide (vb = 0)) = true then vb else if 12 < d then 2 else 0) := by show _ = _; rw [HRA.out, hva]; rfl
          clear hva
          go_wp2_with fail
          refine (HH8.out _).mono ?_; rintro e' w5 ⟨rfl, rfl⟩
          cases UB
          · have HR : Hid (R = if 12 < d then 2 else 0) := by show _ = _; rw [HRB.out]; rfl
            by_cases hd12 : 12 < d
            · have bd : decide (12 < (d : Int)) = true := decide_eq_true (by omega)
              have HV : Hid (R = 2) := by show _ = _; rw [HR.out, if_pos hd12]
              clear hd12
              go_wp2_with fail
              go_ret
              exact ⟨ret_int HV.out.symm, HBc.out⟩
            · have bd : decide (12 < (d : Int)) = false := decide_eq_false (by omega)
              have HV : Hid (R = 0) := by show _ = _; rw [HR.out, if_neg hd12]
              clear hd12
              go_wp2_with fail
              go_ret
              exact ⟨ret_int HV.out.symm, HBc.out⟩
          · obtain ⟨_, _, _, _, _, _, _, m7, m8, m9, m10, _, _⟩ := HC.out.below HBc.out
            go_wp2_with fail
            refine (HVB.out _ (HK.out.below HBc.out).b).mono ?_; rintro e' w6 ⟨rfl, hb⟩
            have HBc := Lib.hid (below_2 HBc.out hb)
            clear hb m7 m8 m9 m10
            by_cases hvb : vb = 0
            · have bb : (vb != 0) = false := by rw [bne_eq_false_iff_eq]; exact hvb
              have HR : Hid (R = if 12 < d then 2 else 0) := by show _ = _; rw [HRB.out, hvb]; rfl
              clear hvb
              by_cases hd12 : 12 < d
              · have bd : decide (12 < (d : Int)) = true := decide_eq_true (by omega)
                have HV : Hid (R = 2) := by show _ = _; rw [HR.out, if_pos hd12]
                clear hd12
                go_wp2_with fail
                go_ret
                exact ⟨ret_int HV.out.symm, HBc.out⟩
              · have bd : decide (12 < (d : Int)) = false := decide_eq_false (by omega)
                have HV : Hid (R = 0) := by show _ = _; rw [HR.out, if_neg hd12]
                clear hd12
                go_wp2_with fail
                go_ret
                exact ⟨ret_int HV.out.symm, HBc.out⟩
            · have bb : (vb != 0) = true := bne_iff_ne.2 hvb
              have HV : Hid (R = vb) := by show _ = _; rw [HRB.out, decide_eq_false hvb]; rfl
              clear hvb
              go_wp2_with fail
              go_ret
              exact ⟨ret_int HV.out.symm, HBc.out⟩
        · have ba : (va != 0) = true := bne_iff_ne.2 hva
          have HV : Hid (R = va) := by show _ = _; rw [HRA.out, decide_eq_false hva]; rfl
          clear hva
          go_wp2_with fail
          go_ret
          exact ⟨ret_int HV.out.symm, HBc.out⟩
end Go.Proofs.YtbmdadhbkdkgmaaDoor.A
namespace Go.Proofs.YtbmdadhbkdkgmaaDoor.A
open Go.RowKit
open L (Str isName prt size_len below_2 below_box ret_bool ret_int eql_eq bytes_eq)

def pmV (q : Pm) : Value := .agg #[.string q.name, .int .i64 q.ty]
set_option maxHeartbeats 2000000 in
set_option maxRecDepth 100000 in
theorem osameName_any (q : Pm) (N : Nat) (x : ByteArray) (w : World) (h : w.cell? ⟨N, 0, none⟩ = some (.string x)) :
    Calls Tryd.prog 33 #[pmV q, .pointer (some ⟨N, 0, none⟩)] w fun e' w' => e' = .returned (.bool (decide (q.name = x))) ∧ Below w.heap.size w w' := by
  have hw := below_box w (.cells #[.string q.name, .int .i64 q.ty] 59)
  have h2 := (hw.cell (block_lt_of_cell h)).trans h
  have HW := Lib.hid hw
  have hb := bytes_dec q.name x
  obtain ⟨v, hv⟩ : ∃ v, decide (q.name = x) = v := ⟨_, rfl⟩
  rw [hv] at hb ⊢
  unfold pmV
  clear hw hv
  go_enter Tryd.func33, Tryd.ntmps33
  go_wp2_with fail
  go_ret
  exact ⟨rfl, HW.out⟩
/-- the first parameter with this name -/
def idxP (x : ByteArray) : List Pm → Nat → Int
  | [], _ => -1
  | q :: r, k => if decide (q.name = x) = true then (k : Int) else idxP x r (k + 1)
theorem idxP_any (x : ByteArray) : ∀ (l : List Pm) (k : Nat), decide (0 ≤ idxP x l k) = l.any (fun q => decide (q.name = x))
  | [], k => rfl
  | q :: r, k => by
    rw [idxP, List.any_cons]
    cases h : decide (q.name = x)
    · rw [if_neg (by decide), Bool.false_or]; exact idxP_any x r (k + 1)
    · rw [if_pos rfl, Bool.true_or]; exact decide_eq_true (by omega)
set_option maxHeartbeats 4000000 in
set_option maxRecDepth 100000 in
theorem oindexFunc_any (l : List Pm) (a : Option Addr) (c N : Nat) (x : ByteArray) (hl : l.length ≤ 1000000000000000) (w : World) (hK : PmsAt w a l) (h : w.cell? ⟨N, 0, none⟩ = some (.string x)) :
    Calls Tryd.prog 51 #[.slice a l.length c, .func (Fn.func 33) #[] #[.pointer (some ⟨N, 0, none⟩)]] w fun e' w' => e' = .returned (.int .i64 (idxP x l 0)) ∧ Below w.heap.size w w' := by
  have HK := Lib.hid hK
  have HX := Lib.hid h
  have hlt0 := block_lt_of_cell h
  obtain ⟨R, hR⟩ : ∃ R, idxP x l 0 = R := ⟨_, rfl⟩
  rw [hR]
  have HR : Hid (idxP x (l.drop 0) 0 = R) := hR
  obtain ⟨m, hm⟩ : ∃ m, l.length = m := ⟨_, rfl⟩
  have HL := Lib.hid hm
  rw [hm] at hl ⊢
  clear hm hR hK h
  go_enter Tryd.func51, Tryd.ntmps51
  go_wp2_with fail
  go_loopw [8] (fun s8 wr => ∃ k : Nat, k ≤ m ∧ s8 = .int .i64 k ∧ Hid (idxP x (l.drop k) k = R) ∧ Hid (Below w.heap.size w wr)) (fun s8 _ => m - (intOf s8).toNat)
  case atStart => exact ⟨0, Nat.zero_le _, rfl, HR, Below.refl _ _⟩
  case round =>
    obtain ⟨k, hk, rfl, HX2, HB⟩ := hrel
    by_cases hlt : k < m
    · have hlx : k < l.length := by rw [HL.out]; exact hlt
      have hx := HX2.out
      rw [List.drop_eq_getElem_cons hlx, idxP] at hx
      obtain ⟨b3, i3, rfl, hc⟩ := (HK.out.below HB.out).open hlx
      obtain ⟨f0, f1⟩ := hc k hlx
      have HC := Lib.hid (osameName_any l[k] N x wr ((HB.out.cell hlt0).trans HX.out))
      generalize l[k] = q at f0 f1 HC hx
      generalize decide (q.name = x) = y at HC hx
      unfold pmV at HC
      clear hc
      cases y
      · rw [if_neg (by decide)] at hx
        have HN := Lib.hid hx
        clear hx
        go_wp2_with fail
        refine HC.out.mono ?_; rintro e w2 ⟨rfl, hb2⟩
        have HB2 := Lib.hid (below_2 HB.out hb2)
        clear hb2
        go_wp2_with fail
        go_roundw
        case rel => exact ⟨k + 1, by omega, by go_num, HN, HB2⟩
        case measure => simp [intOf]; omega
      · rw [if_pos rfl] at hx
        have HV := Lib.hid hx
        clear hx
        go_wp2_with fail
        refine HC.out.mono ?_; rintro e w2 ⟨rfl, hb2⟩
        have HB2 := Lib.hid (below_2 HB.out hb2)
        clear hb2
        go_wp2_with fail
        go_ret
        exact ⟨ret_int HV.out, HB2.out⟩
    · have HV : Hid (-1 = R) := by
        show _ = _
        rw [← HX2.out, List.drop_of_length_le (by rw [HL.out]; omega), idxP]
      go_wp2_with fail
      go_ret
      exact ⟨ret_int HV.out, HB.out⟩
set_option maxHeartbeats 2000000 in
set_option maxRecDepth 100000 in
theorem ocontainsFunc_any (l : List Pm) (a : Option Addr) (c N : Nat) (x : ByteArray) (hl : l.length ≤ 1000000000000000) (w : World) (hK : PmsAt w a l) (h : w.cell? ⟨N, 0, none⟩ = some (.string x)) :
    Calls Tryd.prog 34 #[.slice a l.length c, .func (Fn.func 33) #[] #[.pointer (some ⟨N, 0, none⟩)]] w fun e' w' => e' = .returned (.bool (l.any (fun q => decide (q.name = x)))) ∧ Below w.heap.size w w' := by
  have HC := Lib.hid (oindexFunc_any l a c N x hl w hK h)
  have hv := idxP_any x l 0
  generalize idxP x l 0 = r at HC hv
  generalize l.any (fun q => decide (q.name = x)) = y at hv ⊢
  generalize l.length = m at HC ⊢
  clear hl hK h
  go_enter Tryd.func34, Tryd.ntmps34
  go_wp2_with fail
  refine HC.out.mono ?_; rintro e w2 ⟨rfl, hb2⟩
  have HB2 := Lib.hid hb2
  clear hb2
  go_wp2_with fail
  go_ret
  exact ⟨rfl, HB2.out⟩
theorem parF_drop {l : List Pm} {k : Nat} (h : k < l.length) : parF ((l.take k).map Pm.name) (l.drop k) = if nam l[k].name = false then 7 else if l[k].ty < 1 ∨ 3 < l[k].ty then 10 else if (l.take k).any (fun q => decide (q.name = l[k].name)) = true then 8 else parF ((l.take (k + 1)).map Pm.name) (l.drop (k + 1)) := by
  rw [List.drop_eq_getElem_cons h, parF, List.any_map, List.take_succ_eq_append_getElem h, List.map_append]
  rfl
theorem PmsAt.take {w : World} {a : Option Addr} {l : List Pm} (h : PmsAt w a l) (k : Nat) : PmsAt w a (l.take k) := by
  rcases h with h | ⟨b, i, ha, h⟩
  · left; rw [h]; simp
  · right
    refine ⟨b, i, ha, fun j hj => ?_⟩
    have hj2 : j < l.length := by rw [List.length_take] at hj; omega
    rw [List.getElem_take]
    exact h j hj2
set_option maxHeartbeats 8000000 in
set_option maxRecDepth 100000 in
theorem oparamsError_any (l : List Pm) (a : Option Addr) (c : Nat) (hl : l.length ≤ 1000000000000000) (w : World) (hc : l.length ≤ c) (hK : PmsAt w a l) :
    Calls Tryd.prog 16 #[.slice a l.length c] w fun e' w' => e' = .returned (.int .i64 (parE l)) ∧ Below w.heap.size w w' := by
  have HK := Lib.hid hK
  have hpe : parE l = if 6 < l.length then 2 else parF [] l := rfl
  obtain ⟨R, hR⟩ : ∃ R, parE l = R := ⟨_, rfl⟩
  rw [hR] at hpe ⊢
  have HP : Hid (l.length ≤ 6 → parF ((l.take 0).map Pm.name) (l.drop 0) = R) := fun h => by rw [hpe, if_neg (by omega)]; rfl
  have HP2 : Hid (6 < l.length → R = 2) := fun h => by rw [hpe, if_pos h]
  obtain ⟨m, hm⟩ : ∃ m, l.length = m := ⟨_, rfl⟩
  have HL := Lib.hid hm
  rw [hm] at hl hc HP HP2 ⊢
  clear hm hR hK hpe
  by_cases h6 : 6 < m
  · have HV : Hid (R = 2) := HP2.out h6
    have b6 : decide (6 < (m : Int)) = true := decide_eq_true (by omega)
    clear h6
    go_enter Tryd.func16, Tryd.ntmps16
    go_wp2_with fail
    go_ret
    exact ⟨ret_int HV.out.symm, Below.refl _ _⟩
  · have HR := Lib.hid (HP.out (by omega))
    have b6 : decide (6 < (m : Int)) = false := decide_eq_false (by omega)
    clear HP HP2
    go_enter Tryd.func16, Tryd.ntmps16
    go_wp2_with fail
    go_loopw [11] (fun s11 wr => ∃ k : Nat, k ≤ m ∧ s11 = .int .i64 k ∧ Hid (parF ((l.take k).map Pm.name) (l.drop k) = R) ∧ Hid (Below w.heap.size w wr)) (fun s11 _ => m - (intOf s11).toNat)
    case atStart => exact ⟨0, Nat.zero_le _, rfl, HR, Below.refl _ _⟩
    case round =>
      obtain ⟨k, hk, rfl, HX, HB⟩ := hrel
      by_cases hlt : k < m
      · have hlx : k < l.length := by rw [HL.out]; exact hlt
        have hx := HX.out
        rw [parF_drop hlx] at hx
        obtain ⟨b3, i3, rfl, hcc⟩ := (HK.out.below HB.out).open hlx
        obtain ⟨f0, f1⟩ := hcc k hlx
        have hbx := below_box wr (.cells #[.string l[k].name, .int .i64 l[k].ty] 59)
        have HI : Hid (∀ w, Calls Tryd.prog 15 #[.string l[k].name] w fun e' w' => e' = .returned (.bool (nam l[k].name)) ∧ Below w.heap.size w w') := fun w => L.oname_any l[k].name w
        have g0 : (wr.alloc (.cells #[.string l[k].name, .int .i64 l[k].ty] 59)).cell? ⟨wr.heap.size, 0, none⟩ = some (.string l[k].name) := by go_simp
        have g1 : (wr.alloc (.cells #[.string l[k].name, .int .i64 l[k].ty] 59)).cell? ⟨wr.heap.size, 1, none⟩ = some (.int .i64 l[k].ty) := by go_simp
        have hlen : (l.take k).length = k := by rw [List.length_take]; omega
        have HCF := Lib.hid (fun w' (hb : Below w.heap.size w w') (hx : w'.cell? ⟨wr.heap.size, 0, none⟩ = some (.string l[k].name)) => ocontainsFunc_any (l.take k) (some ⟨b3, i3, none⟩) c wr.heap.size l[k].name (by omega) w' ((HK.out.below hb).take k) hx)
        rw [hlen] at HCF
        have HG0 := Lib.hid g0
        have HG1 := Lib.hid g1
        have HBX := Lib.hid (below_2 HB.out hbx)
        generalize (l.take k).any (fun q => decide (q.name = l[k].name)) = y at HCF hx
        generalize l[k] = q at *
        clear hcc hlen hbx
        obtain ⟨nm, hnm⟩ : ∃ v, nam q.name = v := ⟨_, rfl⟩
        rw [hnm] at HI hx
        clear hnm
        cases nm
        · have HV : Hid (R = 7) := by show _ = _; rw [← hx, if_pos rfl]
          clear hx g0 g1
          go_wp2_with fail
          refine (HI.out _).mono ?_; rintro e w2 ⟨rfl, hb2⟩
          have HB2 := Lib.hid (below_2 HBX.out hb2)
          clear hb2
          go_wp2_with fail
          go_ret
          exact ⟨ret_int HV.out.symm, HB2.out⟩
        · rw [if_neg (by decide)] at hx
          clear g0 g1
          go_wp2_with fail
          refine (HI.out _).mono ?_; rintro e w2 ⟨rfl, hb2⟩
          have HB2 := Lib.hid (below_2 HBX.out hb2)
          have g0 := (hb2.cell (block_lt_of_cell HG0.out)).trans HG0.out
          have g1 := (hb2.cell (block_lt_of_cell HG1.out)).trans HG1.out
          clear hb2
          by_cases hty : q.ty < 1 ∨ 3 < q.ty
          · have t1 : (q.ty != 1) = true := bne_iff_ne.2 (by omega)
            have t2 : (q.ty != 2) = true := bne_iff_ne.2 (by omega)
            have t3 : (q.ty != 3) = true := bne_iff_ne.2 (by omega)
            have HV : Hid (R = 10) := by show _ = _; rw [← hx, if_pos hty]
            clear hx hty
            go_wp2_with fail
            go_ret
            exact ⟨ret_int HV.out.symm, HB2.out⟩
          · rw [if_neg hty] at hx
            have hC := HCF.out w2 HB2.out g0
            have HC := Lib.hid hC
            clear hC
            have ht : q.ty = 1 ∨ q.ty = 2 ∨ q.ty = 3 := by omega
            clear hty
            cases y
            · rw [if_neg (by decide)] at hx
              have HN := Lib.hid hx
              clear hx
              rcases ht with ht | ht | ht
              all_goals
                rw [ht] at g1
                clear ht
                go_wp2_with fail
                refine HC.out.mono ?_; rintro e w3 ⟨rfl, hb3⟩
                have HB3 := Lib.hid (below_2 HB2.out hb3)
                clear hb3
                go_wp2_with fail
                go_roundw
                case rel => exact ⟨k + 1, by omega, by go_num, HN, HB3⟩
                case measure => simp [intOf]; omega
            · have HV : Hid (R = 8) := by show _ = _; rw [← hx, if_pos rfl]
              clear hx
              rcases ht with ht | ht | ht
              all_goals
                rw [ht] at g1
                clear ht
                go_wp2_with fail
                refine HC.out.mono ?_; rintro e w3 ⟨rfl, hb3⟩
                have HB3 := Lib.hid (below_2 HB2.out hb3)
                clear hb3
                go_wp2_with fail
                go_ret
                exact ⟨ret_int HV.out.symm, HB3.out⟩
      · have HV : Hid (R = 0) := by
          show _ = _
          rw [← HX.out, List.drop_of_length_le (by rw [HL.out]; omega), parF]
        go_wp2_with fail
        go_ret
        exact ⟨ret_int HV.out.symm, HB.out⟩
end Go.Proofs.YtbmdadhbkdkgmaaDoor.A
