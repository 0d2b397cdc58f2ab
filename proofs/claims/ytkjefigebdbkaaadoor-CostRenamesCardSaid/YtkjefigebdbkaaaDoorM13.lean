/-
  What the program's function stmtError of layer 8 returns: its contract.
  What the program's function Validate of layer 8 returns: its contract.
-/
import Derived.Test.YtkjefigebdbkaaaDoorM08
import Derived.Test.YtkjefigebdbkaaaDoorM12
import Derived.Test.YtkjefigebdbkaaaDoorM09
namespace Go.Proofs.YtkjefigebdbkaaaDoor.A.UB
open Go.RowKit
open L (Str isName prt size_len below_2 below_box ret_bool ret_int eql_eq bytes_eq)

theorem st_bad {s : St} {d : Nat} (h : badS s = true ∨ badM s = true) : stE s d = 1 := by
  unfold stE
  rcases h with h | h
  · rw [if_pos h]
  · rw [h]; split <;> rfl
theorem st_name {s : St} {d : Nat} (h1 : badS s = false) (h2 : badM s = false) (h : uN s.op = true) (h3 : nam s.name = false) : stE s d = 7 := by
  unfold stE
  rw [h1, h2, h, h3]; rfl
/-- what is left behind the name -/
def restE (s : St) (d : Nat) : Int := if (uA s.op && !decide (vE s.a 1 = 0)) = true then vE s.a 1 else if (uB s.op && !decide (vE s.b 1 = 0)) = true then vE s.b 1 else if 12 < d then 2 else 0
theorem st_rest {s : St} {d : Nat} (h1 : badS s = false) (h2 : badM s = false) (h : uN s.op = false ∨ nam s.name = true) : stE s d = restE s d := by
  unfold stE restE
  rw [h1, h2]
  rcases h with h | h
  · rw [h]; rfl
  · rw [h]; simp
set_option maxHeartbeats 8000000 in
set_option maxRecDepth 100000 in
theorem ostmtError_any (s : St) (b i d : Nat) (hd : d ≤ 1000000) (hok : okS s) (w : World) (h : StAt w s b i) :
    Calls Tryd.prog 67 #[.pointer (some ⟨b, i, none⟩), .int .i64 (d : Int)] w fun e' w' => e' = .returned (.int .i64 (stE s d)) ∧ Below w.heap.size w w' := by
  have ho := okS_open hok
  obtain ⟨a1, c1, a2, c2, a3, c3, a4, c4, hcs, hks⟩ := h.open
  have HU := Lib.hid (fun w => oused_any s.op w)
  have HF := Lib.hid (ofills_any s b i a1 c1 a2 c2 a3 c3 a4 c4 ho.bodyLen ho.elsLen w hcs)
  have HM := Lib.hid (omax_any s b i w hcs.k0 hcs.k2)
  have HH1 := Lib.hid (fun w => ohas_any s.op 1 (by omega) w)
  have HH4 := Lib.hid (fun w => ohas_any s.op 4 (by omega) w)
  have HH8 := Lib.hid (fun w => ohas_any s.op 8 (by omega) w)
  have HI : Hid (∀ w, Calls Tryd.prog 37 #[.string s.name] w fun e' w' => e' = .returned (.bool (nam s.name)) ∧ Below w.heap.size w w') := fun w => L.oname_any s.name w
  have HVA := Lib.hid (fun w h => ovalidExpr_any s.a a1 c1 ho.a w h)
  have HVB := Lib.hid (fun w h => ovalidExpr_any s.b a2 c2 ho.b w h)
  have HC := Lib.hid hcs
  have HK := Lib.hid hks
  have hfb := fill_bad s
  obtain ⟨hu1, hu4, hu8, _, _, _, _⟩ := used_bits s.op
  rw [hu1] at HH1
  rw [hu4] at HH4
  rw [hu8] at HH8
  have X1 := Lib.hid (@st_bad s d)
  have X2 := Lib.hid (@st_name s d)
  have X3 := Lib.hid (@st_rest s d)
  have hR : restE s d = _ := rfl
  unfold restE at hR
  rw [show restE s d = (if (uA s.op && !decide (vE s.a 1 = 0)) = true then vE s.a 1 else if (uB s.op && !decide (vE s.b 1 = 0)) = true then vE s.b 1 else if 12 < d then 2 else 0) from rfl] at X3
  clear hR
  have k0 := hcs.k0
  have k1 := hcs.k1
  generalize badS s = BS at X1 X2 X3 hfb
  generalize badM s = BM at X1 X2 X3 HM
  generalize fillB s = FB at HF hfb
  generalize uN s.op = UN at X2 X3 HH1
  generalize uA s.op = UA at X3 HH4
  generalize uB s.op = UB at X3 HH8
  generalize nam s.name = NM at X2 X3 HI
  generalize vE s.a 1 = va at X3 HVA
  generalize vE s.b 1 = vb at X3 HVB
  obtain ⟨z0, hz0⟩ : ∃ z, (usedI s.op == 0) = z := ⟨_, rfl⟩
  rw [hz0] at hfb
  have HFB := Lib.hid hfb
  have HBc := Lib.hid (Below.refl w.heap.size w)
  generalize stE s d = R at X1 X2 X3 ⊢
  generalize usedI s.op = uu at HU HF HH1 HH4 HH8 hz0
  clear ho hok h hcs hks hfb hu1 hu4 hu8
  unfold exV at HVA HVB
  go_enter Tryd.func67, Tryd.ntmps67
  go_wp2_with fail
  refine (HU.out _).mono ?_; rintro e' w1 ⟨rfl, rfl⟩
  cases z0
  case true =>
    have HV : Hid (R = 1) := X1.out (Or.inl (by rw [← HFB.out]; rfl))
    go_wp2_with fail
    go_ret
    exact ⟨ret_int HV.out.symm, HBc.out⟩
  go_wp2_with fail
  refine HF.out.mono ?_; rintro e' w2 ⟨rfl, rfl⟩
  cases FB
  case true =>
    have HV : Hid (R = 1) := X1.out (Or.inl (by rw [← HFB.out]; rfl))
    go_wp2_with fail
    go_ret
    exact ⟨ret_int HV.out.symm, HBc.out⟩
  obtain rfl : BS = false := by rw [← HFB.out]; rfl
  go_wp2_with fail
  refine HM.out.mono ?_; rintro e' w3 ⟨rfl, rfl⟩
  cases BM
  case true =>
    have HV : Hid (R = 1) := X1.out (by simp)
    go_wp2_with fail
    go_ret
    exact ⟨ret_int HV.out.symm, HBc.out⟩
  go_wp2_with fail
  refine (HH1.out _).mono ?_; rintro e' w4 ⟨rfl, rfl⟩
  cases UN
  · have HRA := Lib.hid (X3.out (by trivial) (by trivial) (by simp))
    go_wp2_with fail
    refine (HH4.out _).mono ?_; rintro e' w5 ⟨rfl, rfl⟩
    cases UA
    · have HRB : Hid (R = if (UB && !decide (vb = 0)) = true then vb else if 12 < d then 2 else 0) := by show _ = _; rw [HRA.out]; rfl
      go_wp2_with fail
      refine (HH8.out _).mono ?_; rintro e' w5 ⟨rfl, rfl⟩
      cases UB
      · have HR : Hid (R = if 12 < d then 2 else 0) := by show _ = _; rw [HRB.out]; rfl
        by_cases hd12 : 12 < d
        · have bd : decide (12 < (d : Int)) = true := decide_eq_true (by omega)
          have HV : Hid (R = 2) := by show _ = _; rw [HR.out, if_pos hd12]
          clear hd12
          go_wp2_with fail
          go_ret
          exact ⟨ret_int HV.out.symm, HBc.out⟩
        · have bd : decide (12 < (d : Int)) = false := decide_eq_false (by omega)
          have HV : Hid (R = 0) := by show _ = _; rw [HR.out, if_neg hd12]
          clear hd12
          go_wp2_with fail
          go_ret
          exact ⟨ret_int HV.out.symm, HBc.out⟩
      · obtain ⟨_, _, _, _, _, _, _, m7, m8, m9, m10, _, _⟩ := HC.out.below HBc.out
        go_wp2_with fail
        refine (HVB.out _ (HK.out.below HBc.out).b).mono ?_; rintro e' w6 ⟨rfl, hb⟩
        have HBc := Lib.hid (below_2 HBc.out hb)
        clear hb m7 m8 m9 m10
        by_cases hvb : vb = 0
        · have bb : (vb != 0) = false := by rw [bne_eq_false_iff_eq]; exact hvb
          have HR : Hid (R = if 12 < d then 2 else 0) := by show _ = _; rw [HRB.out, hvb]; rfl
          clear hvb
          by_cases hd12 : 12 < d
          · have bd : decide (12 < (d : Int)) = true := decide_eq_true (by omega)
            have HV : Hid (R = 2) := by show _ = _; rw [HR.out, if_pos hd12]
            clear hd12
            go_wp2_with fail
            go_ret
            exact ⟨ret_int HV.out.symm, HBc.out⟩
          · have bd : decide (12 < (d : Int)) = false := decide_eq_false (by omega)
            have HV : Hid (R = 0) := by show _ = _; rw [HR.out, if_neg hd12]
            clear hd12
            go_wp2_with fail
            go_ret
            exact ⟨ret_int HV.out.symm, HBc.out⟩
        · have bb : (vb != 0) = true := bne_iff_ne.2 hvb
          have HV : Hid (R = vb) := by show _ = _; rw [HRB.out, decide_eq_false hvb]; rfl
          clear hvb
          go_wp2_with fail
          go_ret
          exact ⟨ret_int HV.out.symm, HBc.out⟩
    · obtain ⟨_, _, _, m3, m4, m5, m6, _, _, _, _, _, _⟩ := HC.out.below HBc.out
      go_wp2_with fail
      refine (HVA.out _ (HK.out.below HBc.out).a).mono ?_; rintro e' w6 ⟨rfl, hb⟩
      have HBc := Lib.hid (below_2 HBc.out hb)
      clear hb m3 m4 m5 m6
      by_cases hva : va = 0
      · have ba : (va != 0) = false := by rw [bne_eq_false_iff_eq]; exact hva
        have HRB : Hid (R = if (UB && !decide (vb = 0)) = true then vb else if 12 < d then 2 else 0) := by show _ = _; rw [HRA.out, hva]; rfl
        clear hva
        go_wp2_with fail
        refine (HH8.out _).mono ?_; rintro e' w5 ⟨rfl, rfl⟩
        cases UB
        · have HR : Hid (R = if 12 < d then 2 else 0) := by show _ = _; rw [HRB.out]; rfl
          by_cases hd12 : 12 < d
          · have bd : decide (12 < (d : Int)) = true := decide_eq_true (by omega)
            have HV : Hid (R = 2) := by show _ = _; rw [HR.out, if_pos hd12]
            clear hd12
            go_wp2_with fail
            go_ret
            exact ⟨ret_int HV.out.symm, HBc.out⟩
          · have bd : decide (12 < (d : Int)) = false := decide_eq_false (by omega)
            have HV : Hid (R = 0) := by show _ = _; rw [HR.out, if_neg hd12]
            clear hd12
            go_wp2_with fail
            go_ret
            exact ⟨ret_int HV.out.symm, HBc.out⟩
        · obtain ⟨_, _, _, _, _, _, _, m7, m8, m9, m10, _, _⟩ := HC.out.below HBc.out
          go_wp2_with fail
          refine (HVB.out _ (HK.out.below HBc.out).b).mono ?_; rintro e' w6 ⟨rfl, hb⟩
          have HBc := Lib.hid (below_2 HBc.out hb)
          clear hb m7 m8 m9 m10
          by_cases hvb : vb = 0
          · have bb : (vb != 0) = false := by rw [bne_eq_false_iff_eq]; exact hvb
            have HR : Hid (R = if 12 < d then 2 else 0) := by show _ = _; rw [HRB.out, hvb]; rfl
            clear hvb
            by_cases hd12 : 12 < d
            · have bd : decide (12 < (d : Int)) = true := decide_eq_true (by omega)
              have HV : Hid (R = 2) := by show _ = _; rw [HR.out, if_pos hd12]
              clear hd12
              go_wp2_with fail
              go_ret
              exact ⟨ret_int HV.out.symm, HBc.out⟩
            · have bd : decide (12 < (d : Int)) = false := decide_eq_false (by omega)
              have HV : Hid (R = 0) := by show _ = _; rw [HR.out, if_neg hd12]
              clear hd12
              go_wp2_with fail
              go_ret
              exact ⟨ret_int HV.out.symm, HBc.out⟩
          · have bb : (vb != 0) = true := bne_iff_ne.2 hvb
            have HV : Hid (R = vb) := by show _ = _; rw [HRB.out, decide_eq_false hvb]; rfl
            clear hvb
            go_wp2_with fail
            go_ret
            exact ⟨ret_int HV.out.symm, HBc.out⟩
      · have ba : (va != 0) = true := bne_iff_ne.2 hva
        have HV : Hid (R = va) := by show _ = _; rw [HRA.out, decide_eq_false hva]; rfl
        clear hva
        go_wp2_with fail
        go_ret
        exact ⟨ret_int HV.out.symm, HBc.out⟩
  · go_wp2_with fail
    refine (HI.out _).mono ?_; rintro e' w5 ⟨rfl, hb⟩
    have HBc := Lib.hid (below_2 HBc.out hb)
    clear hb k0 k1
    cases NM
    · have HV : Hid (R = 7) := X2.out (by trivial) (by trivial) (by trivial) (by trivial)
      go_wp2_with fail
      go_ret
      exact ⟨ret_int HV.out.symm, HBc.out⟩
    · have HRA := Lib.hid (X3.out (by trivial) (by trivial) (by simp))
      go_wp2_with fail
      refine (HH4.out _).mono ?_; rintro e' w5 ⟨rfl, rfl⟩
      cases UA
      · have HRB : Hid (R = if (UB && !decide (vb = 0)) = true then vb else if 12 < d then 2 else 0) := by show _ = _; rw [HRA.out]; rfl
        go_wp2_with fail
        refine (HH8.out _).mono ?_; rintro e' w5 ⟨rfl, rfl⟩
        cases UB
        · have HR : Hid (R = if 12 < d then 2 else 0) := by show _ = _; rw [HRB.out]; rfl
          by_cases hd12 : 12 < d
          · have bd : decide (12 < (d : Int)) = true := decide_eq_true (by omega)
            have HV : Hid (R = 2) := by show _ = _; rw [HR.out, if_pos hd12]
            clear hd12
            go_wp2_with fail
            go_ret
            exact ⟨ret_int HV.out.symm, HBc.out⟩
          · have bd : decide (12 < (d : Int)) = false := decide_eq_false (by omega)
            have HV : Hid (R = 0) := by show _ = _; rw [HR.out, if_neg hd12]
            clear hd12
            go_wp2_with fail
            go_ret
            exact ⟨ret_int HV.out.symm, HBc.out⟩
        · obtain ⟨_, _, _, _, _, _, _, m7, m8, m9, m10, _, _⟩ := HC.out.below HBc.out
          go_wp2_with fail
          refine (HVB.out _ (HK.out.below HBc.out).b).mono ?_; rintro e' w6 ⟨rfl, hb⟩
          have HBc := Lib.hid (below_2 HBc.out hb)
          clear hb m7 m8 m9 m10
          by_cases hvb : vb = 0
          · have bb : (vb != 0) = false := by rw [bne_eq_false_iff_eq]; exact hvb
            have HR : Hid (R = if 12 < d then 2 else 0) := by show _ = _; rw [HRB.out, hvb]; rfl
            clear hvb
            by_cases hd12 : 12 < d
            · have bd : decide (12 < (d : Int)) = true := decide_eq_true (by omega)
              have HV : Hid (R = 2) := by show _ = _; rw [HR.out, if_pos hd12]
              clear hd12
              go_wp2_with fail
              go_ret
              exact ⟨ret_int HV.out.symm, HBc.out⟩
            · have bd : decide (12 < (d : Int)) = false := decide_eq_false (by omega)
              have HV : Hid (R = 0) := by show _ = _; rw [HR.out, if_neg hd12]
              clear hd12
              go_wp2_with fail
              go_ret
              exact ⟨ret_int HV.out.symm, HBc.out⟩
          · have bb : (vb != 0) = true := bne_iff_ne.2 hvb
            have HV : Hid (R = vb) := by show _ = _; rw [HRB.out, decide_eq_false hvb]; rfl
            clear hvb
            go_wp2_with fail
            go_ret
            exact ⟨ret_int HV.out.symm, HBc.out⟩
      · obtain ⟨_, _, _, m3, m4, m5, m6, _, _, _, _, _, _⟩ := HC.out.below HBc.out
        go_wp2_with fail
        refine (HVA.out _ (HK.out.below HBc.out).a).mono ?_; rintro e' w6 ⟨rfl, hb⟩
        have HBc := Lib.hid (below_2 HBc.out hb)
        clear hb m3 m4 m5 m6
        by_cases hva : va = 0
        · have ba : (va != 0) = false := by rw [bne_eq_false_iff_eq]; exact hva
          have HRB : Hid (R = if (UB && !decide (vb = 0)) = true then vb else if 12 < d then 2 else 0) := by show _ = _; rw [HRA.out, hva]; rfl
          clear hva
          go_wp2_with fail
          refine (HH8.out _).mono ?_; rintro e' w5 ⟨rfl, rfl⟩
          cases UB
          · have HR : Hid (R = if 12 < d then 2 else 0) := by show _ = _; rw [HRB.out]; rfl
            by_cases hd12 : 12 < d
            · have bd : decide (12 < (d : Int)) = true := decide_eq_true (by omega)
              have HV : Hid (R = 2) := by show _ = _; rw [HR.out, if_pos hd12]
              clear hd12
              go_wp2_with fail
              go_ret
              exact ⟨ret_int HV.out.symm, HBc.out⟩
            · have bd : decide (12 < (d : Int)) = false := decide_eq_false (by omega)
              have HV : Hid (R = 0) := by show _ = _; rw [HR.out, if_neg hd12]
              clear hd12
              go_wp2_with fail
              go_ret
              exact ⟨ret_int HV.out.symm, HBc.out⟩
          · obtain ⟨_, _, _, _, _, _, _, m7, m8, m9, m10, _, _⟩ := HC.out.below HBc.out
            go_wp2_with fail
            refine (HVB.out _ (HK.out.below HBc.out).b).mono ?_; rintro e' w6 ⟨rfl, hb⟩
            have HBc := Lib.hid (below_2 HBc.out hb)
            clear hb m7 m8 m9 m10
            by_cases hvb : vb = 0
            · have bb : (vb != 0) = false := by rw [bne_eq_false_iff_eq]; exact hvb
              have HR : Hid (R = if 12 < d then 2 else 0) := by show _ = _; rw [HRB.out, hvb]; rfl
              clear hvb
              by_cases hd12 : 12 < d
              · have bd : decide (12 < (d : Int)) = true := decide_eq_true (by omega)
                have HV : Hid (R = 2) := by show _ = _; rw [HR.out, if_pos hd12]
                clear hd12
                go_wp2_with fail
                go_ret
                exact ⟨ret_int HV.out.symm, HBc.out⟩
              · have bd : decide (12 < (d : Int)) = false := decide_eq_false (by omega)
                have HV : Hid (R = 0) := by show _ = _; rw [HR.out, if_neg hd12]
                clear hd12
                go_wp2_with fail
                go_ret
                exact ⟨ret_int HV.out.symm, HBc.out⟩
            · have bb : (vb != 0) = true := bne_iff_ne.2 hvb
              have HV : Hid (R = vb) := by show _ = _; rw [HRB.out, decide_eq_false hvb]; rfl
              clear hvb
              go_wp2_with fail
              go_ret
              exact ⟨ret_int HV.out.symm, HBc.out⟩
        · have ba : (va != 0) = true := bne_iff_ne.2 hva
          have HV : Hid (R = va) := by show _ = _; rw [HRA.out, decide_eq_false hva]; rfl
          clear hva
          go_wp2_with fail
          go_ret
          exact ⟨ret_int HV.out.symm, HBc.out⟩
end Go.Proofs.YtkjefigebdbkaaaDoor.A.UB
namespace Go.Proofs.YtkjefigebdbkaaaDoor.A.UB
open Go.RowKit
open L (Str isName prt size_len below_2 below_box ret_bool ret_int eql_eq bytes_eq)

set_option maxHeartbeats 2000000 in
set_option maxRecDepth 100000 in
theorem visV {w0 : World} {B : Nat} (hB : w0.heap.size ≤ B) : VisV ⟨B, 0, none⟩ gV w0 (Jb B (fun z => .int .i64 z)) := by
  refine ⟨fun n X z u ps pe w _ hX hJ hb0 hat hok => ?_, Jb.keep, Jb.wide, Jb.narrow⟩
  have hw := below_box w (.cells #[.pointer ps, .pointer pe, .int .i64 (u.d : Int)] 111)
  cases u with
  | st s d =>
    obtain ⟨b, i, rfl, rfl, hat⟩ := hat
    simp only [U.d] at *
    have hs : StAt (w.alloc (.cells #[.pointer (some ⟨b, i, none⟩), .pointer none, .int .i64 (d : Int)] 111)) s b i := (hat.below hb0).below hw
    have hd : d ≤ 1000000 := by have := hok.2; omega
    have HC := Lib.hid (ostmtError_any s b i d hd hok.1 _ hs)
    have HP : Hid (∀ w2, Below (w.alloc (.cells #[.pointer (some ⟨b, i, none⟩), .pointer none, .int .i64 (d : Int)] 111)).heap.size (w.alloc (.cells #[.pointer (some ⟨b, i, none⟩), .pointer none, .int .i64 (d : Int)] 111)) w2 → ∀ z2 : Int,
      Jb B (fun z => .int .i64 z) (n + 1) X z2 (w2.setCell ⟨B, 0, none⟩ (.int .i64 z2)) ∧ Below w0.heap.size w (w2.setCell ⟨B, 0, none⟩ (.int .i64 z2)) ∧ ∀ k, X k → (w2.setCell ⟨B, 0, none⟩ (.int .i64 z2)).heap[k]? = w.heap[k]?) := fun w2 hb z2 => Jb.store (m := n + 1) (s2 := z2) hX hB hJ (below_2 hw hb) hb0.size
    have HJ1 := Lib.hid (hJ.1.later hw)
    have HV : Hid (gV z (.st s d) = (stE s d, (stE s d == 0))) := by
      show (stE s d, decide (stE s d = 0)) = _
      rw [Bool.beq_eq_decide_eq]
    rw [HV.out]
    generalize stE s d = x at HC ⊢
    unfold nodeV
    clear hw hJ hb0 HV hX hok hat hs
    go_enter Tryd.func66, Tryd.ntmps66
    go_wp2_with fail
    refine HC.out.mono ?_; rintro e' w2 ⟨rfl, hb⟩
    obtain ⟨n1, n2, n3⟩ := HJ1.out.later hb
    have HP2 := Lib.hid (HP.out w2 hb x)
    clear hb
    go_wp2_with fail
    go_ret
    exact ⟨rfl, HP2.out⟩
  | ex e d =>
    obtain ⟨b, i, rfl, rfl, _⟩ := hat
    have HP := Lib.hid (Jb.same (m := n + 1) hX hJ hw hb0.size)
    have HV : Hid (gV z (.ex e d) = (z, (z == 0))) := by
      show (z, decide (z = 0)) = _
      rw [Bool.beq_eq_decide_eq]
    rw [HV.out]
    have n0 := hJ.1.cell
    have n2 := (hJ.1.later hw).cell
    unfold nodeV
    simp only [U.d] at *
    clear hw hJ hb0 hX hok HV
    go_enter Tryd.func66, Tryd.ntmps66
    go_wp2_with fail
    go_ret
    exact ⟨rfl, HP.out⟩
theorem val_cases (p : Pr) : valE p = if nam p.name = false then 7 else if parE p.params ≠ 0 then parE p.params else if firstE (walk p) ≠ 0 then firstE (walk p) else if 400 < nodes p then 2 else 0 := rfl
set_option maxHeartbeats 4000000 in
set_option maxRecDepth 100000 in
theorem ovalidate_any (p : Pr) (a1 a2 : Option Addr) (c1 c2 : Nat) (hok : OkP p) (hc1 : p.params.length ≤ c1) (w : World) (hK : PrIn w p a1 a2) :
    Calls Tryd.prog 36 #[prV p a1 c1 a2 c2] w fun e' w' => e' = .returned (.int .i64 (valE p)) ∧ Below w.heap.size w w' := by
  have hw := below_box w (prO p a1 c1 a2 c2)
  have HBL := Lib.hid (fun w' hb => proc_later (w := w) (w' := w') (p := p) (a1 := a1) (a2 := a2) (c1 := c1) (c2 := c2) hb)
  have HI : Hid (∀ w, Calls Tryd.prog 37 #[.string p.name] w fun e' w' => e' = .returned (.bool (nam p.name)) ∧ Below w.heap.size w w') := fun w => L.oname_any p.name w
  have HPE := Lib.hid (fun w' h => oparamsError_any p.params a1 c1 hok.params w' hc1 h)
  have HN := Lib.hid (fun w' h => onodes_any p a1 a2 c1 c2 hok.body hok.bodyLen w' h)
  have HWK := Lib.hid (fun (B : Nat) (hB : (w.alloc (prO p a1 c1 a2 c2)).heap.size ≤ B) (z : Int) (w' : World) (hJ : Jb B (fun z => .int .i64 z) 0 (fun _ => False) z w') (hb : Below (w.alloc (prO p a1 c1 a2 c2)).heap.size (w.alloc (prO p a1 c1 a2 c2)) w') => owalkV_any (visV (w0 := w.alloc (prO p a1 c1 a2 c2)) hB) p a1 c1 a2 c2 hok.body hok.bodyLen (hK.below hw).body z w' hJ hb)
  have HK := Lib.hid hK
  have HW := Lib.hid hw
  have hv := val_cases p
  have hfr := first_run p
  generalize valE p = R at hv ⊢
  have HV := Lib.hid hv
  have HFR := Lib.hid hfr
  clear hv hfr hw hK hok hc1
  unfold prO at HBL HW HWK
  unfold prV at *
  generalize nam p.name = nm at HI HV
  cases nm
  · have HR : Hid (R = 7) := by show _ = _; rw [HV.out, if_pos rfl]
    go_enter Tryd.func36, Tryd.ntmps36
    go_wp2_with fail
    refine (HI.out _).mono ?_; rintro e w2 ⟨rfl, hb2⟩
    have HB2 := Lib.hid (below_2 HW.out hb2)
    clear hb2
    go_wp2_with fail
    go_ret
    exact ⟨ret_int HR.out.symm, HB2.out⟩
  · go_enter Tryd.func36, Tryd.ntmps36
    go_wp2_with fail
    refine (HI.out _).mono ?_; rintro e w2 ⟨rfl, hb2⟩
    have HBX := Lib.hid hb2
    clear hb2
    obtain ⟨j0, j1, j2⟩ := HBL.out _ HBX.out
    go_wp2_with fail
    refine (HPE.out _ (HK.out.below (below_2 HW.out HBX.out)).params).mono ?_; rintro e w3 ⟨rfl, hb3⟩
    have HBX := Lib.hid (below_2 HBX.out hb3)
    clear hb3 j0 j1 j2
    by_cases hp : parE p.params = 0
    · rw [hp]
      obtain ⟨j0, j1, j2⟩ := HBL.out _ HBX.out
      have hB := HBX.out.size
      have hC := HWK.out w3.heap.size hB 0 (w3.alloc (.cells #[.int .i64 0] 32)) ⟨cell1_at rfl, fun h => h⟩ (HBX.out.trans ((below_box w3 _).mono hB))
      rw [HFR.out] at hC
      have HC := Lib.hid hC
      have HBA := Lib.hid (below_2 HBX.out (below_box w3 (.cells #[.int .i64 0] 32)))
      obtain ⟨i0, i1, i2⟩ := HBL.out _ HBA.out
      have HR2 : Hid (R = if firstE (walk p) ≠ 0 then firstE (walk p) else if 400 < nodes p then 2 else 0) := by show _ = _; rw [HV.out, if_neg (by decide), if_neg (fun h => h hp)]
      clear hC hp hB j0 j1 j2
      generalize firstE (walk p) = f at HC HR2
      go_wp2_with fail
      refine HC.out.mono ?_; rintro e w4 ⟨rfl, ⟨_, hj, _⟩, hb4⟩
      have n0 := hj.cell
      have HJ4 := Lib.hid hj
      have HB4 := Lib.hid (HBA.out.trans hb4)
      clear hj hb4 i0 i1 i2
      obtain ⟨i0, i1, i2⟩ := HBL.out _ HB4.out
      by_cases hf : f = 0
      · have bf : (f == 0) = true := beq_iff_eq.2 hf
        have HR3 : Hid (R = if 400 < nodes p then 2 else 0) := by show _ = _; rw [HR2.out, if_neg (fun h => h hf)]
        have HF : Hid (f = 0) := hf
        clear hf
        go_wp2_with fail
        refine (HN.out _ (HK.out.below (below_2 HW.out HB4.out)).body).mono ?_; rintro e w5 ⟨rfl, hb5⟩
        have n5 := (HJ4.out.later hb5).cell
        have HB5 := Lib.hid (below_2 HW.out (below_2 HB4.out hb5))
        clear hb5
        by_cases h4 : 400 < nodes p
        · have b4 : decide (400 < (nodes p : Int)) = true := decide_eq_true (by omega)
          have HR : Hid (R = 2) := by show _ = _; rw [HR3.out, if_pos h4]
          clear h4
          go_wp2_with fail
          go_ret
          exact ⟨ret_int HR.out.symm, HB5.out⟩
        · have b4 : decide (400 < (nodes p : Int)) = false := decide_eq_false (by omega)
          have HR : Hid (R = f) := by show _ = _; rw [HR3.out, if_neg h4, HF.out]
          clear h4
          go_wp2_with fail
          go_ret
          exact ⟨ret_int HR.out.symm, HB5.out⟩
      · have bf : (f == 0) = false := beq_eq_false_iff_ne.2 hf
        have HR : Hid (R = f) := by show _ = _; rw [HR2.out, if_pos hf]
        have HB5 := Lib.hid (below_2 HW.out HB4.out)
        clear hf
        go_wp2_with fail
        go_ret
        exact ⟨ret_int HR.out.symm, HB5.out⟩
    · have bp : (parE p.params != 0) = true := bne_iff_ne.2 hp
      have HR : Hid (R = parE p.params) := by show _ = _; rw [HV.out, if_neg (by decide), if_pos hp]
      have HB5 := Lib.hid (below_2 (below_2 HW.out HBX.out) (below_box w3 (.cells #[.int .i64 (parE p.params)] 32)))
      clear hp
      go_wp2_with fail
      go_ret
      exact ⟨ret_int HR.out.symm, HB5.out⟩
end Go.Proofs.YtkjefigebdbkaaaDoor.A.UB
