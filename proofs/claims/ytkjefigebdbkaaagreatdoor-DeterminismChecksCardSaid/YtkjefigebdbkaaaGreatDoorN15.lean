/-
  What the program's function stmtError of layer 8 returns: its contract.
  What the program's function Validate of layer 8 returns: its contract.
  What the reference of layer 8 returns: Validate: a contract (over stmt's).
-/
import Derived.Test.YtkjefigebdbkaaaGreatDoorN09
import Derived.Test.YtkjefigebdbkaaaGreatDoorN14
import Derived.Test.YtkjefigebdbkaaaGreatDoorN10
import Derived.Test.YtkjefigebdbkaaaGreatDoorN08
import Derived.Deep.RegionLaw
namespace Go.Proofs.YtkjefigebdbkaaaGreatDoor.A.UB
open Go.RowKit
open L (Str isName prt size_len below_2 below_box ret_bool ret_int eql_eq bytes_eq)

theorem st_bad {s : St} {d : Nat} (h : badS s = true ∨ badM s = true) : stE s d = 1 := by
  unfold stE
  rcases h with h | h
  · rw [if_pos h]
  · rw [h]; split <;> rfl
theorem st_name {s : St} {d : Nat} (h1 : badS s = false) (h2 : badM s = false) (h : uN s.op = true) (h3 : nam s.name = false) : stE s d = 7 := by
  unfold stE
  rw [h1, h2, h, h3]; rfl
def restE (s : St) (d : Nat) : Int := if (uA s.op && !decide (vE s.a 1 = 0)) = true then vE s.a 1 else if (uB s.op && !decide (vE s.b 1 = 0)) = true then vE s.b 1 else if 12 < d then 2 else 0
theorem st_rest {s : St} {d : Nat} (h1 : badS s = false) (h2 : badM s = false) (h : uN s.op = false ∨ nam s.name = true) : stE s d = restE s d := by
  unfold stE restE
  rw [h1, h2]
  rcases h with h | h
  · rw [h]; rfl
  · rw [h]; simp
set_option maxHeartbeats 8000000 in
set_option maxRecDepth 100000 in
theorem ostmtError_any (s : St) (b i d : Nat) (hd : d ≤ 1000000) (hok : okS s) (w : World) (h : StAt w s b i) :
    Calls Tryz.prog 40 #[.pointer (some ⟨b, i, none⟩), .int .i64 (d : Int)] w fun e' w' => e' = .returned (.int .i64 (stE s d)) ∧ Below w.heap.size w w' := by
  have ho := okS_open hok
  obtain ⟨a1, c1, a2, c2, a3, c3, a4, c4, hcs, hks⟩ := h.open
  have HU := Lib.hid (fun w => oused_any s.op w)
  have HF := Lib.hid (ofills_any s b i a1 c1 a2 c2 a3 c3 a4 c4 ho.bodyLen ho.elsLen w hcs)
  have HM := Lib.hid (omax_any s b i w hcs.k0 hcs.k2)
  have HH1 := Lib.hid (fun w => ohas_any s.op 1 (by omega) w)
  have HH4 := Lib.hid (fun w => ohas_any s.op 4 (by omega) w)
  have HH8 := Lib.hid (fun w => ohas_any s.op 8 (by omega) w)
  have HI : Hid (∀ w, Calls Tryz.prog 36 #[.string s.name] w fun e' w' => e' = .returned (.bool (nam s.name)) ∧ Below w.heap.size w w') := fun w => L.oname_any s.name w
  have HVA := Lib.hid (fun w h => ovalidExpr_any s.a a1 c1 ho.a w h)
  have HVB := Lib.hid (fun w h => ovalidExpr_any s.b a2 c2 ho.b w h)
  have HC := Lib.hid hcs
  have HK := Lib.hid hks
  have hfb := fill_bad s
  obtain ⟨hu1, hu4, hu8, _, _, _, _⟩ := used_bits s.op
  rw [hu1] at HH1
  rw [hu4] at HH4
  rw [hu8] at HH8
  have X1 := Lib.hid (@st_bad s d)
  have X2 := Lib.hid (@st_name s d)
  have X3 := Lib.hid (@st_rest s d)
  have hR : restE s d = _ := rfl
  unfold restE at hR
  rw [show restE s d = (if (uA s.op && !decide (vE s.a 1 = 0)) = true then vE s.a 1 else if (uB s.op && !decide (vE s.b 1 = 0)) = true then vE s.b 1 else if 12 < d then 2 else 0) from rfl] at X3
  clear hR
  have k0 := hcs.k0
  have k1 := hcs.k1
  generalize badS s = BS at X1 X2 X3 hfb
  generalize badM s = BM at X1 X2 X3 HM
  generalize fillB s = FB at HF hfb
  generalize uN s.op = UN at X2 X3 HH1
  generalize uA s.op = UA at X3 HH4
  generalize uB s.op = UB at X3 HH8
  generalize nam s.name = NM at X2 X3 HI
  generalize vE s.a 1 = va at X3 HVA
  generalize vE s.b 1 = vb at X3 HVB
  obtain ⟨z0, hz0⟩ : ∃ z, (usedI s.op == 0) = z := ⟨_, rfl⟩
  rw [hz0] at hfb
  have HFB := Lib.hid hfb
  have HBc := Lib.hid (Below.refl w.heap.size w)
  generalize stE s d = R at X1 X2 X3 ⊢
  generalize usedI s.op = uu at HU HF HH1 HH4 HH8 hz0
  clear ho hok h hcs hks hfb hu1 hu4 hu8
  unfold exV at HVA HVB
  go_enter Tryz.func40, Tryz.ntmps40
  go_wp2_with fail
  refine (HU.out _).mono ?_; rintro e' w1 ⟨rfl, rfl⟩
  cases z0
  case true =>
    have HV : Hid (R = 1) := X1.out (Or.inl (by rw [← HFB.out]; rfl))
    go_wp2_with fail
    go_ret
    exact ⟨ret_int HV.out.symm, HBc.out⟩
  go_wp2_with fail
  refine HF.out.mono ?_; rintro e' w2 ⟨rfl, rfl⟩
  cases FB
  case true =>
    have HV : Hid (R = 1) := X1.out (Or.inl (by rw [← HFB.out]; rfl))
    go_wp2_with fail
    go_ret
    exact ⟨ret_int HV.out.symm, HBc.out⟩
  obtain rfl : BS = false := by rw [← HFB.out]; rfl
  go_wp2_with fail
  refine HM.out.mono ?_; rintro e' w3 ⟨rfl, rfl⟩
  cases BM
  case true =>
    have HV : Hid (R = 1) := X1.out (by simp)
    go_wp2_with fail
    go_ret
    exact ⟨ret_int HV.out.symm, HBc.out⟩
  go_wp2_with fail
  refine (HH1.out _).mono ?_; rintro e' w4 ⟨rfl, rfl⟩
  cases UN
  · have HRA := Lib.hid (X3.out (by trivial) (by trivial) (by simp))
    go_wp2_with fail
    refine (HH4.out _).mono ?_; rintro e' w5 ⟨rfl, rfl⟩
    cases UA
    · have HRB : Hid (R = if (UB && !decide (vb = 0)) = true then vb else if 12 < d then 2 else 0) := by show _ = _; rw [HRA.out]; rfl
      go_wp2_with fail
      refine (HH8.out _).mono ?_; rintro e' w5 ⟨rfl, rfl⟩
      cases UB
      · have HR : Hid (R = if 12 < d then 2 else 0) := by show _ = _; rw [HRB.out]; rfl
        by_cases hd12 : 12 < d
        · have bd : decide (12 < (d : Int)) = true := decide_eq_true (by omega)
          have HV : Hid (R = 2) := by show _ = _; rw [HR.out, if_pos hd12]
          clear hd12
          go_wp2_with fail
          go_ret
          exact ⟨ret_int HV.out.symm, HBc.out⟩
        · have bd : decide (12 < (d : Int)) = false := decide_eq_false (by omega)
          have HV : Hid (R = 0) := by show _ = _; rw [HR.out, if_neg hd12]
          clear hd12
          go_wp2_with fail
          go_ret
          exact ⟨ret_int HV.out.symm, HBc.out⟩
      · obtain ⟨_, _, _, _, _, _, _, m7, m8, m9, m10, _, _⟩ := HC.out.below HBc.out
        go_wp2_with fail
        refine (HVB.out _ (HK.out.below HBc.out).b).mono ?_; rintro e' w6 ⟨rfl, hb⟩
        have HBc := Lib.hid (below_2 HBc.out hb)
        clear hb m7 m8 m9 m10
        by_cases hvb : vb = 0
        · have bb : (vb != 0) = false := by rw [bne_eq_false_iff_eq]; exact hvb
          have HR : Hid (R = if 12 < d then 2 else 0) := by show _ = _; rw [HRB.out, hvb]; rfl
          clear hvb
          by_cases hd12 : 12 < d
          · have bd : decide (12 < (d : Int)) = true := decide_eq_true (by omega)
            have HV : Hid (R = 2) := by show _ = _; rw [HR.out, if_pos hd12]
            clear hd12
            go_wp2_with fail
            go_ret
            exact ⟨ret_int HV.out.symm, HBc.out⟩
          · have bd : decide (12 < (d : Int)) = false := decide_eq_false (by omega)
            have HV : Hid (R = 0) := by show _ = _; rw [HR.out, if_neg hd12]
            clear hd12
            go_wp2_with fail
            go_ret
            exact ⟨ret_int HV.out.symm, HBc.out⟩
        · have bb : (vb != 0) = true := bne_iff_ne.2 hvb
          have HV : Hid (R = vb) := by show _ = _; rw [HRB.out, decide_eq_false hvb]; rfl
          clear hvb
          go_wp2_with fail
          go_ret
          exact ⟨ret_int HV.out.symm, HBc.out⟩
    · obtain ⟨_, _, _, m3, m4, m5, m6, _, _, _, _, _, _⟩ := HC.out.below HBc.out
      go_wp2_with fail
      refine (HVA.out _ (HK.out.below HBc.out).a).mono ?_; rintro e' w6 ⟨rfl, hb⟩
      have HBc := Lib.hid (below_2 HBc.out hb)
      clear hb m3 m4 m5 m6
      by_cases hva : va = 0
      · have ba : (va != 0) = false := by rw [bne_eq_false_iff_eq]; exact hva
        have HRB : Hid (R = if (UB && !decide (vb = 0)) = true then vb else if 12 < d then 2 else 0) := by show _ = _; rw [HRA.out, hva]; rfl
        clear hva
        go_wp2_with fail
        refine (HH8.out _).mono ?_; rintro e' w5 ⟨rfl, rfl⟩
        cases UB
        · have HR : Hid (R = if 12 < d then 2 else 0) := by show _ = _; rw [HRB.out]; rfl
          by_cases hd12 : 12 < d
          · have bd : decide (12 < (d : Int)) = true := decide_eq_true (by omega)
            have HV : Hid (R = 2) := by show _ = _; rw [HR.out, if_pos hd12]
            clear hd12
            go_wp2_with fail
            go_ret
            exact ⟨ret_int HV.out.symm, HBc.out⟩
          · have bd : decide (12 < (d : Int)) = false := decide_eq_false (by omega)
            have HV : Hid (R = 0) := by show _ = _; rw [HR.out, if_neg hd12]
            clear hd12
            go_wp2_with fail
            go_ret
            exact ⟨ret_int HV.out.symm, HBc.out⟩
        · obtain ⟨_, _, _, _, _, _, _, m7, m8, m9, m10, _, _⟩ := HC.out.below HBc.out
          go_wp2_with fail
          refine (HVB.out _ (HK.out.below HBc.out).b).mono ?_; rintro e' w6 ⟨rfl, hb⟩
          have HBc := Lib.hid (below_2 HBc.out hb)
          clear hb m7 m8 m9 m10
          by_cases hvb : vb = 0
          · have bb : (vb != 0) = false := by rw [bne_eq_false_iff_eq]; exact hvb
            have HR : Hid (R = if 12 < d then 2 else 0) := by show _ = _; rw [HRB.out, hvb]; rfl
            clear hvb
            by_cases hd12 : 12 < d
            · have bd : decide (12 < (d : Int)) = true := decide_eq_true (by omega)
              have HV : Hid (R = 2) := by show _ = _; rw [HR.out, if_pos hd12]
              clear hd12
              go_wp2_with fail
              go_ret
              exact ⟨ret_int HV.out.symm, HBc.out⟩
            · have bd : decide (12 < (d : Int)) = false := decide_eq_false (by omega)
              have HV : Hid (R = 0) := by show _ = _; rw [HR.out, if_neg hd12]
              clear hd12
              go_wp2_with fail
              go_ret
              exact ⟨ret_int HV.out.symm, HBc.out⟩
          · have bb : (vb != 0) = true := bne_iff_ne.2 hvb
            have HV : Hid (R = vb) := by show _ = _; rw [HRB.out, decide_eq_false hvb]; rfl
            clear hvb
            go_wp2_with fail
            go_ret
            exact ⟨ret_int HV.out.symm, HBc.out⟩
      · have ba : (va != 0) = true := bne_iff_ne.2 hva
        have HV : Hid (R = va) := by show _ = _; rw [HRA.out, decide_eq_false hva]; rfl
        clear hva
        go_wp2_with fail
        go_ret
        exact ⟨ret_int HV.out.symm, HBc.out⟩
  · go_wp2_with fail
    refine (HI.out _).mono ?_; rintro e' w5 ⟨rfl, hb⟩
    have HBc := Lib.hid (below_2 HBc.out hb)
    clear hb k0 k1
    cases NM
    · have HV : Hid (R = 7) := X2.out (by trivial) (by trivial) (by trivial) (by trivial)
      go_wp2_with fail
      go_ret
      exact ⟨ret_int HV.out.symm, HBc.out⟩
    · have HRA := Lib.hid (X3.out (by trivial) (by trivial) (by simp))
      go_wp2_with fail
      refine (HH4.out _).mono ?_; rintro e' w5 ⟨rfl, rfl⟩
      cases UA
      · have HRB : Hid (R = if (UB && !decide (vb = 0)) = true then vb else if 12 < d then 2 else 0) := by show _ = _; rw [HRA.out]; rfl
        go_wp2_with fail
        refine (HH8.out _).mono ?_; rintro e' w5 ⟨rfl, rfl⟩
        cases UB
        · have HR : Hid (R = if 12 < d then 2 else 0) := by show _ = _; rw [HRB.out]; rfl
          by_cases hd12 : 12 < d
          · have bd : decide (12 < (d : Int)) = true := decide_eq_true (by omega)
            have HV : Hid (R = 2) := by show _ = _; rw [HR.out, if_pos hd12]
            clear hd12
            go_wp2_with fail
            go_ret
            exact ⟨ret_int HV.out.symm, HBc.out⟩
          · have bd : decide (12 < (d : Int)) = false := decide_eq_false (by omega)
            have HV : Hid (R = 0) := by show _ = _; rw [HR.out, if_neg hd12]
            clear hd12
            go_wp2_with fail
            go_ret
            exact ⟨ret_int HV.out.symm, HBc.out⟩
        · obtain ⟨_, _, _, _, _, _, _, m7, m8, m9, m10, _, _⟩ := HC.out.below HBc.out
          go_wp2_with fail
          refine (HVB.out _ (HK.out.below HBc.out).b).mono ?_; rintro e' w6 ⟨rfl, hb⟩
          have HBc := Lib.hid (below_2 HBc.out hb)
          clear hb m7 m8 m9 m10
          by_cases hvb : vb = 0
          · have bb : (vb != 0) = false := by rw [bne_eq_false_iff_eq]; exact hvb
            have HR : Hid (R = if 12 < d then 2 else 0) := by show _ = _; rw [HRB.out, hvb]; rfl
            clear hvb
            by_cases hd12 : 12 < d
            · have bd : decide (12 < (d : Int)) = true := decide_eq_true (by omega)
              have HV : Hid (R = 2) := by show _ = _; rw [HR.out, if_pos hd12]
              clear hd12
              go_wp2_with fail
              go_ret
              exact ⟨ret_int HV.out.symm, HBc.out⟩
            · have bd : decide (12 < (d : Int)) = false := decide_eq_false (by omega)
              have HV : Hid (R = 0) := by show _ = _; rw [HR.out, if_neg hd12]
              clear hd12
              go_wp2_with fail
              go_ret
              exact ⟨ret_int HV.out.symm, HBc.out⟩
          · have bb : (vb != 0) = true := bne_iff_ne.2 hvb
            have HV : Hid (R = vb) := by show _ = _; rw [HRB.out, decide_eq_false hvb]; rfl
            clear hvb
            go_wp2_with fail
            go_ret
            exact ⟨ret_int HV.out.symm, HBc.out⟩
      · obtain ⟨_, _, _, m3, m4, m5, m6, _, _, _, _, _, _⟩ := HC.out.below HBc.out
        go_wp2_with fail
        refine (HVA.out _ (HK.out.below HBc.out).a).mono ?_; rintro e' w6 ⟨rfl, hb⟩
        have HBc := Lib.hid (below_2 HBc.out hb)
        clear hb m3 m4 m5 m6
        by_cases hva : va = 0
        · have ba : (va != 0) = false := by rw [bne_eq_false_iff_eq]; exact hva
          have HRB : Hid (R = if (UB && !decide (vb = 0)) = true then vb else if 12 < d then 2 else 0) := by show _ = _; rw [HRA.out, hva]; rfl
          clear hva
          go_wp2_with fail
          refine (HH8.out _).mono ?_; rintro e' w5 ⟨rfl, rfl⟩
          cases UB
          · have HR : Hid (R = if 12 < d then 2 else 0) := by show _ = _; rw [HRB.out]; rfl
            by_cases hd12 : 12 < d
            · have bd : decide (12 < (d : Int)) = true := decide_eq_true (by omega)
              have HV : Hid (R = 2) := by show _ = _; rw [HR.out, if_pos hd12]
              clear hd12
              go_wp2_with fail
              go_ret
              exact ⟨ret_int HV.out.symm, HBc.out⟩
            · have bd : decide (12 < (d : Int)) = false := decide_eq_false (by omega)
              have HV : Hid (R = 0) := by show _ = _; rw [HR.out, if_neg hd12]
              clear hd12
              go_wp2_with fail
              go_ret
              exact ⟨ret_int HV.out.symm, HBc.out⟩
          · obtain ⟨_, _, _, _, _, _, _, m7, m8, m9, m10, _, _⟩ := HC.out.below HBc.out
            go_wp2_with fail
            refine (HVB.out _ (HK.out.below HBc.out).b).mono ?_; rintro e' w6 ⟨rfl, hb⟩
            have HBc := Lib.hid (below_2 HBc.out hb)
            clear hb m7 m8 m9 m10
            by_cases hvb : vb = 0
            · have bb : (vb != 0) = false := by rw [bne_eq_false_iff_eq]; exact hvb
              have HR : Hid (R = if 12 < d then 2 else 0) := by show _ = _; rw [HRB.out, hvb]; rfl
              clear hvb
              by_cases hd12 : 12 < d
              · have bd : decide (12 < (d : Int)) = true := decide_eq_true (by omega)
                have HV : Hid (R = 2) := by show _ = _; rw [HR.out, if_pos hd12]
                clear hd12
                go_wp2_with fail
                go_ret
                exact ⟨ret_int HV.out.symm, HBc.out⟩
              · have bd : decide (12 < (d : Int)) = false := decide_eq_false (by omega)
                have HV : Hid (R = 0) := by show _ = _; rw [HR.out, if_neg hd12]
                clear hd12
                go_wp2_with fail
                go_ret
                exact ⟨ret_int HV.out.symm, HBc.out⟩
            · have bb : (vb != 0) = true := bne_iff_ne.2 hvb
              have HV : Hid (R = vb) := by show _ = _; rw [HRB.out, decide_eq_false hvb]; rfl
              clear hvb
              go_wp2_with fail
              go_ret
              exact ⟨ret_int HV.out.symm, HBc.out⟩
        · have ba : (va != 0) = true := bne_iff_ne.2 hva
          have HV : Hid (R = va) := by show _ = _; rw [HRA.out, decide_eq_false hva]; rfl
          clear hva
          go_wp2_with fail
          go_ret
          exact ⟨ret_int HV.out.symm, HBc.out⟩
end Go.Proofs.YtkjefigebdbkaaaGreatDoor.A.UB
namespace Go.Proofs.YtkjefigebdbkaaaGreatDoor.A.UB
open Go.RowKit
open L (Str isName prt size_len below_2 below_box ret_bool ret_int eql_eq bytes_eq)

set_option maxHeartbeats 2000000 in
set_option maxRecDepth 100000 in
theorem visV {w0 : World} {B : Nat} (hB : w0.heap.size ≤ B) : VisV ⟨B, 0, none⟩ gV w0 (Jb B (fun z => .int .i64 z)) := by
  refine ⟨fun n X z u ps pe w _ hX hJ hb0 hat hok => ?_, Jb.keep, Jb.wide, Jb.narrow⟩
  have hw := below_box w (.cells #[.pointer ps, .pointer pe, .int .i64 (u.d : Int)] 66)
  cases u with
  | st s d =>
    obtain ⟨b, i, rfl, rfl, hat⟩ := hat
    simp only [U.d] at *
    have hs : StAt (w.alloc (.cells #[.pointer (some ⟨b, i, none⟩), .pointer none, .int .i64 (d : Int)] 66)) s b i := (hat.below hb0).below hw
    have hd : d ≤ 1000000 := by have := hok.2; omega
    have HC := Lib.hid (ostmtError_any s b i d hd hok.1 _ hs)
    have HP : Hid (∀ w2, Below (w.alloc (.cells #[.pointer (some ⟨b, i, none⟩), .pointer none, .int .i64 (d : Int)] 66)).heap.size (w.alloc (.cells #[.pointer (some ⟨b, i, none⟩), .pointer none, .int .i64 (d : Int)] 66)) w2 → ∀ z2 : Int,
      Jb B (fun z => .int .i64 z) (n + 1) X z2 (w2.setCell ⟨B, 0, none⟩ (.int .i64 z2)) ∧ Below w0.heap.size w (w2.setCell ⟨B, 0, none⟩ (.int .i64 z2)) ∧ ∀ k, X k → (w2.setCell ⟨B, 0, none⟩ (.int .i64 z2)).heap[k]? = w.heap[k]?) := fun w2 hb z2 => Jb.store (m := n + 1) (s2 := z2) hX hB hJ (below_2 hw hb) hb0.size
    have HJ1 := Lib.hid (hJ.1.later hw)
    have HV : Hid (gV z (.st s d) = (stE s d, (stE s d == 0))) := by
      show (stE s d, decide (stE s d = 0)) = _
      rw [Bool.beq_eq_decide_eq]
    rw [HV.out]
    generalize stE s d = x at HC ⊢
    unfold nodeV
    clear hw hJ hb0 HV hX hok hat hs
    go_enter Tryz.func39, Tryz.ntmps39
    go_wp2_with fail
    refine HC.out.mono ?_; rintro e' w2 ⟨rfl, hb⟩
    obtain ⟨n1, n2, n3⟩ := HJ1.out.later hb
    have HP2 := Lib.hid (HP.out w2 hb x)
    clear hb
    go_wp2_with fail
    go_ret
    exact ⟨rfl, HP2.out⟩
  | ex e d =>
    obtain ⟨b, i, rfl, rfl, _⟩ := hat
    have HP := Lib.hid (Jb.same (m := n + 1) hX hJ hw hb0.size)
    have HV : Hid (gV z (.ex e d) = (z, (z == 0))) := by
      show (z, decide (z = 0)) = _
      rw [Bool.beq_eq_decide_eq]
    rw [HV.out]
    have n0 := hJ.1.cell
    have n2 := (hJ.1.later hw).cell
    unfold nodeV
    simp only [U.d] at *
    clear hw hJ hb0 hX hok HV
    go_enter Tryz.func39, Tryz.ntmps39
    go_wp2_with fail
    go_ret
    exact ⟨rfl, HP.out⟩
theorem val_cases (p : Pr) : valE p = if nam p.name = false then 7 else if parE p.params ≠ 0 then parE p.params else if firstE (walk p) ≠ 0 then firstE (walk p) else if 400 < nodes p then 2 else 0 := rfl
set_option maxHeartbeats 4000000 in
set_option maxRecDepth 100000 in
theorem ovalidate_any (p : Pr) (a1 a2 : Option Addr) (c1 c2 : Nat) (hok : OkP p) (hc1 : p.params.length ≤ c1) (w : World) (hK : PrIn w p a1 a2) :
    Calls Tryz.prog 17 #[prV p a1 c1 a2 c2] w fun e' w' => e' = .returned (.int .i64 (valE p)) ∧ Below w.heap.size w w' := by
  have hw := below_box w (prO p a1 c1 a2 c2)
  have HBL := Lib.hid (fun w' hb => proc_later (w := w) (w' := w') (p := p) (a1 := a1) (a2 := a2) (c1 := c1) (c2 := c2) hb)
  have HI : Hid (∀ w, Calls Tryz.prog 36 #[.string p.name] w fun e' w' => e' = .returned (.bool (nam p.name)) ∧ Below w.heap.size w w') := fun w => L.oname_any p.name w
  have HPE := Lib.hid (fun w' h => oparamsError_any p.params a1 c1 hok.params w' hc1 h)
  have HN := Lib.hid (fun w' h => onodes_any p a1 a2 c1 c2 hok.body hok.bodyLen w' h)
  have HWK := Lib.hid (fun (B : Nat) (hB : (w.alloc (prO p a1 c1 a2 c2)).heap.size ≤ B) (z : Int) (w' : World) (hJ : Jb B (fun z => .int .i64 z) 0 (fun _ => False) z w') (hb : Below (w.alloc (prO p a1 c1 a2 c2)).heap.size (w.alloc (prO p a1 c1 a2 c2)) w') => owalkV_any (visV (w0 := w.alloc (prO p a1 c1 a2 c2)) hB) p a1 c1 a2 c2 hok.body hok.bodyLen (hK.below hw).body z w' hJ hb)
  have HK := Lib.hid hK
  have HW := Lib.hid hw
  have hv := val_cases p
  have hfr := first_run p
  generalize valE p = R at hv ⊢
  have HV := Lib.hid hv
  have HFR := Lib.hid hfr
  clear hv hfr hw hK hok hc1
  unfold prO at HBL HW HWK
  unfold prV at *
  generalize nam p.name = nm at HI HV
  cases nm
  · have HR : Hid (R = 7) := by show _ = _; rw [HV.out, if_pos rfl]
    go_enter Tryz.func17, Tryz.ntmps17
    go_wp2_with fail
    refine (HI.out _).mono ?_; rintro e w2 ⟨rfl, hb2⟩
    have HB2 := Lib.hid (below_2 HW.out hb2)
    clear hb2
    go_wp2_with fail
    go_ret
    exact ⟨ret_int HR.out.symm, HB2.out⟩
  · go_enter Tryz.func17, Tryz.ntmps17
    go_wp2_with fail
    refine (HI.out _).mono ?_; rintro e w2 ⟨rfl, hb2⟩
    have HBX := Lib.hid hb2
    clear hb2
    obtain ⟨j0, j1, j2⟩ := HBL.out _ HBX.out
    go_wp2_with fail
    refine (HPE.out _ (HK.out.below (below_2 HW.out HBX.out)).params).mono ?_; rintro e w3 ⟨rfl, hb3⟩
    have HBX := Lib.hid (below_2 HBX.out hb3)
    clear hb3 j0 j1 j2
    by_cases hp : parE p.params = 0
    · rw [hp]
      obtain ⟨j0, j1, j2⟩ := HBL.out _ HBX.out
      have hB := HBX.out.size
      have hC := HWK.out w3.heap.size hB 0 (w3.alloc (.cells #[.int .i64 0] 28)) ⟨cell1_at rfl, fun h => h⟩ (HBX.out.trans ((below_box w3 _).mono hB))
      rw [HFR.out] at hC
      have HC := Lib.hid hC
      have HBA := Lib.hid (below_2 HBX.out (below_box w3 (.cells #[.int .i64 0] 28)))
      obtain ⟨i0, i1, i2⟩ := HBL.out _ HBA.out
      have HR2 : Hid (R = if firstE (walk p) ≠ 0 then firstE (walk p) else if 400 < nodes p then 2 else 0) := by show _ = _; rw [HV.out, if_neg (by decide), if_neg (fun h => h hp)]
      clear hC hp hB j0 j1 j2
      generalize firstE (walk p) = f at HC HR2
      go_wp2_with fail
      refine HC.out.mono ?_; rintro e w4 ⟨rfl, ⟨_, hj, _⟩, hb4⟩
      have n0 := hj.cell
      have HJ4 := Lib.hid hj
      have HB4 := Lib.hid (HBA.out.trans hb4)
      clear hj hb4 i0 i1 i2
      obtain ⟨i0, i1, i2⟩ := HBL.out _ HB4.out
      by_cases hf : f = 0
      · have bf : (f == 0) = true := beq_iff_eq.2 hf
        have HR3 : Hid (R = if 400 < nodes p then 2 else 0) := by show _ = _; rw [HR2.out, if_neg (fun h => h hf)]
        have HF : Hid (f = 0) := hf
        clear hf
        go_wp2_with fail
        refine (HN.out _ (HK.out.below (below_2 HW.out HB4.out)).body).mono ?_; rintro e w5 ⟨rfl, hb5⟩
        have n5 := (HJ4.out.later hb5).cell
        have HB5 := Lib.hid (below_2 HW.out (below_2 HB4.out hb5))
        clear hb5
        by_cases h4 : 400 < nodes p
        · have b4 : decide (400 < (nodes p : Int)) = true := decide_eq_true (by omega)
          have HR : Hid (R = 2) := by show _ = _; rw [HR3.out, if_pos h4]
          clear h4
          go_wp2_with fail
          go_ret
          exact ⟨ret_int HR.out.symm, HB5.out⟩
        · have b4 : decide (400 < (nodes p : Int)) = false := decide_eq_false (by omega)
          have HR : Hid (R = f) := by show _ = _; rw [HR3.out, if_neg h4, HF.out]
          clear h4
          go_wp2_with fail
          go_ret
          exact ⟨ret_int HR.out.symm, HB5.out⟩
      · have bf : (f == 0) = false := beq_eq_false_iff_ne.2 hf
        have HR : Hid (R = f) := by show _ = _; rw [HR2.out, if_pos hf]
        have HB5 := Lib.hid (below_2 HW.out HB4.out)
        clear hf
        go_wp2_with fail
        go_ret
        exact ⟨ret_int HR.out.symm, HB5.out⟩
    · have bp : (parE p.params != 0) = true := bne_iff_ne.2 hp
      have HR : Hid (R = parE p.params) := by show _ = _; rw [HV.out, if_neg (by decide), if_pos hp]
      have HB5 := Lib.hid (below_2 (below_2 HW.out HBX.out) (below_box w3 (.cells #[.int .i64 (parE p.params)] 28)))
      clear hp
      go_wp2_with fail
      go_ret
      exact ⟨ret_int HR.out.symm, HB5.out⟩
end Go.Proofs.YtkjefigebdbkaaaGreatDoor.A.UB
namespace Go.Proofs.YtkjefigebdbkaaaGreatDoor.A.UB
open Go.RowKit
open L (Str isName prt size_len below_2 below_box ret_bool ret_int eql_eq bytes_eq isName_any)

def RStmt : Prop := ∀ (s : St) (a1 : Option Addr) (c1 : Nat) (a2 : Option Addr) (c2 : Nat) (a3 : Option Addr) (c3 : Nat) (a4 : Option Addr) (c4 : Nat) (d : Nat), d ≤ 1000000 → okS s → ∀ w0 : World, StKids w0 s a1 a2 a3 a4 →
    Calls Tryz.prog 50 #[stC s a1 c1 a2 c2 a3 c3 a4 c4, .int .i64 (d : Int)] w0 fun e' w' => e' = .returned (.int .i64 (stE s d)) ∧ Below w0.heap.size w0 w'
def VOk (n : Nat) : V → Prop
  | .st s d => okS s ∧ d ≤ n
  | .ex _ _ => True
theorem VOk.mono {n k : Nat} {v : V} (h : VOk n v) (hn : n ≤ k) : VOk k v := by
  cases v with
  | st s d => exact ⟨h.1, Nat.le_trans h.2 hn⟩
  | ex e r => trivial
def Dp (n : Nat) (l : List V) : Prop := ∀ j v, l[j]? = some v → VOk (n + j) v
theorem Dp.nil (n : Nat) : Dp n [] := fun j v h => by simp at h
theorem Dp.cons {n : Nat} {v : V} {l : List V} (h : VOk n v) (h2 : Dp (n + 1) l) : Dp n (v :: l) := fun j x hx => by
  cases j with
  | zero => simp at hx; subst hx; exact h
  | succ j => exact (h2 j x (by simpa using hx)).mono (by omega)
theorem Dp.app {n : Nat} {a b : List V} (h : Dp n a) (h2 : Dp n b) : Dp n (a ++ b) := fun j x hx => by
  by_cases hj : j < a.length
  · rw [List.getElem?_append_left hj] at hx; exact h j x hx
  · rw [List.getElem?_append_right (by omega)] at hx; exact (h2 _ x hx).mono (by omega)
mutual
theorem preE_ok (n : Nat) : ∀ (e : Ex) (r : Bool), ∀ v ∈ preE e r, VOk n v
  | .mk o m s l, r, v, h => by
    rw [preE] at h
    rcases List.mem_cons.1 h with rfl | h
    · trivial
    · exact preEs_ok n l v h
theorem preEs_ok (n : Nat) : ∀ (l : List Ex), ∀ v ∈ preEs l, VOk n v
  | [], v, h => by rw [preEs] at h; cases h
  | e :: r, v, h => by
    rw [preEs] at h
    rcases List.mem_append.1 h with h | h
    · exact preE_ok n e false v h
    · exact preEs_ok n r v h
end
theorem preR_ok (n : Nat) (e : Ex) : Dp n (preR e) := by
  intro j v h
  have hm := List.mem_of_getElem? h
  unfold preR at hm
  split at hm
  · cases hm
  · exact preE_ok (n + j) e true v hm
mutual
theorem preS_ok : ∀ (s : St) (d : Nat), okS s → Dp d (preS s d)
  | .mk o nm mx a b bd el, d, hok => by
    have hp := hok
    rw [okS] at hp
    obtain ⟨_, _, _, _, _, _, h1, _, h2⟩ := hp
    rw [preS]
    refine Dp.cons ⟨hok, Nat.le_refl d⟩ ?_
    exact (((preR_ok (d + 1) a).app (preR_ok (d + 1) b)).app (preB_ok bd (d + 1) h1)).app (preB_ok el (d + 1) h2)
theorem preB_ok : ∀ (l : List St) (d : Nat), okB l → Dp d (preB l d)
  | [], d, _ => by rw [preB]; exact Dp.nil d
  | s :: r, d, hok => by
    rw [okB] at hok
    rw [preB]
    exact (preS_ok s d hok.1).app (preB_ok r d hok.2)
end
theorem walk_ok {p : Pr} (hok : okB p.body) : ∀ v ∈ walk p, VOk 1000000 v := fun v h => by
  obtain ⟨j, hj, rfl⟩ := List.getElem_of_mem h
  unfold walk at hj ⊢
  have hj2 : j < 401 := by rw [List.length_take] at hj; omega
  rw [List.getElem_take]
  exact (preB_ok p.body 1 hok j _ (List.getElem?_eq_getElem _)).mono (by omega)
theorem firstE_drop {l : List V} {k : Nat} (h : k < l.length) : firstE (l.drop k) = match l[k] with | .st s d => if stE s d ≠ 0 then stE s d else firstE (l.drop (k + 1)) | .ex _ _ => firstE (l.drop (k + 1)) := by
  rw [List.drop_eq_getElem_cons h]
  cases l[k] <;> rfl
set_option maxHeartbeats 8000000 in
set_option maxRecDepth 100000 in
theorem rvalidate_any (hst : RStmt) (p : Pr) (a1 a2 : Option Addr) (c1 c2 : Nat) (hok : OkP p) (w : World) (hK : PrIn w p a1 a2) :
    Calls Tryz.prog 21 #[prV p a1 c1 a2 c2] w fun e' w' => e' = .returned (.int .i64 (valE p)) ∧ Below w.heap.size w w' := by
  have hw := below_box w (prO p a1 c1 a2 c2)
  have HBL := Lib.hid (fun w' hb => proc_later (w := w) (w' := w') (p := p) (a1 := a1) (a2 := a2) (c1 := c1) (c2 := c2) hb)
  have HI : Hid (∀ w, Calls Tryz.prog 47 #[.string p.name] w fun e' w' => e' = .returned (.bool (nam p.name)) ∧ Below w.heap.size w w') := fun w => isName_any p.name (by have := hok.name; omega) w
  have HPE := Lib.hid (fun w' h => rparams_any p.params a1 c1 hok.params hok.each w' h)
  have HC := Lib.hid (fun w' hK => rwalk_any p a1 a2 c1 c2 hok.body hok.bodyLen w' hK)
  have HVO := Lib.hid (walk_ok hok.body)
  have HST := Lib.hid hst
  have HK := Lib.hid hK
  have HW := Lib.hid hw
  have hv := val_cases p
  have hn : (walk p).length ≤ 401 := by unfold walk; rw [List.length_take]; omega
  have hnn : nodes p = (walk p).length := rfl
  rw [hnn] at hv
  generalize valE p = R at hv ⊢
  have HV := Lib.hid hv
  clear hv hw hK hok hst hnn
  unfold prO at HBL HW
  unfold prV at *
  generalize nam p.name = nm at HI HV
  cases nm
  · have HR : Hid (R = 7) := by show _ = _; rw [HV.out, if_pos rfl]
    go_enter Tryz.func21, Tryz.ntmps21
    go_wp2_with fail
    refine (HI.out _).mono ?_; rintro e w2 ⟨rfl, hb2⟩
    have HB2 := Lib.hid (below_2 HW.out hb2)
    clear hb2
    go_wp2_with fail
    go_ret
    exact ⟨ret_int HR.out.symm, HB2.out⟩
  · go_enter Tryz.func21, Tryz.ntmps21
    go_wp2_with fail
    refine (HI.out _).mono ?_; rintro e w2 ⟨rfl, hb2⟩
    have HBX := Lib.hid hb2
    clear hb2
    obtain ⟨j0, j1, j2⟩ := HBL.out _ HBX.out
    go_wp2_with fail
    refine (HPE.out _ (HK.out.below (below_2 HW.out HBX.out)).params).mono ?_; rintro e w3 ⟨rfl, hb3⟩
    have HBX := Lib.hid (below_2 HBX.out hb3)
    clear hb3 j0 j1 j2
    by_cases hp : parE p.params = 0
    · have bp : (parE p.params != 0) = false := by rw [bne_eq_false_iff_eq]; exact hp
      have HR2 : Hid (R = if firstE (walk p) ≠ 0 then firstE (walk p) else if 400 < (walk p).length then 2 else 0) := by show _ = _; rw [HV.out, if_neg (by decide), if_neg (fun h => h hp)]
      obtain ⟨j0, j1, j2⟩ := HBL.out _ HBX.out
      have HC2 := Lib.hid (HC.out w3 (HK.out.below (below_2 HW.out HBX.out)).body)
      clear hp
      go_wp2_with fail
      refine HC2.out.mono ?_; rintro e w4 ⟨p3, q3, l', rfl, ho, hi, hvv, hb4⟩
      have HO := Lib.hid ho
      have HIn := Lib.hid hi
      have HWK := Lib.hid hvv
      have HB4 := Lib.hid (below_2 (below_2 HW.out HBX.out) hb4)
      have hlw : l'.length = (walk p).length := by rw [← vs_len, hvv]
      have HLW := Lib.hid hlw
      have hln : l'.length ≤ 401 := by rw [hlw]; exact hn
      have hz4 := hb4.size
      have HI4 : Hid (∀ x ∈ l', x.In w4) := fun x hx => (hi x hx).below hb4
      clear ho hi hvv hb4 hlw j0 j1 j2 bp
      go_wp2_with fail
      go_loopw [5] (fun s5 wr => ∃ k : Nat, k ≤ l'.length ∧ s5 = .int .i64 k ∧ Hid (firstE ((walk p).drop k) = firstE (walk p)) ∧ Hid (Below w4.heap.size w4 wr)) (fun s5 _ => l'.length - (intOf s5).toNat)
      case atStart => exact ⟨0, Nat.zero_le _, rfl, rfl, Below.refl _ _⟩
      case round =>
        obtain ⟨k, hk, rfl, HX, HBr⟩ := hrel
        have HBB := Lib.hid (below_2 HB4.out HBr.out)
        by_cases hlt : k < l'.length
        · obtain ⟨g3, rfl, hcell⟩ := visit_cells HO.out hlt
          have hlx : k < (walk p).length := by rw [← HLW.out]; exact hlt
          have hvk : (walk p)[k] = (l'[k]).v := by simp only [← HWK.out, vs, List.getElem_map]
          have hx := HX.out
          rw [firstE_drop hlx, hvk] at hx
          have hin := HI4.out _ (List.getElem_mem hlt)
          have hvo := HVO.out _ (List.getElem_mem hlx)
          rw [hvk] at hvo
          have hg3 : g3 < w4.heap.size := by
            have h := hcell 0 (by omega)
            cases hh : l'[k] with
            | st s d a5 c5 a6 c6 a7 c7 a8 c8 => rw [hh] at h; exact block_lt_of_cell (show w4.cell? ⟨g3, k * 20 + 0, none⟩ = some (.bool true) from h)
            | ex e r a5 c5 => rw [hh] at h; exact block_lt_of_cell (show w4.cell? ⟨g3, k * 20 + 0, none⟩ = some (.bool false) from h)
          have hcr : ∀ r, r < 20 → wr.cell? ⟨g3, k * 20 + r, none⟩ = (l'[k]).cells[r]? := fun r hr => (HBr.out.cell (by exact hg3)).trans (hcell r hr)
          generalize l'[k] = y at hcr hx hin hvo
          clear hvk hcell
          cases y with
          | ex e r a5 c5 =>
            have f0 : wr.cell? ⟨g3, k * 20, none⟩ = some (.bool false) := hcr 0 (by omega)
            have HX2 : Hid (firstE ((walk p).drop (k + 1)) = firstE (walk p)) := hx
            clear hcr hx hin hvo
            go_wp2_with fail
            go_roundw
            case rel => exact ⟨k + 1, by omega, by go_num, HX2.out, HBr.out⟩
            case measure => simp [intOf]; omega
          | st s d a5 c5 a6 c6 a7 c7 a8 c8 =>
            have f0 : wr.cell? ⟨g3, k * 20, none⟩ = some (.bool true) := hcr 0 (by omega)
            have e0 : wr.cell? ⟨g3, k * 20 + 1, none⟩ = some (.int .i64 s.op) := hcr 1 (by omega)
            have e1 : wr.cell? ⟨g3, k * 20 + 1 + 1, none⟩ = some (.string s.name) := hcr 2 (by omega)
            have e2 : wr.cell? ⟨g3, k * 20 + 1 + 2, none⟩ = some (.int .i64 s.mx) := hcr 3 (by omega)
            have e3 : wr.cell? ⟨g3, k * 20 + 1 + 3, none⟩ = some (.int .i64 s.a.op) := hcr 4 (by omega)
            have e4 : wr.cell? ⟨g3, k * 20 + 1 + 4, none⟩ = some (.int .i64 s.a.n) := hcr 5 (by omega)
            have e5 : wr.cell? ⟨g3, k * 20 + 1 + 5, none⟩ = some (.string s.a.s) := hcr 6 (by omega)
            have e6 : wr.cell? ⟨g3, k * 20 + 1 + 6, none⟩ = some (.slice a5 s.a.args.length c5) := hcr 7 (by omega)
            have e7 : wr.cell? ⟨g3, k * 20 + 1 + 7, none⟩ = some (.int .i64 s.b.op) := hcr 8 (by omega)
            have e8 : wr.cell? ⟨g3, k * 20 + 1 + 8, none⟩ = some (.int .i64 s.b.n) := hcr 9 (by omega)
            have e9 : wr.cell? ⟨g3, k * 20 + 1 + 9, none⟩ = some (.string s.b.s) := hcr 10 (by omega)
            have e10 : wr.cell? ⟨g3, k * 20 + 1 + 10, none⟩ = some (.slice a6 s.b.args.length c6) := hcr 11 (by omega)
            have e11 : wr.cell? ⟨g3, k * 20 + 1 + 11, none⟩ = some (.slice a7 s.body.length c7) := hcr 12 (by omega)
            have e12 : wr.cell? ⟨g3, k * 20 + 1 + 12, none⟩ = some (.slice a8 s.els.length c8) := hcr 13 (by omega)
            have f14 : wr.cell? ⟨g3, k * 20 + 14, none⟩ = some (.int .i64 (d : Int)) := hcr 14 (by omega)
            have hkk : StKids wr.drew s a5 a6 a7 a8 := StKids.below (StKids.below hin HBr.out) (L.below_drew wr)
            have HSC := Lib.hid (HST.out s a5 c5 a6 c6 a7 c7 a8 c8 d hvo.2 hvo.1 wr.drew hkk)
            have hxx : (if stE s d ≠ 0 then stE s d else firstE ((walk p).drop (k + 1))) = firstE (walk p) := hx
            generalize stE s d = z at HSC hxx
            unfold stC at HSC
            clear hcr hx hin hvo hkk
            by_cases hz : z = 0
            · have bz : (z != 0) = false := by rw [bne_eq_false_iff_eq]; exact hz
              rw [if_neg (fun h => h hz)] at hxx
              have HX2 := Lib.hid hxx
              clear hz hxx
              go_wp2_with fail
              go_region_law (go_simp; go_at_call 50; refine HSC.out.mono ?_; rintro e' w5 ⟨rfl, hb5⟩; have HB5 := Lib.hid (below_2 (L.below_drew _) hb5); clear hb5)
              all_goals
                go_wp2_with fail
                go_roundw
                case rel => exact ⟨k + 1, by omega, by go_num, HX2.out, below_2 HBr.out HB5.out⟩
                case measure => simp [intOf]; omega
            · have bz : (z != 0) = true := bne_iff_ne.2 hz
              rw [if_pos hz] at hxx
              have HR : Hid (R = z) := by show _ = _; rw [HR2.out, ← hxx, if_pos hz]
              clear hz hxx
              go_wp2_with fail
              go_region_law (go_simp; go_at_call 50; refine HSC.out.mono ?_; rintro e' w5 ⟨rfl, hb5⟩; have HB5 := Lib.hid (below_2 (L.below_drew _) hb5); clear hb5)
              all_goals
                go_wp2_with fail
                go_ret
                exact ⟨ret_int HR.out.symm, below_2 HBB.out HB5.out⟩
        · have hx := HX.out
          rw [List.drop_of_length_le (by have := HLW.out; omega)] at hx
          have hf : firstE (walk p) = 0 := hx.symm
          have HR3 : Hid (R = if 400 < l'.length then 2 else 0) := by show _ = _; rw [HR2.out, if_neg (fun h => h hf), HLW.out]
          clear hx hf
          by_cases h4 : 400 < l'.length
          · have b4 : decide (400 < (l'.length : Int)) = true := decide_eq_true (by omega)
            have HR : Hid (R = 2) := by show _ = _; rw [HR3.out, if_pos h4]
            clear h4
            go_wp2_with fail
            go_ret
            exact ⟨ret_int HR.out.symm, HBB.out⟩
          · have b4 : decide (400 < (l'.length : Int)) = false := decide_eq_false (by omega)
            have HR : Hid (R = 0) := by show _ = _; rw [HR3.out, if_neg h4]
            clear h4
            go_wp2_with fail
            go_ret
            exact ⟨ret_int HR.out.symm, HBB.out⟩
    · have bp : (parE p.params != 0) = true := bne_iff_ne.2 hp
      have HR : Hid (R = parE p.params) := by show _ = _; rw [HV.out, if_neg (by decide), if_pos hp]
      have HB5 := Lib.hid (below_2 HW.out HBX.out)
      clear hp
      go_wp2_with fail
      go_ret
      exact ⟨ret_int HR.out.symm, HB5.out⟩
end Go.Proofs.YtkjefigebdbkaaaGreatDoor.A.UB
