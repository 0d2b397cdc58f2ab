/-
  What the program's own Apply, Union and Diff return: contracts, one a function.
-/
import Derived.Test.YtieloegadhgipaaSOF
import Derived.Test.YtieloegadhgipaaSOG
namespace Go.Proofs.Ytieloegadhgipaa.S
open Go.RowKit
open Go.Proofs.Ytieloegadhgipaa.V (ret_bool ret_int ret_string below_2 below_box below_box2 size_len)

theorem upP_of {xs : List P} (h : vw (prs xs) = true) : upP xs := up_prs.1 (vw_iff.1 h).2.2
theorem kinds_of {xs : List P} (h : vs (prs xs) = true) : ∀ y ∈ xs, y.k ≠ 0 := fun y hy => (vs_iff.1 h).1 y.pr (mem_pr.2 ⟨y, hy, rfl⟩)
set_option maxHeartbeats 4000000 in
set_option maxRecDepth 100000 in
theorem oapply_any (a b : Option Addr) (c d : Nat) (xs ys : List P) (hf : Fitz xs) (hg : Fitz ys) (hl : xs.length + ys.length ≤ 2932031007402) (w : World) (hA : Sl w a c xs) (hB : Sl w b d ys) :
    Calls Try.prog 13 #[.slice a xs.length c, .slice b ys.length d] w fun e w' => Gives e w' (aplP xs ys) ∧ Below w.heap.size w w' := by
  have hvs := oval_any a c xs hf w hA.prs
  have hvw := fun w1 h => oaw_any b d ys hg w1 h
  cases h1 : vs (prs xs)
  · rw [h1] at hvs
    have HR := Lib.hid (aplP_no (ys := ys) (Or.inl h1))
    have HV := Lib.hid hvs
    clear hvs hvw hA hB h1
    go_enter Try.func13, Try.ntmps13
    go_wp2_with fail
    refine HV.out.mono ?_; rintro e w1 ⟨rfl, hb1⟩
    go_wp2_with fail
    go_ret2
    exact ⟨⟨none, 0, by rw [HR.out]; rfl, by rw [HR.out]; exact Sl.empty _⟩, hb1⟩
  · cases h2 : vw (prs ys)
    · rw [h1] at hvs
      rw [h2] at hvw
      have HR := Lib.hid (aplP_no (xs := xs) (Or.inr h2))
      have HV := Lib.hid hvs
      have HW := Lib.hid hvw
      have HB := Lib.hid hB.prs
      clear hvs hvw hA hB h1 h2
      go_enter Try.func13, Try.ntmps13
      go_wp2_with fail
      refine HV.out.mono ?_; rintro e w1 ⟨rfl, hb1⟩
      go_wp2_with fail
      refine (HW.out _ (HB.out.below hb1)).mono ?_; rintro e w2 ⟨rfl, hb2⟩
      go_wp2_with fail
      go_ret2
      exact ⟨⟨none, 0, by rw [HR.out]; rfl, by rw [HR.out]; exact Sl.empty _⟩, below_2 hb1 hb2⟩
    · rw [h1] at hvs
      rw [h2] at hvw
      have hux := upP_of (vs_iff.1 h1).2
      have huy := upP_of h2
      have hml : (mrg chA xs ys).length ≤ 2932031007402 := Nat.le_trans (mrg_len chA chA_len _ xs ys (Nat.le_refl _)) hl
      have hmf := mrg_fitz chA_len chA_src hux huy hf hg hml
      have hM := fun w (h1 : Sl w a c xs) (h2 : Sl w b d ys) => mergeA_any chA (fun _ _ => True) w w.heap.size (Nat.le_refl _)
        (fun s a b c d fa fb wr _ hlb _ g1 g2 _ hz => (chA_any a b c d fa fb wr hlb g1 g2).mono fun e w' ⟨r1, r2⟩ => ⟨r1, trivial, Keeps.of r2 hz⟩) (fun _ _ _ _ _ => trivial)
        a b c d xs ys hf.len hg.len hml h1 h2 w (Below.refl _ _) (Nat.le_refl _) trivial
      have hC := fun a1 c1 w1 h => copied_any a1 c1 (mrg chA xs ys) hmf w1 h
      rw [mrg_app hux huy] at hM hC
      have HR := Lib.hid (aplP_ok h1 h2)
      have HV := Lib.hid hvs
      have HW := Lib.hid hvw
      have HM := Lib.hid hM
      have HC := Lib.hid hC
      have HA := Lib.hid hA
      have HB := Lib.hid hB
      generalize appP xs ys = rs at HM HC HR
      generalize xs.length = n at HV HM ⊢
      generalize ys.length = m at HW HM ⊢
      clear hvs hvw hA hB h1 h2 hux huy hml hmf hM hC hl hf hg
      go_enter Try.func13, Try.ntmps13
      go_wp2_with fail
      refine HV.out.mono ?_; rintro e w1 ⟨rfl, hb1⟩
      go_wp2_with fail
      refine (HW.out _ (HB.out.below hb1).prs).mono ?_; rintro e w2 ⟨rfl, hb2⟩
      have HB2 := Lib.hid (below_2 hb1 hb2)
      clear hb1 hb2
      go_wp2_with fail
      refine (HM.out _ (HA.out.below HB2.out) (HB.out.below HB2.out)).mono ?_; rintro e w3 ⟨⟨ra, rc, rfl, hSr⟩, -, hb3⟩
      have HB3 := Lib.hid (below_2 HB2.out hb3)
      have HS3 := Lib.hid hSr
      clear hb3 hSr
      go_wp2_with fail
      refine (HC.out _ _ _ HS3.out.prs).mono ?_; rintro e w4 ⟨⟨rb, rd, rfl, hSr⟩, hb4⟩
      have HS4 := Lib.hid hSr
      clear hSr
      go_wp2_with fail
      go_ret2
      exact ⟨⟨rb, rd, by rw [HR.out]; rfl, by rw [HR.out]; exact HS4.out⟩, below_2 HB3.out hb4⟩
set_option maxHeartbeats 4000000 in
set_option maxRecDepth 100000 in
theorem odiff_any (a b : Option Addr) (c d : Nat) (xs ys : List P) (hf : Fitz xs) (hg : Fitz ys) (hl : xs.length + ys.length ≤ 2932031007402) (w : World) (hA : Sl w a c xs) (hB : Sl w b d ys) :
    Calls Try.prog 10 #[.slice a xs.length c, .slice b ys.length d] w fun e w' => Gives e w' (dffP xs ys) ∧ Below w.heap.size w w' := by
  have hvs := oval_any a c xs hf w hA.prs
  have hvw := fun w1 h => oval_any b d ys hg w1 h
  cases h1 : vs (prs xs)
  · rw [h1] at hvs
    have HR := Lib.hid (dffP_no (ys := ys) (Or.inl h1))
    have HV := Lib.hid hvs
    clear hvs hvw hA hB h1
    go_enter Try.func10, Try.ntmps10
    go_wp2_with fail
    refine HV.out.mono ?_; rintro e w1 ⟨rfl, hb1⟩
    go_wp2_with fail
    go_ret2
    exact ⟨⟨none, 0, by rw [HR.out]; rfl, by rw [HR.out]; exact Sl.empty _⟩, hb1⟩
  · cases h2 : vs (prs ys)
    · rw [h1] at hvs
      rw [h2] at hvw
      have HR := Lib.hid (dffP_no (xs := xs) (Or.inr h2))
      have HV := Lib.hid hvs
      have HW := Lib.hid hvw
      have HB := Lib.hid hB.prs
      clear hvs hvw hA hB h1 h2
      go_enter Try.func10, Try.ntmps10
      go_wp2_with fail
      refine HV.out.mono ?_; rintro e w1 ⟨rfl, hb1⟩
      go_wp2_with fail
      refine (HW.out _ (HB.out.below hb1)).mono ?_; rintro e w2 ⟨rfl, hb2⟩
      go_wp2_with fail
      go_ret2
      exact ⟨⟨none, 0, by rw [HR.out]; rfl, by rw [HR.out]; exact Sl.empty _⟩, below_2 hb1 hb2⟩
    · rw [h1] at hvs
      rw [h2] at hvw
      have hux := upP_of (vs_iff.1 h1).2
      have huy := upP_of (vs_iff.1 h2).2
      have hml : (mrg chD xs ys).length ≤ 2932031007402 := Nat.le_trans (mrg_len chD chD_len _ xs ys (Nat.le_refl _)) hl
      have hmf := mrg_fitz chD_len chD_src hux huy hf hg hml
      have hM := fun w (h1 : Sl w a c xs) (h2 : Sl w b d ys) => mergeD_any chD (fun _ _ => True) w w.heap.size (Nat.le_refl _)
        (fun s a b c d fa fb wr hla hlb hn g1 g2 _ hz => (chD_any a b c d fa fb wr hla hlb hn g1 g2).mono fun e w' ⟨r1, r2⟩ => ⟨r1, trivial, Keeps.of r2 hz⟩) (fun _ _ _ _ _ => trivial)
        a b c d xs ys hf.len hg.len hml h1 h2 w (Below.refl _ _) (Nat.le_refl _) trivial
      have hC := fun a1 c1 w1 h => copied_any a1 c1 (mrg chD xs ys) hmf w1 h
      rw [mrg_dif hux huy (kinds_of h2)] at hM hC
      have HR := Lib.hid (dffP_ok h1 h2)
      have HV := Lib.hid hvs
      have HW := Lib.hid hvw
      have HM := Lib.hid hM
      have HC := Lib.hid hC
      have HA := Lib.hid hA
      have HB := Lib.hid hB
      generalize difP xs ys = rs at HM HC HR
      generalize xs.length = n at HV HM ⊢
      generalize ys.length = m at HW HM ⊢
      clear hvs hvw hA hB h1 h2 hux huy hml hmf hM hC hl hf hg
      go_enter Try.func10, Try.ntmps10
      go_wp2_with fail
      refine HV.out.mono ?_; rintro e w1 ⟨rfl, hb1⟩
      go_wp2_with fail
      refine (HW.out _ (HB.out.below hb1).prs).mono ?_; rintro e w2 ⟨rfl, hb2⟩
      have HB2 := Lib.hid (below_2 hb1 hb2)
      clear hb1 hb2
      go_wp2_with fail
      refine (HM.out _ (HA.out.below HB2.out) (HB.out.below HB2.out)).mono ?_; rintro e w3 ⟨⟨ra, rc, rfl, hSr⟩, -, hb3⟩
      have HB3 := Lib.hid (below_2 HB2.out hb3)
      have HS3 := Lib.hid hSr
      clear hb3 hSr
      go_wp2_with fail
      refine (HC.out _ _ _ HS3.out.prs).mono ?_; rintro e w4 ⟨⟨rb, rd, rfl, hSr⟩, hb4⟩
      have HS4 := Lib.hid hSr
      clear hSr
      go_wp2_with fail
      go_ret2
      exact ⟨⟨rb, rd, by rw [HR.out]; rfl, by rw [HR.out]; exact HS4.out⟩, below_2 HB3.out hb4⟩
end Go.Proofs.Ytieloegadhgipaa.S
