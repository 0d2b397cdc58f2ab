/-
  What the program's own Union returns: its contract.
-/
import Derived.Test.YtieloegadhgipaaSOH
namespace Go.Proofs.Ytieloegadhgipaa.S
open Go.RowKit
open Go.Proofs.Ytieloegadhgipaa.V (ret_bool ret_int ret_string below_2 below_box below_box2 size_len)

theorem fl_yes {xs ys : List P} (h1 : vs (prs xs) = true) (h2 : vs (prs ys) = true) (h : fl xs ys = true) : uniP xs ys = ([], 8) := by
  obtain ⟨x, hx, y, hy, e⟩ := (fl_iff (upP_of (vs_iff.1 h1).2) (upP_of (vs_iff.1 h2).2)).1 h
  obtain ⟨k, hk, rfl⟩ := List.mem_iff_getElem.1 hy
  exact uniP_dup h1 h2 hk (has_iff.2 ⟨x.pr, mem_pr.2 ⟨x, hx, rfl⟩, e⟩)
theorem fl_no {xs ys : List P} (h1 : vs (prs xs) = true) (h2 : vs (prs ys) = true) (h : fl xs ys = false) : uniP xs ys = (appP xs ys, 0) ∧ mrg chU xs ys = appP xs ys := by
  have hux := upP_of (vs_iff.1 h1).2
  have huy := upP_of (vs_iff.1 h2).2
  have hd : ∀ x ∈ xs, ∀ y ∈ ys, kl x ≠ kl y := fun x hx y hy e => by
    rw [(fl_iff hux huy).2 ⟨x, hx, y, hy, e⟩] at h; cases h
  refine ⟨?_, mrg_uni hux huy hd (kinds_of h2)⟩
  rw [uniP_ok h1 h2, aplP_ok h1 (vs_iff.1 h2).2]
  intro k hk
  exact has_no.2 fun x hx => hd x hx _ (List.getElem_mem hk)
/-- the flag, and all below it as it was -/
def UI (N : Nat) (w0 : World) (s : Bool) (w : World) : Prop := Flag N s w ∧ Below N w0 w
theorem UI.stays {N : Nat} {w0 : World} (s : Bool) (w w' : World) (h : UI N w0 s w) (hb : Below (N + 1) w w') : UI N w0 s w' := ⟨h.1.below hb (Nat.lt_succ_self _), h.2.trans (hb.mono (Nat.le_succ _))⟩
theorem UI.choice {w0 : World} (s : Bool) (a b : Option Addr) (c d : Nat) (fa fb : List P) (wr : World) (ha : fa.length ≤ 1) (hb : fb.length ≤ 1) (_ : fa ≠ [] ∨ fb ≠ []) (hA : Sl w0 a c fa) (hB : Sl wr b d fb) (hI : UI w0.heap.size w0 s wr) (_ : w0.heap.size + 1 ≤ wr.heap.size) :
    Calls Try.prog 44 #[.slice a fa.length c, .slice b fb.length d, .pointer (some ⟨w0.heap.size, 0, none⟩)] wr fun e w' => GivesL e w' (chU fa fb) ∧ UI w0.heap.size w0 (nx s fa fb) w' ∧ Keeps w0.heap.size (w0.heap.size + 1) wr w' := by
  refine (chU_any w0.heap.size s a b c d fa fb wr (w0.heap.size + 1) (Nat.lt_succ_self _) ha hb (hA.below hI.2) hB hI.1 ?_).mono fun e w' ⟨r1, r2, r3⟩ => ⟨r1, ⟨r2, hI.2.trans r3.below⟩, r3⟩
  intro hfa g o e _
  cases fa with
  | nil => exact absurd rfl hfa
  | cons x xs =>
    obtain ⟨b1, o1, e1, h1⟩ := at_head hA
    rw [e] at e1
    cases e1
    exact Nat.ne_of_lt h1.lt
theorem flag_new (w : World) : Flag w.heap.size false (w.alloc (.cells #[.bool false] 4)) := ⟨by simp, by go_simp, by go_simp⟩
set_option maxHeartbeats 4000000 in
set_option maxRecDepth 100000 in
theorem ounion_any (a b : Option Addr) (c d : Nat) (xs ys : List P) (hf : Fitz xs) (hg : Fitz ys) (hml : vs (prs xs) = true → vs (prs ys) = true → (mrg chU xs ys).length ≤ 2932031007402) (w : World) (hA : Sl w a c xs) (hB : Sl w b d ys) :
    Calls Try.prog 18 #[.slice a xs.length c, .slice b ys.length d] w fun e w' => Gives e w' (uniP xs ys) ∧ Below w.heap.size w w' := by
  have hvs := oval_any a c xs hf w hA.prs
  have hvw := fun w1 h => oval_any b d ys hg w1 h
  cases h1 : vs (prs xs)
  · rw [h1] at hvs
    have HR := Lib.hid (uniP_no (ys := ys) (Or.inl h1))
    have HV := Lib.hid hvs
    clear hvs hvw hA hB h1 hml
    go_enter Try.func18, Try.ntmps18
    go_wp2_with fail
    refine HV.out.mono ?_; rintro e w1 ⟨rfl, hb1⟩
    go_wp2_with fail
    go_ret2
    exact ⟨⟨none, 0, by rw [HR.out]; rfl, by rw [HR.out]; exact Sl.empty _⟩, hb1⟩
  · cases h2 : vs (prs ys)
    · rw [h1] at hvs
      rw [h2] at hvw
      have HR := Lib.hid (uniP_no (xs := xs) (Or.inr h2))
      have HV := Lib.hid hvs
      have HW := Lib.hid hvw
      have HB := Lib.hid hB.prs
      clear hvs hvw hA hB h1 h2 hml
      go_enter Try.func18, Try.ntmps18
      go_wp2_with fail
      refine HV.out.mono ?_; rintro e w1 ⟨rfl, hb1⟩
      go_wp2_with fail
      refine (HW.out _ (HB.out.below hb1)).mono ?_; rintro e w2 ⟨rfl, hb2⟩
      go_wp2_with fail
      go_ret2
      exact ⟨⟨none, 0, by rw [HR.out]; rfl, by rw [HR.out]; exact Sl.empty _⟩, below_2 hb1 hb2⟩
    · rw [h1] at hvs
      rw [h2] at hvw
      have hux := upP_of (vs_iff.1 h1).2
      have huy := upP_of (vs_iff.1 h2).2
      have hml := hml h1 h2
      have hmf := mrg_fitz chU_len chU_src hux huy hf hg hml
      have hM := fun w (h1 : Sl w a c xs) (h2 : Sl w b d ys) => mergeU_any chU (UI w.heap.size w) w (w.heap.size + 1) (Nat.le_succ _) ⟨w.heap.size, 0, none⟩
        (UI.choice (w0 := w)) (fun s w1 w' => UI.stays s w1 w')
        a b c d xs ys hf.len hg.len hml h1 h2 (w.alloc (.cells #[.bool false] 4)) (below_box w _) (by simp) ⟨flag_new w, below_box w _⟩
      have hC := fun a1 c1 w1 h => copied_any a1 c1 (mrg chU xs ys) hmf w1 h
      have hN := fun h => (fl_no h1 h2 h).2
      have HY := Lib.hid (fl_yes h1 h2)
      have HN := Lib.hid (fun h => (fl_no h1 h2 h).1)
      have HV := Lib.hid hvs
      have HW := Lib.hid hvw
      have HA := Lib.hid hA
      have HB := Lib.hid hB
      cases hfl : fl xs ys
      · rw [hfl] at hM
        rw [hN hfl] at hM hC
        have HR := Lib.hid (HN.out hfl)
        have HM := Lib.hid hM
        have HC := Lib.hid hC
        generalize appP xs ys = rs at HM HC HR
        generalize xs.length = n at HV HM ⊢
        generalize ys.length = m at HW HM ⊢
        clear hvs hvw hA hB h1 h2 hux huy hml hmf hM hC hf hg hN HY HN hfl
        go_enter Try.func18, Try.ntmps18
        go_wp2_with fail
        refine HV.out.mono ?_; rintro e w1 ⟨rfl, hb1⟩
        go_wp2_with fail
        refine (HW.out _ (HB.out.below hb1).prs).mono ?_; rintro e w2 ⟨rfl, hb2⟩
        have HB2 := Lib.hid (below_2 hb1 hb2)
        clear hb1 hb2
        go_wp2_with fail
        refine (HM.out _ (HA.out.below HB2.out) (HB.out.below HB2.out)).mono ?_; rintro e w3 ⟨⟨ra, rc, rfl, hSr⟩, ⟨⟨-, hfc, -⟩, -⟩, hb3⟩
        have HB3 := Lib.hid (below_2 HB2.out hb3)
        have HS3 := Lib.hid hSr
        clear hb3 hSr
        go_wp2_with fail
        refine (HC.out _ _ _ HS3.out.prs).mono ?_; rintro e w4 ⟨⟨rb, rd, rfl, hSr⟩, hb4⟩
        have HS4 := Lib.hid hSr
        clear hSr
        go_wp2_with fail
        go_ret2
        exact ⟨⟨rb, rd, by rw [HR.out]; rfl, by rw [HR.out]; exact HS4.out⟩, below_2 HB3.out hb4⟩
      · rw [hfl] at hM
        have HR := Lib.hid (HY.out hfl)
        have HM := Lib.hid hM
        generalize mrg chU xs ys = rs at HM
        generalize xs.length = n at HV HM ⊢
        generalize ys.length = m at HW HM ⊢
        clear hvs hvw hA hB h1 h2 hux huy hml hmf hM hC hf hg hN HY HN hfl
        go_enter Try.func18, Try.ntmps18
        go_wp2_with fail
        refine HV.out.mono ?_; rintro e w1 ⟨rfl, hb1⟩
        go_wp2_with fail
        refine (HW.out _ (HB.out.below hb1).prs).mono ?_; rintro e w2 ⟨rfl, hb2⟩
        have HB2 := Lib.hid (below_2 hb1 hb2)
        clear hb1 hb2
        go_wp2_with fail
        refine (HM.out _ (HA.out.below HB2.out) (HB.out.below HB2.out)).mono ?_; rintro e w3 ⟨⟨ra, rc, rfl, hSr⟩, ⟨⟨-, hfc, -⟩, -⟩, hb3⟩
        have HB3 := Lib.hid (below_2 HB2.out hb3)
        clear hb3 hSr
        go_wp2_with fail
        go_ret2
        exact ⟨⟨none, 0, by rw [HR.out]; rfl, by rw [HR.out]; exact Sl.empty _⟩, HB3.out⟩
end Go.Proofs.Ytieloegadhgipaa.S
