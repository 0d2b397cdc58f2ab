/-
  What the reference of layer 7 returns: Word, token: contracts, one a function.
-/
import Derived.Test.YtaimmcibdepejaaDoorLMem
namespace Go.Proofs.YtaimmcibdepejaaDoor.L
open Go.RowKit

/-- a token and an error -/
def pairW (r : Tok × Int) : Value := .tuple #[.agg #[.int .i64 r.1.k, .string ⟨r.1.t.toArray⟩, .int .i64 r.1.n, .int .i64 r.1.line], .int .i64 r.2]
theorem head_cons {s : ByteArray} (h : 0 < s.size) : headL s.data.toList = letter s[0] := by rw [list_cons h]; rfl
theorem wd_kw {s : ByteArray} (h : isKw s.data.toList = true) : word s.data.toList = (⟨2, s.data.toList, 0, 0⟩, 0) := word_kw h
theorem wd_name {s : ByteArray} (h : isName s.data.toList = true) : word s.data.toList = (⟨1, s.data.toList, 0, 0⟩, 0) := word_name h
theorem wd_long {s : ByteArray} (h0 : 0 < s.size) (h1 : letter s[0] = true) (h2 : isKw s.data.toList = false) (h3 : isName s.data.toList = false) : word s.data.toList = (noTok, 2) := by
  unfold word
  rw [if_pos (by rw [head_cons h0]; exact h1), if_neg (by rw [h2]; decide), if_neg (by rw [h3]; decide)]
theorem wd_int {s : ByteArray} (h0 : 0 < s.size) (h1 : letter s[0] = false) (h2 : pE s.data.toList = 0) : word s.data.toList = (⟨3, [], pV s.data.toList, 0⟩, 0) := by
  unfold word
  rw [if_neg (by rw [head_cons h0, h1]; decide), if_pos h2]
theorem wd_bad {s : ByteArray} (h0 : 0 < s.size) (h1 : letter s[0] = false) (h2 : pE s.data.toList ≠ 0) : word s.data.toList = (noTok, pE s.data.toList) := by
  unfold word
  rw [if_neg (by rw [head_cons h0, h1]; decide), if_neg h2]
set_option maxHeartbeats 2000000 in
set_option maxRecDepth 100000 in
theorem rword_any (s : ByteArray) (hs : s.size ≤ 1000000) (h0 : 0 < s.size) (w : World) :
    Calls Tryd.prog 58 #[.string s] w fun e w' => e = .returned (pairW (word s.data.toList)) ∧ Below w.heap.size w w' := by
  have HM := Lib.hid (MineT.zero w)
  have HW := Lib.hid (fun x => below_box w (.cells x 31))
  have HL0 := Lib.hid (letter_any s[0])
  have HK := Lib.hid (isKw_any s)
  have HI := Lib.hid (isName_any s (by omega))
  cases hl : letter s[0]
  · rw [hl] at HL0
    have hp := fun w => rparse_any s w (by omega)
    by_cases he : pE s.data.toList = 0
    · have HV := Lib.hid (wd_int h0 hl he)
      rw [he] at hp
      have HP := Lib.hid hp
      rw [HV.out]
      generalize pV s.data.toList = n at HP ⊢
      clear hp he hl HK HI HV
      go_enter Tryd.func58, Tryd.ntmps58
      go_wp2_with fail
      refine (HL0.out _).mono ?_; rintro e w1 ⟨rfl, rfl⟩
      go_wp2_with fail
      refine (HP.out _).mono ?_; rintro e w2 ⟨rfl, rfl⟩
      go_wp2_with fail
      refine bodyPost_ret (v := .tuple #[.agg #[.int .i64 3, .string ⟨#[]⟩, .int .i64 n, .int .i64 0], .int .i64 0]) (by simp [results, Tryd.results58, go_sem]) rfl ⟨rfl, HW.out _⟩
    · have HV := Lib.hid (wd_bad h0 hl he)
      have HP := Lib.hid hp
      have bE : (pE s.data.toList != 0) = true := bne_iff_ne.2 he
      rw [HV.out]
      generalize pV s.data.toList = n at HP
      generalize pE s.data.toList = E at HP bE ⊢
      clear hp he hl HK HI HV
      go_enter Tryd.func58, Tryd.ntmps58
      go_wp2_with fail
      refine (HL0.out _).mono ?_; rintro e w1 ⟨rfl, rfl⟩
      go_wp2_with fail
      refine (HP.out _).mono ?_; rintro e w2 ⟨rfl, rfl⟩
      go_wp2_with fail
      refine bodyPost_ret (v := .tuple #[.agg #[.int .i64 0, .string ⟨#[]⟩, .int .i64 0, .int .i64 0], .int .i64 E]) (by simp [results, Tryd.results58, go_sem]) rfl ⟨rfl, HW.out _⟩
  · rw [hl] at HL0
    cases hk : isKw s.data.toList
    · rw [hk] at HK
      cases hn : isName s.data.toList
      · have HV := Lib.hid (wd_long h0 hl hk hn)
        rw [hn] at HI
        rw [HV.out]
        clear hl hk hn HV
        go_enter Tryd.func58, Tryd.ntmps58
        go_wp2_with fail
        refine (HL0.out _).mono ?_; rintro e w0 ⟨rfl, rfl⟩
        go_wp2_with fail
        refine (HK.out _).mono ?_; rintro e w1 ⟨rfl, hb1⟩
        go_wp2_with fail
        refine (HI.out _).mono ?_; rintro e w2 ⟨rfl, hb2⟩
        obtain ⟨⟨p, d0, d1, d2, d3⟩, g0, g1, g2, g3⟩ := (HM.out.below hb1 (by simp)).below hb2 (HM.out.below hb1 (by simp)).lt
        simp only [Nat.zero_add] at d0 d1 d2 d3
        have HB := Lib.hid (below_2 (below_2 (HW.out _) hb1) hb2)
        go_wp2_with fail
        obtain ⟨q0, q1, q2, q3⟩ := storedT (w := w2) (b := w.heap.size) (p := p) ⟨d0, d1, d2, d3⟩ ⟨0, ⟨#[]⟩, 0, 0⟩
        simp only [Nat.zero_add] at q0 q1 q2 q3
        refine bodyPost_ret (v := .tuple #[.agg #[.int .i64 0, .string ⟨#[]⟩, .int .i64 0, .int .i64 0], .int .i64 2]) (by simp [results, Tryd.results58, go_sem, q0, q1, q2, q3]) rfl ⟨rfl, storedT_below HB.out (Nat.le_refl _) _ _ _ _⟩
      · have HV := Lib.hid (wd_name hn)
        rw [hn] at HI
        rw [HV.out]
        clear hl hk hn HV
        go_enter Tryd.func58, Tryd.ntmps58
        go_wp2_with fail
        refine (HL0.out _).mono ?_; rintro e w0 ⟨rfl, rfl⟩
        go_wp2_with fail
        refine (HK.out _).mono ?_; rintro e w1 ⟨rfl, hb1⟩
        go_wp2_with fail
        refine (HI.out _).mono ?_; rintro e w2 ⟨rfl, hb2⟩
        obtain ⟨⟨p, d0, d1, d2, d3⟩, g0, g1, g2, g3⟩ := (HM.out.below hb1 (by simp)).below hb2 (HM.out.below hb1 (by simp)).lt
        simp only [Nat.zero_add] at d0 d1 d2 d3
        have HB := Lib.hid (below_2 (below_2 (HW.out _) hb1) hb2)
        go_wp2_with fail
        obtain ⟨q0, q1, q2, q3⟩ := storedT (w := w2) (b := w.heap.size) (p := p) ⟨d0, d1, d2, d3⟩ ⟨1, s, 0, 0⟩
        simp only [Nat.zero_add] at q0 q1 q2 q3
        refine bodyPost_ret (v := .tuple #[.agg #[.int .i64 1, .string s, .int .i64 0, .int .i64 0], .int .i64 0]) (by simp [results, Tryd.results58, go_sem, q0, q1, q2, q3]) rfl ⟨rfl, storedT_below HB.out (Nat.le_refl _) _ _ _ _⟩
    · rw [hk] at HK
      have HV := Lib.hid (wd_kw hk)
      rw [HV.out]
      clear hl hk HV HI
      go_enter Tryd.func58, Tryd.ntmps58
      go_wp2_with fail
      refine (HL0.out _).mono ?_; rintro e w0 ⟨rfl, rfl⟩
      go_wp2_with fail
      refine (HK.out _).mono ?_; rintro e w1 ⟨rfl, hb1⟩
      obtain ⟨⟨p, d0, d1, d2, d3⟩, g0, g1, g2, g3⟩ := HM.out.below hb1 (by simp)
      simp only [Nat.zero_add] at d0 d1 d2 d3
      have HB := Lib.hid (below_2 (HW.out _) hb1)
      go_wp2_with fail
      obtain ⟨q0, q1, q2, q3⟩ := storedT (w := w1) (b := w.heap.size) (p := p) ⟨d0, d1, d2, d3⟩ ⟨2, s, 0, 0⟩
      simp only [Nat.zero_add] at q0 q1 q2 q3
      refine bodyPost_ret (v := .tuple #[.agg #[.int .i64 2, .string s, .int .i64 0, .int .i64 0], .int .i64 0]) (by simp [results, Tryd.results58, go_sem, q0, q1, q2, q3]) rfl ⟨rfl, storedT_below HB.out (Nat.le_refl _) _ _ _ _⟩
end Go.Proofs.YtaimmcibdepejaaDoor.L
