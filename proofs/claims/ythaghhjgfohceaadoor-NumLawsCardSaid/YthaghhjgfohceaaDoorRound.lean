/-
  Round trips and the laws of arithmetic, walked.
-/
import Derived.Test.YthaghhjgfohceaaDoorLaws
namespace Go.Proofs.YthaghhjgfohceaaDoor
open Go.RowKit

theorem itoa_size (n : Int) (h0 : -9223372036854775808 ≤ n) (h1 : n ≤ 9223372036854775807) : (ByteArray.mk (Lib.itoa n).toArray).size ≤ 9223372036854775807 := by
  have hd : ∀ u, u < 18446744073709551616 → (Lib.decDigits u).length ≤ 20 := by
    intro u hu
    have := ahead_size (x := u) (t := ⟨#[]⟩) (u := u) hu (by unfold ahead; rw [if_neg (by intro h; exact h.2 rfl)]; exact List.append_nil _)
    rw [Lib.decDigits_length]
    by_cases h0 : 1 ≤ u
    · have h3 := Lib.numDigits_eq u h0 hu
      have h4 : (if 10 ^ Lib.l10 (Lib.bitLen u) ≤ u then 1 else 0) ≤ 1 := by split <;> omega
      omega
    · rw [Lib.nDigits_small (by omega)]; omega
  rw [size_len]
  show (Lib.itoa n).length ≤ _
  have h2 := hd n.natAbs (by omega)
  have h3 := hd n.toNat (by omega)
  unfold Lib.itoa
  split
  · rw [List.length_cons]; omega
  · omega
/-- Parse on what Format wrote -/
theorem parse_form (n : Int) (h0 : -9223372036854775808 ≤ n) (h1 : n ≤ 9223372036854775807) (w : World) :
    Calls Tryd.prog 26 #[.string ⟨(Lib.itoa n).toArray⟩] w fun e w' => e = .returned (.tuple #[.int .i64 n, .int .i64 0]) ∧ w = w' := by
  have h := parse_any ⟨(Lib.itoa n).toArray⟩ w (itoa_size n h0 h1)
  have h2 := parse_itoa ⟨h0, h1⟩
  rw [show (ByteArray.mk (Lib.itoa n).toArray).data.toList = Lib.itoa n from rfl, h2.1, h2.2] at h
  exact h
theorem form_parse (s : ByteArray) (h : pE s.data.toList = 0) (w : World) (htab : Lib.TabIs Tryd.prog w "internal/strconv.uint64pow10" .u64 Lib.pow10Tab) :
    Calls Tryd.prog 24 #[.int .i64 (pV s.data.toList)] w fun e w' => e = .returned (.string s) ∧ Below w.heap.size w w' := by
  have hv := pV_bd s.data.toList
  have h2 := format_any _ hv.1 hv.2 w htab
  rw [itoa_parse h] at h2
  exact h2
theorem round_walk (n : Int) (h0 : -9223372036854775808 ≤ n) (h1 : n ≤ 9223372036854775807) (s : ByteArray) (hs : s.size ≤ 9223372036854775807) (w : World) (htab : Lib.TabIs Tryd.prog w "internal/strconv.uint64pow10" .u64 Lib.pow10Tab) :
    Calls Tryd.prog 9 #[.int .i64 n, .string s] w fun e w' => e = .returned (.bool true) ∧ Below w.heap.size w w' := by
  have HT := Lib.hid htab
  clear htab
  by_cases hl : 200 < s.size
  · go_enter Tryd.func9, Tryd.ntmps9
    go_wp2_with fail
    refine (format_any _ h0 h1 _ HT.out).mono ?_; rintro e w1 ⟨rfl, hb1⟩
    go_wp2_with fail
    refine (parse_form _ h0 h1 _).mono ?_; rintro e w2 ⟨rfl, rfl⟩
    go_wp2_with (go_at_call 13; refine (lives_any _ (tab_later HT.out hb1)).mono ?_; rintro e w3 ⟨rfl, hb3⟩)
    go_ret
    exact ⟨rfl, below_2 hb1 hb3⟩
  · go_enter Tryd.func9, Tryd.ntmps9
    go_wp2_with fail
    refine (format_any _ h0 h1 _ HT.out).mono ?_; rintro e w1 ⟨rfl, hb1⟩
    go_wp2_with fail
    refine (parse_form _ h0 h1 _).mono ?_; rintro e w2 ⟨rfl, rfl⟩
    go_wp2_with fail
    refine (parse_any _ _ hs).mono ?_; rintro e w3 ⟨rfl, rfl⟩
    by_cases he : pE s.data.toList = 0
    · have HF := Lib.hid (form_parse s he _ (tab_later HT.out hb1))
      have HE := Lib.hid he
      rw [he]
      clear he
      go_wp2_with (first
        | (go_at_call 24; refine HF.out.mono ?_; rintro e w4 ⟨rfl, hb4⟩)
        | (go_at_call 13; refine (lives_any _ (tab_later HT.out (below_2 hb1 hb4))).mono ?_; rintro e w3 ⟨rfl, hb3⟩))
      go_ret
      exact ⟨rfl, below_2 (below_2 hb1 hb4) hb3⟩
    · have hne : (pE s.data.toList != 0) = true := bne_iff_ne.2 he
      clear he
      go_wp2_with (go_at_call 13; refine (lives_any _ (tab_later HT.out hb1)).mono ?_; rintro e w3 ⟨rfl, hb3⟩)
      go_ret
      exact ⟨rfl, below_2 hb1 hb3⟩

theorem laws_over (a b c x e0 u g d i p j z k s l t m : Int) (w : World) (htab : Lib.TabIs Tryd.prog w "internal/strconv.uint64pow10" .u64 Lib.pow10Tab)
    (h1 : ∀ w, Calls Tryd.prog 14 #[.int .i64 a, .int .i64 b] w fun e w' => e = .returned (.tuple #[.int .i64 x, .int .i64 e0]) ∧ w = w')
    (h2 : ∀ w, Calls Tryd.prog 14 #[.int .i64 b, .int .i64 a] w fun e w' => e = .returned (.tuple #[.int .i64 x, .int .i64 e0]) ∧ w = w')
    (h3 : ∀ w, Calls Tryd.prog 20 #[.int .i64 a, .int .i64 b] w fun e w' => e = .returned (.tuple #[.int .i64 u, .int .i64 g]) ∧ w = w')
    (h4 : ∀ w, Calls Tryd.prog 20 #[.int .i64 b, .int .i64 a] w fun e w' => e = .returned (.tuple #[.int .i64 u, .int .i64 g]) ∧ w = w')
    (h5 : ∀ w, Calls Tryd.prog 16 #[.int .i64 x, .int .i64 b] w fun e w' => e = .returned (.tuple #[.int .i64 d, .int .i64 i]) ∧ w = w')
    (h6 : ∀ w, Calls Tryd.prog 20 #[.int .i64 a, .int .i64 c] w fun e w' => e = .returned (.tuple #[.int .i64 p, .int .i64 j]) ∧ w = w')
    (h7 : ∀ w, Calls Tryd.prog 20 #[.int .i64 b, .int .i64 c] w fun e w' => e = .returned (.tuple #[.int .i64 z, .int .i64 k]) ∧ w = w')
    (h8 : ∀ w, Calls Tryd.prog 14 #[.int .i64 p, .int .i64 z] w fun e w' => e = .returned (.tuple #[.int .i64 s, .int .i64 l]) ∧ w = w')
    (h9 : ∀ w, Calls Tryd.prog 20 #[.int .i64 x, .int .i64 c] w fun e w' => e = .returned (.tuple #[.int .i64 t, .int .i64 m]) ∧ w = w')
    (n1 : (e0 == 0) = false) (n2 : (e0 != 0) = true) :
    Calls Tryd.prog 10 #[.int .i64 a, .int .i64 b, .int .i64 c] w fun e w' => e = .returned (.bool true) ∧ Below w.heap.size w w' := by
  have HT := Lib.hid htab
  have H1 := Lib.hid h1
  have H2 := Lib.hid h2
  have H3 := Lib.hid h3
  have H4 := Lib.hid h4
  have H5 := Lib.hid h5
  have H6 := Lib.hid h6
  have H7 := Lib.hid h7
  have H8 := Lib.hid h8
  have H9 := Lib.hid h9
  clear htab h1 h2 h3 h4 h5 h6 h7 h8 h9
  go_enter Tryd.func10, Tryd.ntmps10
  go_wp2_with fail
  with_reducible refine (H1.out _).mono ?_
  rintro e w' ⟨rfl, rfl⟩
  go_wp2_with fail
  with_reducible refine (H2.out _).mono ?_
  rintro e w' ⟨rfl, rfl⟩
  go_wp2_with fail
  with_reducible refine (H3.out _).mono ?_
  rintro e w' ⟨rfl, rfl⟩
  go_wp2_with fail
  with_reducible refine (H4.out _).mono ?_
  rintro e w' ⟨rfl, rfl⟩
  go_wp2_with fail
  with_reducible refine (H5.out _).mono ?_
  rintro e w' ⟨rfl, rfl⟩
  go_wp2_with fail
  with_reducible refine (H6.out _).mono ?_
  rintro e w' ⟨rfl, rfl⟩
  go_wp2_with fail
  with_reducible refine (H7.out _).mono ?_
  rintro e w' ⟨rfl, rfl⟩
  go_wp2_with fail
  with_reducible refine (H8.out _).mono ?_
  rintro e w' ⟨rfl, rfl⟩
  go_wp2_with fail
  with_reducible refine (H9.out _).mono ?_
  rintro e w' ⟨rfl, rfl⟩
  go_wp2_with (go_at_call 13; refine (lives_any _ HT.out).mono ?_; rintro e w' ⟨rfl, hw⟩)
  go_ret
  exact ⟨rfl, hw⟩
theorem laws_left (a b c x u g p j z k s l t m : Int) (w : World) (htab : Lib.TabIs Tryd.prog w "internal/strconv.uint64pow10" .u64 Lib.pow10Tab)
    (h1 : ∀ w, Calls Tryd.prog 14 #[.int .i64 a, .int .i64 b] w fun e w' => e = .returned (.tuple #[.int .i64 x, .int .i64 0]) ∧ w = w')
    (h2 : ∀ w, Calls Tryd.prog 14 #[.int .i64 b, .int .i64 a] w fun e w' => e = .returned (.tuple #[.int .i64 x, .int .i64 0]) ∧ w = w')
    (h3 : ∀ w, Calls Tryd.prog 20 #[.int .i64 a, .int .i64 b] w fun e w' => e = .returned (.tuple #[.int .i64 u, .int .i64 g]) ∧ w = w')
    (h4 : ∀ w, Calls Tryd.prog 20 #[.int .i64 b, .int .i64 a] w fun e w' => e = .returned (.tuple #[.int .i64 u, .int .i64 g]) ∧ w = w')
    (h5 : ∀ w, Calls Tryd.prog 16 #[.int .i64 x, .int .i64 b] w fun e w' => e = .returned (.tuple #[.int .i64 a, .int .i64 0]) ∧ w = w')
    (h6 : ∀ w, Calls Tryd.prog 20 #[.int .i64 a, .int .i64 c] w fun e w' => e = .returned (.tuple #[.int .i64 p, .int .i64 j]) ∧ w = w')
    (h7 : ∀ w, Calls Tryd.prog 20 #[.int .i64 b, .int .i64 c] w fun e w' => e = .returned (.tuple #[.int .i64 z, .int .i64 k]) ∧ w = w')
    (h8 : ∀ w, Calls Tryd.prog 14 #[.int .i64 p, .int .i64 z] w fun e w' => e = .returned (.tuple #[.int .i64 s, .int .i64 l]) ∧ w = w')
    (h9 : ∀ w, Calls Tryd.prog 20 #[.int .i64 x, .int .i64 c] w fun e w' => e = .returned (.tuple #[.int .i64 t, .int .i64 m]) ∧ w = w')
    (n1 : (j != 0) = true) :
    Calls Tryd.prog 10 #[.int .i64 a, .int .i64 b, .int .i64 c] w fun e w' => e = .returned (.bool true) ∧ Below w.heap.size w w' := by
  have HT := Lib.hid htab
  have H1 := Lib.hid h1
  have H2 := Lib.hid h2
  have H3 := Lib.hid h3
  have H4 := Lib.hid h4
  have H5 := Lib.hid h5
  have H6 := Lib.hid h6
  have H7 := Lib.hid h7
  have H8 := Lib.hid h8
  have H9 := Lib.hid h9
  clear htab h1 h2 h3 h4 h5 h6 h7 h8 h9
  go_enter Tryd.func10, Tryd.ntmps10
  go_wp2_with fail
  with_reducible refine (H1.out _).mono ?_
  rintro e w' ⟨rfl, rfl⟩
  go_wp2_with fail
  with_reducible refine (H2.out _).mono ?_
  rintro e w' ⟨rfl, rfl⟩
  go_wp2_with fail
  with_reducible refine (H3.out _).mono ?_
  rintro e w' ⟨rfl, rfl⟩
  go_wp2_with fail
  with_reducible refine (H4.out _).mono ?_
  rintro e w' ⟨rfl, rfl⟩
  go_wp2_with fail
  with_reducible refine (H5.out _).mono ?_
  rintro e w' ⟨rfl, rfl⟩
  go_wp2_with fail
  with_reducible refine (H6.out _).mono ?_
  rintro e w' ⟨rfl, rfl⟩
  go_wp2_with fail
  with_reducible refine (H7.out _).mono ?_
  rintro e w' ⟨rfl, rfl⟩
  go_wp2_with fail
  with_reducible refine (H8.out _).mono ?_
  rintro e w' ⟨rfl, rfl⟩
  go_wp2_with fail
  with_reducible refine (H9.out _).mono ?_
  rintro e w' ⟨rfl, rfl⟩
  go_wp2_with (go_at_call 13; refine (lives_any _ HT.out).mono ?_; rintro e w' ⟨rfl, hw⟩)
  go_ret
  exact ⟨rfl, hw⟩
theorem laws_right (a b c x u g p z k s l t m : Int) (w : World) (htab : Lib.TabIs Tryd.prog w "internal/strconv.uint64pow10" .u64 Lib.pow10Tab)
    (h1 : ∀ w, Calls Tryd.prog 14 #[.int .i64 a, .int .i64 b] w fun e w' => e = .returned (.tuple #[.int .i64 x, .int .i64 0]) ∧ w = w')
    (h2 : ∀ w, Calls Tryd.prog 14 #[.int .i64 b, .int .i64 a] w fun e w' => e = .returned (.tuple #[.int .i64 x, .int .i64 0]) ∧ w = w')
    (h3 : ∀ w, Calls Tryd.prog 20 #[.int .i64 a, .int .i64 b] w fun e w' => e = .returned (.tuple #[.int .i64 u, .int .i64 g]) ∧ w = w')
    (h4 : ∀ w, Calls Tryd.prog 20 #[.int .i64 b, .int .i64 a] w fun e w' => e = .returned (.tuple #[.int .i64 u, .int .i64 g]) ∧ w = w')
    (h5 : ∀ w, Calls Tryd.prog 16 #[.int .i64 x, .int .i64 b] w fun e w' => e = .returned (.tuple #[.int .i64 a, .int .i64 0]) ∧ w = w')
    (h6 : ∀ w, Calls Tryd.prog 20 #[.int .i64 a, .int .i64 c] w fun e w' => e = .returned (.tuple #[.int .i64 p, .int .i64 0]) ∧ w = w')
    (h7 : ∀ w, Calls Tryd.prog 20 #[.int .i64 b, .int .i64 c] w fun e w' => e = .returned (.tuple #[.int .i64 z, .int .i64 k]) ∧ w = w')
    (h8 : ∀ w, Calls Tryd.prog 14 #[.int .i64 p, .int .i64 z] w fun e w' => e = .returned (.tuple #[.int .i64 s, .int .i64 l]) ∧ w = w')
    (h9 : ∀ w, Calls Tryd.prog 20 #[.int .i64 x, .int .i64 c] w fun e w' => e = .returned (.tuple #[.int .i64 t, .int .i64 m]) ∧ w = w')
    (n1 : (k != 0) = true) :
    Calls Tryd.prog 10 #[.int .i64 a, .int .i64 b, .int .i64 c] w fun e w' => e = .returned (.bool true) ∧ Below w.heap.size w w' := by
  have HT := Lib.hid htab
  have H1 := Lib.hid h1
  have H2 := Lib.hid h2
  have H3 := Lib.hid h3
  have H4 := Lib.hid h4
  have H5 := Lib.hid h5
  have H6 := Lib.hid h6
  have H7 := Lib.hid h7
  have H8 := Lib.hid h8
  have H9 := Lib.hid h9
  clear htab h1 h2 h3 h4 h5 h6 h7 h8 h9
  go_enter Tryd.func10, Tryd.ntmps10
  go_wp2_with fail
  with_reducible refine (H1.out _).mono ?_
  rintro e w' ⟨rfl, rfl⟩
  go_wp2_with fail
  with_reducible refine (H2.out _).mono ?_
  rintro e w' ⟨rfl, rfl⟩
  go_wp2_with fail
  with_reducible refine (H3.out _).mono ?_
  rintro e w' ⟨rfl, rfl⟩
  go_wp2_with fail
  with_reducible refine (H4.out _).mono ?_
  rintro e w' ⟨rfl, rfl⟩
  go_wp2_with fail
  with_reducible refine (H5.out _).mono ?_
  rintro e w' ⟨rfl, rfl⟩
  go_wp2_with fail
  with_reducible refine (H6.out _).mono ?_
  rintro e w' ⟨rfl, rfl⟩
  go_wp2_with fail
  with_reducible refine (H7.out _).mono ?_
  rintro e w' ⟨rfl, rfl⟩
  go_wp2_with fail
  with_reducible refine (H8.out _).mono ?_
  rintro e w' ⟨rfl, rfl⟩
  go_wp2_with fail
  with_reducible refine (H9.out _).mono ?_
  rintro e w' ⟨rfl, rfl⟩
  go_wp2_with (go_at_call 13; refine (lives_any _ HT.out).mono ?_; rintro e w' ⟨rfl, hw⟩)
  go_ret
  exact ⟨rfl, hw⟩
theorem laws_sum (a b c x u g p z s l t m : Int) (w : World) (htab : Lib.TabIs Tryd.prog w "internal/strconv.uint64pow10" .u64 Lib.pow10Tab)
    (h1 : ∀ w, Calls Tryd.prog 14 #[.int .i64 a, .int .i64 b] w fun e w' => e = .returned (.tuple #[.int .i64 x, .int .i64 0]) ∧ w = w')
    (h2 : ∀ w, Calls Tryd.prog 14 #[.int .i64 b, .int .i64 a] w fun e w' => e = .returned (.tuple #[.int .i64 x, .int .i64 0]) ∧ w = w')
    (h3 : ∀ w, Calls Tryd.prog 20 #[.int .i64 a, .int .i64 b] w fun e w' => e = .returned (.tuple #[.int .i64 u, .int .i64 g]) ∧ w = w')
    (h4 : ∀ w, Calls Tryd.prog 20 #[.int .i64 b, .int .i64 a] w fun e w' => e = .returned (.tuple #[.int .i64 u, .int .i64 g]) ∧ w = w')
    (h5 : ∀ w, Calls Tryd.prog 16 #[.int .i64 x, .int .i64 b] w fun e w' => e = .returned (.tuple #[.int .i64 a, .int .i64 0]) ∧ w = w')
    (h6 : ∀ w, Calls Tryd.prog 20 #[.int .i64 a, .int .i64 c] w fun e w' => e = .returned (.tuple #[.int .i64 p, .int .i64 0]) ∧ w = w')
    (h7 : ∀ w, Calls Tryd.prog 20 #[.int .i64 b, .int .i64 c] w fun e w' => e = .returned (.tuple #[.int .i64 z, .int .i64 0]) ∧ w = w')
    (h8 : ∀ w, Calls Tryd.prog 14 #[.int .i64 p, .int .i64 z] w fun e w' => e = .returned (.tuple #[.int .i64 s, .int .i64 l]) ∧ w = w')
    (h9 : ∀ w, Calls Tryd.prog 20 #[.int .i64 x, .int .i64 c] w fun e w' => e = .returned (.tuple #[.int .i64 t, .int .i64 m]) ∧ w = w')
    (n1 : (l != 0) = true) :
    Calls Tryd.prog 10 #[.int .i64 a, .int .i64 b, .int .i64 c] w fun e w' => e = .returned (.bool true) ∧ Below w.heap.size w w' := by
  have HT := Lib.hid htab
  have H1 := Lib.hid h1
  have H2 := Lib.hid h2
  have H3 := Lib.hid h3
  have H4 := Lib.hid h4
  have H5 := Lib.hid h5
  have H6 := Lib.hid h6
  have H7 := Lib.hid h7
  have H8 := Lib.hid h8
  have H9 := Lib.hid h9
  clear htab h1 h2 h3 h4 h5 h6 h7 h8 h9
  go_enter Tryd.func10, Tryd.ntmps10
  go_wp2_with fail
  with_reducible refine (H1.out _).mono ?_
  rintro e w' ⟨rfl, rfl⟩
  go_wp2_with fail
  with_reducible refine (H2.out _).mono ?_
  rintro e w' ⟨rfl, rfl⟩
  go_wp2_with fail
  with_reducible refine (H3.out _).mono ?_
  rintro e w' ⟨rfl, rfl⟩
  go_wp2_with fail
  with_reducible refine (H4.out _).mono ?_
  rintro e w' ⟨rfl, rfl⟩
  go_wp2_with fail
  with_reducible refine (H5.out _).mono ?_
  rintro e w' ⟨rfl, rfl⟩
  go_wp2_with fail
  with_reducible refine (H6.out _).mono ?_
  rintro e w' ⟨rfl, rfl⟩
  go_wp2_with fail
  with_reducible refine (H7.out _).mono ?_
  rintro e w' ⟨rfl, rfl⟩
  go_wp2_with fail
  with_reducible refine (H8.out _).mono ?_
  rintro e w' ⟨rfl, rfl⟩
  go_wp2_with fail
  with_reducible refine (H9.out _).mono ?_
  rintro e w' ⟨rfl, rfl⟩
  go_wp2_with (go_at_call 13; refine (lives_any _ HT.out).mono ?_; rintro e w' ⟨rfl, hw⟩)
  go_ret
  exact ⟨rfl, hw⟩
theorem laws_all (a b c x u g p z s : Int) (w : World) (htab : Lib.TabIs Tryd.prog w "internal/strconv.uint64pow10" .u64 Lib.pow10Tab)
    (h1 : ∀ w, Calls Tryd.prog 14 #[.int .i64 a, .int .i64 b] w fun e w' => e = .returned (.tuple #[.int .i64 x, .int .i64 0]) ∧ w = w')
    (h2 : ∀ w, Calls Tryd.prog 14 #[.int .i64 b, .int .i64 a] w fun e w' => e = .returned (.tuple #[.int .i64 x, .int .i64 0]) ∧ w = w')
    (h3 : ∀ w, Calls Tryd.prog 20 #[.int .i64 a, .int .i64 b] w fun e w' => e = .returned (.tuple #[.int .i64 u, .int .i64 g]) ∧ w = w')
    (h4 : ∀ w, Calls Tryd.prog 20 #[.int .i64 b, .int .i64 a] w fun e w' => e = .returned (.tuple #[.int .i64 u, .int .i64 g]) ∧ w = w')
    (h5 : ∀ w, Calls Tryd.prog 16 #[.int .i64 x, .int .i64 b] w fun e w' => e = .returned (.tuple #[.int .i64 a, .int .i64 0]) ∧ w = w')
    (h6 : ∀ w, Calls Tryd.prog 20 #[.int .i64 a, .int .i64 c] w fun e w' => e = .returned (.tuple #[.int .i64 p, .int .i64 0]) ∧ w = w')
    (h7 : ∀ w, Calls Tryd.prog 20 #[.int .i64 b, .int .i64 c] w fun e w' => e = .returned (.tuple #[.int .i64 z, .int .i64 0]) ∧ w = w')
    (h8 : ∀ w, Calls Tryd.prog 14 #[.int .i64 p, .int .i64 z] w fun e w' => e = .returned (.tuple #[.int .i64 s, .int .i64 0]) ∧ w = w')
    (h9 : ∀ w, Calls Tryd.prog 20 #[.int .i64 x, .int .i64 c] w fun e w' => e = .returned (.tuple #[.int .i64 s, .int .i64 0]) ∧ w = w')
    :
    Calls Tryd.prog 10 #[.int .i64 a, .int .i64 b, .int .i64 c] w fun e w' => e = .returned (.bool true) ∧ Below w.heap.size w w' := by
  have HT := Lib.hid htab
  have H1 := Lib.hid h1
  have H2 := Lib.hid h2
  have H3 := Lib.hid h3
  have H4 := Lib.hid h4
  have H5 := Lib.hid h5
  have H6 := Lib.hid h6
  have H7 := Lib.hid h7
  have H8 := Lib.hid h8
  have H9 := Lib.hid h9
  clear htab h1 h2 h3 h4 h5 h6 h7 h8 h9
  go_enter Tryd.func10, Tryd.ntmps10
  go_wp2_with fail
  with_reducible refine (H1.out _).mono ?_
  rintro e w' ⟨rfl, rfl⟩
  go_wp2_with fail
  with_reducible refine (H2.out _).mono ?_
  rintro e w' ⟨rfl, rfl⟩
  go_wp2_with fail
  with_reducible refine (H3.out _).mono ?_
  rintro e w' ⟨rfl, rfl⟩
  go_wp2_with fail
  with_reducible refine (H4.out _).mono ?_
  rintro e w' ⟨rfl, rfl⟩
  go_wp2_with fail
  with_reducible refine (H5.out _).mono ?_
  rintro e w' ⟨rfl, rfl⟩
  go_wp2_with fail
  with_reducible refine (H6.out _).mono ?_
  rintro e w' ⟨rfl, rfl⟩
  go_wp2_with fail
  with_reducible refine (H7.out _).mono ?_
  rintro e w' ⟨rfl, rfl⟩
  go_wp2_with fail
  with_reducible refine (H8.out _).mono ?_
  rintro e w' ⟨rfl, rfl⟩
  go_wp2_with fail
  with_reducible refine (H9.out _).mono ?_
  rintro e w' ⟨rfl, rfl⟩
  go_wp2_with (go_at_call 13; refine (lives_any _ HT.out).mono ?_; rintro e w' ⟨rfl, hw⟩)
  go_ret
  exact ⟨rfl, hw⟩
theorem laws_walk (a b c : Int) (ha : -9223372036854775808 ≤ a) (ha' : a ≤ 9223372036854775807) (hb : -9223372036854775808 ≤ b) (hb' : b ≤ 9223372036854775807) (hc : -9223372036854775808 ≤ c) (hc' : c ≤ 9223372036854775807) (w : World)
    (htab : Lib.TabIs Tryd.prog w "internal/strconv.uint64pow10" .u64 Lib.pow10Tab) :
    Calls Tryd.prog 10 #[.int .i64 a, .int .i64 b, .int .i64 c] w fun e w' => e = .returned (.bool true) ∧ Below w.heap.size w w' := by
  have hx := vR_bd (a + b)
  have hp := vR_bd (a * c)
  have hz := vR_bd (b * c)
  have h1 := fun w => add_any a b ha ha' hb hb' w
  have h2 := fun w => add_any b a hb hb' ha ha' w
  have h3 := fun w => mul_any a b ha ha' hb hb' w
  have h4 := fun w => mul_any b a hb hb' ha ha' w
  have h5 := fun w => sub_any (vR (a + b)) b hx.1 hx.2 hb hb' w
  have h6 := fun w => mul_any a c ha ha' hc hc' w
  have h7 := fun w => mul_any b c hb hb' hc hc' w
  have h8 := fun w => add_any (vR (a * c)) (vR (b * c)) hp.1 hp.2 hz.1 hz.2 w
  have h9 := fun w => mul_any (vR (a + b)) c hx.1 hx.2 hc hc' w
  rw [Int.add_comm b a] at h2
  rw [Int.mul_comm b a] at h4
  by_cases i1 : -9223372036854775808 ≤ a + b ∧ a + b ≤ 9223372036854775807
  · rw [vR_in i1] at *
    rw [eR_in i1] at *
    rw [show a + b - b = a by omega, vR_in ⟨ha, ha'⟩, eR_in ⟨ha, ha'⟩] at h5
    rw [Int.add_mul] at h9
    by_cases i2 : -9223372036854775808 ≤ a * c ∧ a * c ≤ 9223372036854775807
    · rw [vR_in i2] at *
      rw [eR_in i2] at *
      by_cases i3 : -9223372036854775808 ≤ b * c ∧ b * c ≤ 9223372036854775807
      · rw [vR_in i3] at *
        rw [eR_in i3] at *
        by_cases i4 : -9223372036854775808 ≤ a * c + b * c ∧ a * c + b * c ≤ 9223372036854775807
        · rw [vR_in i4, eR_in i4] at h8 h9
          exact laws_all _ _ _ _ _ _ _ _ _ w htab h1 h2 h3 h4 h5 h6 h7 h8 h9
        · exact laws_sum _ _ _ _ _ _ _ _ _ _ _ _ w htab h1 h2 h3 h4 h5 h6 h7 h8 h9 (show (eR (a * c + b * c) != 0) = true by rw [eR_out i4]; decide)
      · exact laws_right _ _ _ _ _ _ _ _ _ _ _ _ _ w htab h1 h2 h3 h4 h5 h6 h7 h8 h9 (show (eR (b * c) != 0) = true by rw [eR_out i3]; decide)
    · exact laws_left _ _ _ _ _ _ _ _ _ _ _ _ _ _ w htab h1 h2 h3 h4 h5 h6 h7 h8 h9 (show (eR (a * c) != 0) = true by rw [eR_out i2]; decide)
  · exact laws_over _ _ _ _ _ _ _ _ _ _ _ _ _ _ _ _ _ w htab h1 h2 h3 h4 h5 h6 h7 h8 h9 (show (eR (a + b) == 0) = false by rw [eR_out i1]; decide) (show (eR (a + b) != 0) = true by rw [eR_out i1]; decide)
end Go.Proofs.YthaghhjgfohceaaDoor
