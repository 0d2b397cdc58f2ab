/-
  The law on Apply, Union and Diff of layer 6, walked.
-/
import Derived.Test.YtieloegadhgipaaSOwn
namespace Go.Proofs.Ytieloegadhgipaa.S
open Go.RowKit
open Go.Proofs.Ytieloegadhgipaa.V (ret_bool ret_int ret_string below_2 below_box below_box2)

theorem appP_len (xs ys : List P) : (appP xs ys).length ≤ xs.length + ys.length := by
  unfold appP
  have h1 := foldP_len ys (goneP ys xs)
  have h2 := goneP_len ys xs xs.length
  rw [List.take_length] at h2
  omega
theorem aplP_len (xs ys : List P) : (aplP xs ys).1.length ≤ xs.length + ys.length := by
  unfold aplP
  split
  · exact appP_len xs ys
  · exact Nat.zero_le _
theorem uniP_len (xs ys : List P) : (uniP xs ys).1.length ≤ xs.length + ys.length := by
  unfold uniP
  split
  · split
    · exact Nat.zero_le _
    · exact appP_len xs ys
  · exact Nat.zero_le _
theorem difP_len (xs ys : List P) : (difP xs ys).length ≤ xs.length + ys.length := by
  have h1 := foldf_len (other xs) ys (delP ys xs) ys.length
  rw [List.take_length] at h1
  have h2 := delP_len ys xs xs.length
  rw [List.take_length] at h2
  unfold difP
  omega
theorem dffP_len (xs ys : List P) : (dffP xs ys).1.length ≤ xs.length + ys.length := by
  unfold dffP
  split
  · exact difP_len xs ys
  · exact Nat.zero_le _
set_option maxHeartbeats 4000000 in
set_option maxRecDepth 100000 in
theorem applies_walk (O : Own) (a b : Option Addr) (c d : Nat) (xs ys : List P) (hf : Fits xs) (hg : Fits ys) (hl : xs.length + ys.length ≤ 1000000000000) (w : World) (hA : Sl w a c xs) (hB : Sl w b d ys) :
    Calls Try.prog 4 #[.slice a xs.length c, .slice b ys.length d] w fun e w' => e = .returned (.bool true) ∧ Below w.heap.size w w' := by
  have HA := Lib.hid hA
  have HB := Lib.hid hB
  have P1 := Lib.hid (fun w hA hB => O.apply a b c d xs ys hf hg w hA hB)
  have P2 := Lib.hid (fun w (hA : Sl w a c xs) (hB : Sl w b d ys) => rapply_any a b c d xs ys hf hg w hA.prs hB.prs)
  have P3 := Lib.hid (fun w hA hB => O.union a b c d xs ys hf hg w hA hB)
  have P4 := Lib.hid (fun w (hA : Sl w a c xs) (hB : Sl w b d ys) => runion_any a b c d xs ys hf hg w hA.prs hB.prs)
  have P5 := Lib.hid (fun w hA hB => O.diff a b c d xs ys hf hg w hA hB)
  have P6 := Lib.hid (fun w (hA : Sl w a c xs) (hB : Sl w b d ys) => rdiff_any a b c d xs ys hf hg w hA.prs hB.prs)
  have PE := Lib.hid (examples_any O)
  have l1 := aplP_len xs ys
  have l2 := uniP_len xs ys
  have l3 := dffP_len xs ys
  generalize aplP xs ys = r1 at P1 P2 l1
  generalize uniP xs ys = r2 at P3 P4 l2
  generalize dffP xs ys = r3 at P5 P6 l3
  have L1 : Hid (r1.1.length ≤ 1000000000000) := by show _ ≤ _; omega
  have L2 : Hid (r2.1.length ≤ 1000000000000) := by show _ ≤ _; omega
  have L3 : Hid (r3.1.length ≤ 1000000000000) := by show _ ≤ _; omega
  generalize xs.length = n at P1 P2 P3 P4 P5 P6 ⊢
  generalize ys.length = m at P1 P2 P3 P4 P5 P6 ⊢
  clear hA hB hf hg O l1 l2 l3
  go_enter Try.func4, Try.ntmps4
  go_wp2_with fail
  refine (P1.out _ HA.out HB.out).mono ?_; rintro e w1 ⟨⟨a1, c1, rfl, hS1⟩, hb1⟩
  have HA1 := Lib.hid (HA.out.below hb1)
  have HB1 := Lib.hid (HB.out.below hb1)
  have H1 := Lib.hid hb1
  have HS1 := Lib.hid hS1
  clear hb1 hS1
  go_wp2_with fail
  refine (P2.out _ HA1.out HB1.out).mono ?_; rintro e w2 ⟨⟨a2, c2, rfl, hS2⟩, hb2⟩
  have HA2 := Lib.hid (HA1.out.below hb2)
  have HB2 := Lib.hid (HB1.out.below hb2)
  have H2 := Lib.hid (below_2 H1.out hb2)
  have HS2 := Lib.hid hS2
  have HS1 := Lib.hid (HS1.out.below hb2)
  clear hb2 hS2 HA1 HB1 H1
  go_wp2_with fail
  refine (rsame_any a1 a2 c1 c2 r1.1 r1.1 L1.out _ HS1.out.prs HS2.out.prs).mono ?_; rintro e w3 ⟨he, hb3⟩
  rw [same_self] at he
  subst he
  have HA3 := Lib.hid (HA2.out.below hb3)
  have HB3 := Lib.hid (HB2.out.below hb3)
  have H3 := Lib.hid (below_2 H2.out hb3)
  clear hb3 HS1 HS2 HA2 HB2 H2
  go_wp2_with fail
  refine (P3.out _ HA3.out HB3.out).mono ?_; rintro e w4 ⟨⟨a3, c3, rfl, hS3⟩, hb4⟩
  have HA4 := Lib.hid (HA3.out.below hb4)
  have HB4 := Lib.hid (HB3.out.below hb4)
  have H4 := Lib.hid (below_2 H3.out hb4)
  have HS3 := Lib.hid hS3
  clear hb4 hS3 HA3 HB3 H3
  go_wp2_with fail
  refine (P4.out _ HA4.out HB4.out).mono ?_; rintro e w5 ⟨⟨a4, c4, rfl, hS4⟩, hb5⟩
  have HA5 := Lib.hid (HA4.out.below hb5)
  have HB5 := Lib.hid (HB4.out.below hb5)
  have H5 := Lib.hid (below_2 H4.out hb5)
  have HS4 := Lib.hid hS4
  have HS3 := Lib.hid (HS3.out.below hb5)
  clear hb5 hS4 HA4 HB4 H4
  go_wp2_with fail
  refine (rsame_any a3 a4 c3 c4 r2.1 r2.1 L2.out _ HS3.out.prs HS4.out.prs).mono ?_; rintro e w6 ⟨he, hb6⟩
  rw [same_self] at he
  subst he
  have HA6 := Lib.hid (HA5.out.below hb6)
  have HB6 := Lib.hid (HB5.out.below hb6)
  have H6 := Lib.hid (below_2 H5.out hb6)
  clear hb6 HS3 HS4 HA5 HB5 H5
  go_wp2_with fail
  refine (P5.out _ HA6.out HB6.out).mono ?_; rintro e w7 ⟨⟨a5, c5, rfl, hS5⟩, hb7⟩
  have HA7 := Lib.hid (HA6.out.below hb7)
  have HB7 := Lib.hid (HB6.out.below hb7)
  have H7 := Lib.hid (below_2 H6.out hb7)
  have HS5 := Lib.hid hS5
  clear hb7 hS5 HA6 HB6 H6
  go_wp2_with fail
  refine (P6.out _ HA7.out HB7.out).mono ?_; rintro e w8 ⟨⟨a6, c6, rfl, hS6⟩, hb8⟩
  have H8 := Lib.hid (below_2 H7.out hb8)
  have HS6 := Lib.hid hS6
  have HS5 := Lib.hid (HS5.out.below hb8)
  clear hb8 hS6 HA7 HB7 H7
  go_wp2_with fail
  refine (rsame_any a5 a6 c5 c6 r3.1 r3.1 L3.out _ HS5.out.prs HS6.out.prs).mono ?_; rintro e w9 ⟨he, hb9⟩
  rw [same_self] at he
  subst he
  have H9 := Lib.hid (below_2 H8.out hb9)
  clear hb9 HS5 HS6 H8
  go_wp2_with fail
  refine (PE.out _).mono ?_; rintro e w10 ⟨rfl, hb10⟩
  go_wp2_with fail
  go_ret
  exact ⟨rfl, below_2 H9.out hb10⟩
end Go.Proofs.Ytieloegadhgipaa.S
