/-
  What the program's own functions of layer 6 must return (Own); the law package's own examples, over it.
-/
import Derived.Test.YtieloegadhgipaaSDecs
namespace Go.Proofs.Ytieloegadhgipaa.S
open Go.RowKit
open Go.Proofs.Ytieloegadhgipaa.V (ret_bool ret_int ret_string below_2 below_box below_box2)

structure Own : Prop where
  valid : ∀ (a : Option Addr) (c : Nat) (xs : List P), Fits xs → ∀ w, Sl w a c xs → Calls Try.prog 11 #[.slice a xs.length c] w fun e w' => e = .returned (.bool (vs (prs xs))) ∧ Below w.heap.size w w'
  get : ∀ (a : Option Addr) (c : Nat) (xs : List P) (q : ByteArray), Fits xs → ∀ w, Sl w a c xs → Calls Try.prog 16 #[.slice a xs.length c, .string q] w fun e w' => e = .returned (getP xs q).v ∧ Below w.heap.size w w'
  same : ∀ (a b : Option Addr) (c d : Nat) (xs ys : List P), Fits xs → Fits ys → ∀ w, Sl w a c xs → Sl w b d ys → Calls Try.prog 14 #[.slice a xs.length c, .slice b ys.length d] w fun e w' => e = .returned (.bool (same xs ys)) ∧ Below w.heap.size w w'
  apply : ∀ (a b : Option Addr) (c d : Nat) (xs ys : List P), Fits xs → Fits ys → ∀ w, Sl w a c xs → Sl w b d ys → Calls Try.prog 13 #[.slice a xs.length c, .slice b ys.length d] w fun e w' => Gives e w' (aplP xs ys) ∧ Below w.heap.size w w'
  slice : ∀ (a : Option Addr) (c : Nat) (xs : List P) (f t : ByteArray), Fits xs → f.size ≤ 9223372036854775807 → t.size ≤ 9223372036854775807 → ∀ w, Sl w a c xs → Calls Try.prog 23 #[.slice a xs.length c, .agg #[.string f, .string t]] w fun e w' => GivesL e w' (sliP f t xs) ∧ Below w.heap.size w w'
  union : ∀ (a b : Option Addr) (c d : Nat) (xs ys : List P), Fits xs → Fits ys → ∀ w, Sl w a c xs → Sl w b d ys → Calls Try.prog 18 #[.slice a xs.length c, .slice b ys.length d] w fun e w' => Gives e w' (uniP xs ys) ∧ Below w.heap.size w w'
  diff : ∀ (a b : Option Addr) (c d : Nat) (xs ys : List P), Fits xs → Fits ys → ∀ w, Sl w a c xs → Sl w b d ys → Calls Try.prog 10 #[.slice a xs.length c, .slice b ys.length d] w fun e w' => Gives e w' (dffP xs ys) ∧ Below w.heap.size w w'
  enc : ∀ (a : Option Addr) (c : Nat) (xs : List P), Fits xs → (encs (prs xs)).length ≤ 1000000000000 → ∀ w, Sl w a c xs → Calls Try.prog 27 #[.slice a xs.length c] w fun e w' => e = .returned (.string ⟨(encs (prs xs)).toArray⟩) ∧ Below w.heap.size w w'
  dec : ∀ (s : ByteArray), s.size ≤ 1000000000000 → ∀ (a : Int), -9223372036854775808 ≤ a → a ≤ 9223372036854775807 → ∀ w, Calls Try.prog 25 #[.string s, .int .i64 a] w fun e w' => GivesD e w' (decs s.data.toList a) ∧ Below w.heap.size w w'

/-! ### the examples -/

theorem num_any (k : ByteArray) (n : Int) (w : World) :
    Calls Try.prog 38 #[.string k, .int .i64 n] w fun e w' => e = .returned (.agg #[.string k, .int .i64 1, .int .i64 n, .string ⟨#[]⟩]) ∧ Below w.heap.size w w' := by
  have HW := Lib.hid (below_box w (.cells #[.string k, .int .i64 1, .int .i64 n, .string ⟨#[]⟩] 33))
  go_enter Try.func38, Try.ntmps38
  go_wp2_with fail
  refine bodyPost_ret (v := .agg #[.string k, .int .i64 1, .int .i64 n, .string ⟨#[]⟩]) (by simp [results, Try.results38, go_sem]) rfl ⟨rfl, HW.out⟩
theorem Sl.lit1 (w : World) (p : P) : Sl (w.alloc (.cells #[.string p.key, .int .i64 p.k, .int .i64 p.n, .string p.s] 33)) (some ⟨w.heap.size, 0, none⟩) 1 [p] :=
  ⟨Nat.le_refl _, fun h => (by cases h), fun _ => ⟨w.heap.size, 0, rfl, fun j hj => by
    obtain rfl : j = 0 := by simp at hj; omega
    exact ⟨by go_simp, by go_simp, by go_simp, by go_simp⟩⟩⟩
theorem Sl.lit2 (w : World) (p q : P) : Sl (w.alloc (.cells #[.string p.key, .int .i64 p.k, .int .i64 p.n, .string p.s, .string q.key, .int .i64 q.k, .int .i64 q.n, .string q.s] 33)) (some ⟨w.heap.size, 0, none⟩) 2 [p, q] :=
  ⟨Nat.le_refl _, fun h => (by cases h), fun _ => ⟨w.heap.size, 0, rfl, fun j hj => by
    rcases (show j = 0 ∨ j = 1 by simp at hj; omega) with rfl | rfl
    · exact ⟨by go_simp, by go_simp, by go_simp, by go_simp⟩
    · exact ⟨by go_simp, by go_simp, by go_simp, by go_simp⟩⟩⟩
def pN (c : UInt8) (n : Int) : P := ⟨⟨#[c]⟩, 1, n, ⟨#[]⟩⟩
def pD (c : UInt8) : P := ⟨⟨#[c]⟩, 0, 0, ⟨#[]⟩⟩
theorem ex_fits2 (p q : P) (hp : p.key.size ≤ 1 ∧ p.s.size ≤ 1 ∧ 0 ≤ p.n ∧ p.n ≤ 9) (hq : q.key.size ≤ 1 ∧ q.s.size ≤ 1 ∧ 0 ≤ q.n ∧ q.n ≤ 9) : Fits [p, q] := by
  refine ⟨by show 2 ≤ _; decide, fun x hx => ?_, fun x hx => ?_⟩
  · rcases List.mem_cons.1 hx with rfl | hx
    · omega
    · obtain rfl := List.mem_singleton.1 hx; omega
  · rcases List.mem_cons.1 hx with rfl | hx
    · omega
    · obtain rfl := List.mem_singleton.1 hx; omega
theorem ex_apply : aplP [pN 98 2, pN 99 3] [pN 97 1, pD 98] = ([pN 97 1, pN 99 3], 0) := by rfl
theorem ex_diff : dffP [pN 97 1] [pN 97 2, pN 98 3] = ([pN 97 2, pN 98 3], 0) := by rfl
theorem ex_enc : (ByteArray.mk (encs (prs [])).toArray) = ⟨#[0]⟩ := by
  show ByteArray.mk (Lib.uvarint 0 ++ []).toArray = _
  rw [Lib.uvarint]
  rfl
theorem ex_fits1 (p : P) (hp : p.key.size ≤ 1 ∧ p.s.size ≤ 1 ∧ 0 ≤ p.n ∧ p.n ≤ 9) : Fits [p] := by
  refine ⟨by show 1 ≤ _; decide, fun x hx => ?_, fun x hx => ?_⟩
  · obtain rfl := List.mem_singleton.1 hx; omega
  · obtain rfl := List.mem_singleton.1 hx; omega
theorem sml (c : UInt8) (n : Int) (h0 : 0 ≤ n) (h1 : n ≤ 9) : (pN c n).key.size ≤ 1 ∧ (pN c n).s.size ≤ 1 ∧ 0 ≤ (pN c n).n ∧ (pN c n).n ≤ 9 := ⟨Nat.le_refl _, Nat.zero_le _, h0, h1⟩
theorem smd (c : UInt8) : (pD c).key.size ≤ 1 ∧ (pD c).s.size ≤ 1 ∧ 0 ≤ (pD c).n ∧ (pD c).n ≤ 9 := ⟨Nat.le_refl _, Nat.zero_le _, by show (0 : Int) ≤ 0; decide, by show (0 : Int) ≤ 9; decide⟩
theorem same_self (xs : List P) : same xs xs = true := decide_eq_true rfl
set_option maxHeartbeats 4000000 in
set_option maxRecDepth 100000 in
theorem examples_any (O : Own) (w : World) :
    Calls Try.prog 12 #[] w fun e w' => e = .returned (.bool true) ∧ Below w.heap.size w w' := by
  have HO := Lib.hid O
  have HN := Lib.hid num_any
  have HE : Hid ((ByteArray.mk (encs (prs [])).toArray) = ⟨#[0]⟩) := ex_enc
  clear O
  go_enter Try.func12, Try.ntmps12
  go_wp2_with fail
  refine (HN.out _ _ _).mono ?_; rintro e w1 ⟨rfl, hb1⟩
  go_wp2_with fail
  refine (HN.out _ _ _).mono ?_; rintro e w2 ⟨rfl, hb2⟩
  have H2 := Lib.hid (below_2 hb1 hb2)
  clear hb1 hb2
  go_wp2_with fail
  have S1 := Sl.lit2 w2 (pN 98 2) (pN 99 3)
  refine (HN.out _ _ _).mono ?_; rintro e w3 ⟨rfl, hb3⟩
  have HS1 := Lib.hid (S1.below hb3)
  have H3 := Lib.hid (below_2 (below_2 H2.out (below_box w2 _)) hb3)
  clear S1 hb3 H2
  go_wp2_with fail
  have S2 := Sl.lit2 w3 (pN 97 1) (pD 98)
  refine (HO.out.apply _ _ 2 2 [pN 98 2, pN 99 3] [pN 97 1, pD 98] (ex_fits2 _ _ (sml _ _ (by decide) (by decide)) (sml _ _ (by decide) (by decide))) (ex_fits2 _ _ (sml _ _ (by decide) (by decide)) (smd _)) _ (HS1.out.alloc _) S2).mono ?_
  rintro e w4 ⟨⟨a1, c1, he, hS⟩, hb4⟩
  rw [ex_apply] at he hS
  subst he
  have HSa := Lib.hid hS
  have H4 := Lib.hid (below_2 (below_2 H3.out (below_box w3 _)) hb4)
  clear hS hb4 S2 HS1 H3
  go_wp2_with fail
  refine (HN.out _ _ _).mono ?_; rintro e w5 ⟨rfl, hb5⟩
  have HSa := Lib.hid (HSa.out.below hb5)
  have H5 := Lib.hid (below_2 H4.out hb5)
  clear hb5 H4
  go_wp2_with fail
  have S3 := Sl.lit1 w5 (pN 97 1)
  refine (HN.out _ _ _).mono ?_; rintro e w6 ⟨rfl, hb6⟩
  have HS3 := Lib.hid (S3.below hb6)
  have HSa := Lib.hid ((HSa.out.alloc _).below hb6)
  have H6 := Lib.hid (below_2 (below_2 H5.out (below_box w5 _)) hb6)
  clear hb6 H5 S3
  go_wp2_with fail
  refine (HN.out _ _ _).mono ?_; rintro e w7 ⟨rfl, hb7⟩
  have HS3 := Lib.hid (HS3.out.below hb7)
  have HSa := Lib.hid (HSa.out.below hb7)
  have H7 := Lib.hid (below_2 H6.out hb7)
  clear hb7 H6
  go_wp2_with fail
  have S4 := Sl.lit2 w7 (pN 97 2) (pN 98 3)
  refine (HO.out.diff _ _ 1 2 [pN 97 1] [pN 97 2, pN 98 3] (ex_fits1 _ (sml _ _ (by decide) (by decide))) (ex_fits2 _ _ (sml _ _ (by decide) (by decide)) (sml _ _ (by decide) (by decide))) _ (HS3.out.alloc _) S4).mono ?_
  rintro e w8 ⟨⟨a2, c2, he, hS⟩, hb8⟩
  rw [ex_diff] at he hS
  subst he
  have HSd := Lib.hid hS
  have HSa := Lib.hid ((HSa.out.alloc _).below hb8)
  have H8 := Lib.hid (below_2 (below_2 H7.out (below_box w7 _)) hb8)
  clear hS hb8 S4 HS3 H7
  go_wp2_with fail
  refine (HN.out _ _ _).mono ?_; rintro e w9 ⟨rfl, hb9⟩
  go_wp2_with fail
  refine (HN.out _ _ _).mono ?_; rintro e w10 ⟨rfl, hb10⟩
  have HSd := Lib.hid ((HSd.out.below hb9).below hb10)
  have HSa := Lib.hid ((HSa.out.below hb9).below hb10)
  have H10 := Lib.hid (below_2 (below_2 H8.out hb9) hb10)
  clear hb9 hb10 H8
  go_wp2_with fail
  have S5 := Sl.lit2 w10 (pN 97 1) (pN 99 3)
  refine (rsame_any _ _ c1 2 [pN 97 1, pN 99 3] [pN 97 1, pN 99 3] (by show 2 ≤ _; decide) _ (HSa.out.alloc _).prs S5.prs).mono ?_
  rintro e w11 ⟨he, hb11⟩
  rw [same_self] at he
  subst he
  have HSd := Lib.hid ((HSd.out.alloc _).below hb11)
  have H11 := Lib.hid (below_2 (below_2 H10.out (below_box w10 _)) hb11)
  clear hb11 H10 S5 HSa
  go_wp2_with fail
  refine (HN.out _ _ _).mono ?_; rintro e w12 ⟨rfl, hb12⟩
  go_wp2_with fail
  refine (HN.out _ _ _).mono ?_; rintro e w13 ⟨rfl, hb13⟩
  have HSd := Lib.hid ((HSd.out.below hb12).below hb13)
  have H13 := Lib.hid (below_2 (below_2 H11.out hb12) hb13)
  clear hb12 hb13 H11
  go_wp2_with fail
  have S6 := Sl.lit2 w13 (pN 97 2) (pN 98 3)
  refine (rsame_any _ _ c2 2 [pN 97 2, pN 98 3] [pN 97 2, pN 98 3] (by show 2 ≤ _; decide) _ (HSd.out.alloc _).prs S6.prs).mono ?_
  rintro e w14 ⟨he, hb14⟩
  rw [same_self] at he
  subst he
  have H14 := Lib.hid (below_2 (below_2 H13.out (below_box w13 _)) hb14)
  clear hb14 H13 S6 HSd
  go_wp2_with fail
  refine (HO.out.enc none 0 [] ⟨Nat.zero_le _, fun p hp => (by cases hp), fun p hp => (by cases hp)⟩ (by show (Lib.uvarint 0 ++ []).length ≤ _; rw [List.append_nil]; exact Nat.le_trans (Lib.uvarint_length64 (by decide)) (by decide)) _ (Sl.empty _)).mono ?_
  rintro e w15 ⟨he, hb15⟩
  rw [HE.out] at he
  subst he
  go_wp2_with fail
  go_ret
  exact ⟨rfl, below_2 H14.out hb15⟩
end Go.Proofs.Ytieloegadhgipaa.S
