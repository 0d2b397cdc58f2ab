/-
  The law on Valid, Get, Slice and Same of layer 6, walked.
-/
import Derived.Test.YtieloegadhgipaaSLawsE
import Derived.Deep.RegionHeld3
import Derived.BigRegion
namespace Go.Proofs.Ytieloegadhgipaa.S
open Go.RowKit
open Go.Proofs.Ytieloegadhgipaa.V (ret_bool ret_int ret_string below_2 below_box below_box2 size_len)

theorem below_drew (w : World) : Below w.heap.size w w.drew := ⟨rfl, rfl, rfl, Nat.le_refl _, fun _ _ => rfl⟩
/-- two lists and a range, held -/
structure Held (w : World) (g : Nat) (a b : Option Addr) (c d : Nat) (xs ys : List P) (f t : ByteArray) (w' : World) : Prop where
  r0 : w'.cell? ⟨g, 0, none⟩ = some (.string f)
  r1 : w'.cell? ⟨g, 1, none⟩ = some (.string t)
  one : Sl w' a c xs
  two : Sl w' b d ys
  below : Below w.heap.size w w'
theorem Held.step {w w' w'' : World} {g : Nat} {a b : Option Addr} {c d : Nat} {xs ys : List P} {f t : ByteArray} (h : Held w g a b c d xs ys f t w') (hb : Below w'.heap.size w' w'') : Held w g a b c d xs ys f t w'' :=
  ⟨(hb.cell (block_lt_of_cell h.r0)).trans h.r0, (hb.cell (block_lt_of_cell h.r1)).trans h.r1, h.one.below hb, h.two.below hb, below_2 h.below hb⟩
theorem sliP_len (f t : ByteArray) (xs : List P) : (sliP f t xs).length ≤ xs.length := List.length_filter_le _ _
theorem eqV_self (p : P) : eqV p p = true := decide_eq_true rfl
set_option maxHeartbeats 8000000 in
set_option maxRecDepth 100000 in
theorem lists_walk (O : Own) (a b : Option Addr) (c d : Nat) (xs ys : List P) (f t : ByteArray) (hf : Fits xs) (hg : Fits ys) (hff : f.size ≤ 9223372036854775807) (htt : t.size ≤ 9223372036854775807) (w : World) (hA : Sl w a c xs) (hB : Sl w b d ys) :
    Calls Try.prog 5 #[.slice a xs.length c, .slice b ys.length d, .agg #[.string f, .string t]] w fun e w' => e = .returned (.bool true) ∧ Below w.heap.size w w' := by
  have hbx := below_box w (.cells #[.string f, .string t] 35)
  have hx := hf.len
  have hsl := sliP_len f t xs
  have HX0 : Hid (Held w w.heap.size a b c d xs ys f t (w.alloc (.cells #[.string f, .string t] 35))) := ⟨(K.Has.box w f t).1, (K.Has.box w f t).2, hA.below hbx, hB.below hbx, hbx⟩
  have HX := Lib.hid (HX0.out.step (below_drew _))
  have PE := Lib.hid (examples_any O)
  have P1 := Lib.hid (fun w h => O.valid a c xs hf w h)
  have P2 := Lib.hid (fun w (h : Sl w a c xs) => rvs_all a c xs hf w h.prs)
  have P3 := Lib.hid (fun w h => O.get a c xs f hf w h)
  have P4 := Lib.hid (fun w (h : Sl w a c xs) => rget_any a c xs f hf.len w h.prs)
  have P5 := Lib.hid (fun w h => O.slice a c xs f t hf hff htt w h)
  have P6 := Lib.hid (fun w (h : Sl w a c xs) => rslice_any a c xs f t (by omega) hff htt w h.prs)
  have P7 := Lib.hid (fun (a1 a2 : Option Addr) (c1 c2 : Nat) (w : World) (h1 : Sl w a1 c1 (sliP f t xs)) (h2 : Sl w a2 c2 (sliP f t xs)) => rsame_any a1 a2 c1 c2 (sliP f t xs) (sliP f t xs) (by omega) w h1.prs h2.prs)
  have P8 := Lib.hid (fun w h1 h2 => O.same a b c d xs ys hf hg w h1 h2)
  have P9 := Lib.hid (fun w (h1 : Sl w a c xs) (h2 : Sl w b d ys) => rsame_any a b c d xs ys hf.len w h1.prs h2.prs)
  have P10 := Lib.hid (fun w h1 => O.same a a c c xs xs hf hf w h1 h1)
  rw [same_self] at P7 P10
  have he := run_eql_val (getP xs f) (getP xs f)
  rw [eqV_self] at he
  simp only [P.v] at P3 P4
  generalize getP xs f = g at P3 P4 he
  generalize vs (prs xs) = V at P1 P2
  generalize same xs ys = SM at P8 P9
  generalize sliP f t xs = zs at P5 P6 P7
  generalize xs.length = n at P1 P2 P3 P4 P5 P6 P8 P9 P10 ⊢
  generalize ys.length = m at P8 P9 ⊢
  obtain ⟨q0, q1, -, -, -⟩ := HX.out
  clear hA hB hf hg hff htt hbx hx hsl O HX0
  go_enter Try.func5, Try.ntmps5
  go_wp2_with fail
  go_region_held3 (fun w' => w'.cell? ⟨w.heap.size, 0, none⟩ = some (.string f) ∧ w'.cell? ⟨w.heap.size, 1, none⟩ = some (.string t)) (first | go_keep | (refine ⟨?_, ?_⟩ <;> go_simp))
    (first
      | (go_at_call 12; refine (PE.out _).mono ?_; rintro e w11 ⟨rfl, hb11⟩; have HX11 := Lib.hid (HX10.out.step hb11); obtain ⟨g20, g21, -, -, -⟩ := HX11.out)
      | (go_at_call 14; refine (P10.out _ HX9.out.one).mono ?_; rintro e w10 ⟨rfl, hb10⟩; have HX10 := Lib.hid (HX9.out.step hb10); obtain ⟨g18, g19, -, -, -⟩ := HX10.out)
      | (go_at_call 15; refine (P9.out _ HX8.out.one HX8.out.two).mono ?_; rintro e w9 ⟨rfl, hb9⟩; have HX9 := Lib.hid (HX8.out.step hb9); obtain ⟨g16, g17, -, -, -⟩ := HX9.out)
      | (go_at_call 14; refine (P8.out _ HX7.out.one HX7.out.two).mono ?_; rintro e w8 ⟨rfl, hb8⟩; have HX8 := Lib.hid (HX7.out.step hb8); obtain ⟨g14, g15, -, -, -⟩ := HX8.out)
      | (go_at_call 15; refine (P7.out a1 a2 c1 c2 _ HS3.out HS2.out).mono ?_; rintro e w7 ⟨rfl, hb7⟩; have HX7 := Lib.hid (HX6.out.step hb7); obtain ⟨g12, g13, -, -, -⟩ := HX7.out)
      | (go_at_call 24; refine (P6.out _ HX5.out.one).mono ?_; rintro e w6 ⟨⟨a2, c2, rfl, hS2⟩, hb6⟩; have HX6 := Lib.hid (HX5.out.step hb6); have HS2 := Lib.hid hS2; have HS3 := Lib.hid (HS1.out.below hb6); obtain ⟨g10, g11, -, -, -⟩ := HX6.out)
      | (go_at_call 23; refine (P5.out _ HX4.out.one).mono ?_; rintro e w5 ⟨⟨a1, c1, rfl, hS1⟩, hb5⟩; have HX5 := Lib.hid (HX4.out.step hb5); have HS1 := Lib.hid hS1; obtain ⟨g8, g9, -, -, -⟩ := HX5.out)
      | (go_at_call 22; refine (P4.out _ HX3.out.one).mono ?_; rintro e w4 ⟨rfl, hb4⟩; have HX4 := Lib.hid (HX3.out.step hb4); obtain ⟨g6, g7, -, -, -⟩ := HX4.out)
      | (go_at_call 16; refine (P3.out _ HX2.out.one).mono ?_; rintro e w3 ⟨rfl, hb3⟩; have HX3 := Lib.hid (HX2.out.step hb3); obtain ⟨g4, g5, -, -, -⟩ := HX3.out)
      | (go_at_call 21; refine (P2.out _ HX1.out.one).mono ?_; rintro e w2 ⟨rfl, hb2⟩; have HX2 := Lib.hid (HX1.out.step hb2); obtain ⟨g2, g3, -, -, -⟩ := HX2.out)
      | (go_at_call 11; refine (P1.out _ HX.out.one).mono ?_; rintro e w1 ⟨rfl, hb1⟩; have HX1 := Lib.hid (HX.out.step hb1); obtain ⟨g0, g1, -, -, -⟩ := HX1.out))
  go_wp2_with fail
  go_ret
  exact ⟨rfl, HX11.out.below⟩
end Go.Proofs.Ytieloegadhgipaa.S
