/-
  Four of the laws, walked: hashes, checksums, digits, joined strings.
-/
import Derived.Test.YtmmbhmmmiagipaaLives
namespace Go.Proofs.Ytmmbhmmmiagipaa
open Go.RowKit

set_option maxRecDepth 100000 in
theorem hashes_walk (s : ByteArray) (hs : s.size ≤ 9223372036854775807) (a b : Nat) (ha : a < 18446744073709551616) (hb : b < 18446744073709551616) (w : World) :
    Calls Try.prog 4 #[.string s, .int .u64 a, .int .u64 b] w fun e w' => e = .returned (.bool true) ∧ Below w.heap.size w w' := by
  have f1 := fnv_any s hs
  have f2 := rfnv_any s hs
  have e1 := ext_any a ha s hs
  have e2 := rext_any a ha s hs
  have m1 := mix_any a b
  have m2 := rmix_any a b ha hb
  generalize ((fnv s.data.toList : Nat) : Int) = f at f1 f2
  generalize ((ext a s.data.toList : Nat) : Int) = x at e1 e2
  generalize ((mix a b : Nat) : Int) = m at m1 m2
  have F1 := Lib.hid f1
  have F2 := Lib.hid f2
  have E1 := Lib.hid e1
  have E2 := Lib.hid e2
  have M1 := Lib.hid m1
  have M2 := Lib.hid m2
  clear f1 f2 e1 e2 m1 m2
  go_enter Try.func4, Try.ntmps4
  go_wp2_with (first
    | (go_at_call 12; refine (F1.out _).mono ?_; rintro e w' ⟨rfl, rfl⟩)
    | (go_at_call 13; refine (F2.out _).mono ?_; rintro e w' ⟨rfl, rfl⟩)
    | (go_at_call 14; refine (E1.out _).mono ?_; rintro e w' ⟨rfl, rfl⟩)
    | (go_at_call 15; refine (E2.out _).mono ?_; rintro e w' ⟨rfl, rfl⟩)
    | (go_at_call 16; refine (M1.out _).mono ?_; rintro e w1 ⟨rfl, hb1⟩)
    | (go_at_call 17; refine (M2.out _).mono ?_; rintro e w2 ⟨rfl, hb2⟩)
    | (go_at_call 11; refine (lives_any _).mono ?_; rintro e w9 ⟨rfl, hb9⟩))
  go_ret
  exact ⟨rfl, below_2 (below_2 hb1 hb2) hb9⟩
set_option maxRecDepth 100000 in
theorem sums_walk (s : ByteArray) (hs : s.size ≤ 200000000000000) (c : Nat) (hc : c < 4294967296) (w : World) :
    Calls Try.prog 5 #[.string s, .int .u32 c] w fun e w' => e = .returned (.bool true) ∧ Below w.heap.size w w' := by
  have o1 := open_any s hs
  have o2 := ropen_any s hs
  have c1 := crc_any s (by omega)
  have c2 := rcrc_any s (by omega)
  have u1 := upd_any c hc s (by omega)
  have u2 := rupd_any c hc s (by omega)
  have s1 := seal_any s hs
  have s2 := rseal_any s hs
  generalize oV s = v at o1 o2
  generalize oE s = x at o1 o2
  generalize ((crc s.data.toList : Nat) : Int) = y at c1 c2
  generalize ((upd c s.data.toList : Nat) : Int) = z at u1 u2
  generalize sealed s = t at s1 s2
  have O1 := Lib.hid o1
  have O2 := Lib.hid o2
  have C1 := Lib.hid c1
  have C2 := Lib.hid c2
  have U1 := Lib.hid u1
  have U2 := Lib.hid u2
  have S1 := Lib.hid s1
  have S2 := Lib.hid s2
  clear o1 o2 c1 c2 u1 u2 s1 s2
  go_enter Try.func5, Try.ntmps5
  go_wp2_with fail
  refine (O1.out _).mono ?_; rintro e w1 ⟨rfl, hb1⟩
  go_wp2_with fail
  refine (O2.out _).mono ?_; rintro e w2 ⟨rfl, hb2⟩
  go_wp2_with (first
    | (go_at_call 19; refine (C1.out _).mono ?_; rintro e w' ⟨rfl, rfl⟩)
    | (go_at_call 20; refine (C2.out _).mono ?_; rintro e w' ⟨rfl, rfl⟩)
    | (go_at_call 21; refine (U1.out _).mono ?_; rintro e w' ⟨rfl, rfl⟩)
    | (go_at_call 22; refine (U2.out _).mono ?_; rintro e w' ⟨rfl, rfl⟩)
    | (go_at_call 9; refine (S1.out _).mono ?_; rintro e w3 ⟨rfl, hb3⟩)
    | (go_at_call 23; refine (S2.out _).mono ?_; rintro e w4 ⟨rfl, hb4⟩)
    | (go_at_call 11; refine (lives_any _).mono ?_; rintro e w9 ⟨rfl, hb9⟩))
  go_ret
  exact ⟨rfl, below_2 (below_2 (below_2 (below_2 hb1 hb2) hb3) hb4) hb9⟩
set_option maxRecDepth 100000 in
theorem hexes_core (h v : Nat) (s x y : ByteArray) (E : Int) (hE : (E = 0 ∧ y = s) ∨ E = 5) (w : World)
    (x1 : ∀ w, Calls Try.prog 25 #[.int .u64 h] w fun e w' => e = .returned (.string x) ∧ Below w.heap.size w w')
    (x2 : ∀ w, Calls Try.prog 27 #[.int .u64 h] w fun e w' => e = .returned (.string x) ∧ Below w.heap.size w w')
    (b1 : ∀ w, Calls Try.prog 24 #[.string x] w fun e w' => e = .returned (.tuple #[.int .u64 h, .int .i64 0]) ∧ w = w')
    (u1 : ∀ w, Calls Try.prog 24 #[.string s] w fun e w' => e = .returned (.tuple #[.int .u64 v, .int .i64 E]) ∧ w = w')
    (u2 : ∀ w, Calls Try.prog 26 #[.string s] w fun e w' => e = .returned (.tuple #[.int .u64 v, .int .i64 E]) ∧ w = w')
    (y1 : ∀ w, Calls Try.prog 25 #[.int .u64 v] w fun e w' => e = .returned (.string y) ∧ Below w.heap.size w w') :
    Calls Try.prog 6 #[.int .u64 h, .string s] w fun e w' => e = .returned (.bool true) ∧ Below w.heap.size w w' := by
  have X1 := Lib.hid x1
  have X2 := Lib.hid x2
  have B1 := Lib.hid b1
  have U1 := Lib.hid u1
  have U2 := Lib.hid u2
  have Y1 := Lib.hid y1
  clear x1 x2 b1 u1 u2 y1
  rcases hE with ⟨rfl, rfl⟩ | rfl
  · go_enter Try.func6, Try.ntmps6
    go_wp2_with fail
    refine (X1.out _).mono ?_; rintro e w1 ⟨rfl, hb1⟩
    go_wp2_with fail
    refine (B1.out _).mono ?_; rintro e w' ⟨rfl, rfl⟩
    go_wp2_with fail
    refine (U1.out _).mono ?_; rintro e w' ⟨rfl, rfl⟩
    go_wp2_with fail
    refine (U2.out _).mono ?_; rintro e w' ⟨rfl, rfl⟩
    go_wp2_with fail
    refine (X1.out _).mono ?_; rintro e w2 ⟨rfl, hb2⟩
    go_wp2_with fail
    refine (X2.out _).mono ?_; rintro e w3 ⟨rfl, hb3⟩
    go_wp2_with fail
    refine (Y1.out _).mono ?_; rintro e w4 ⟨rfl, hb4⟩
    go_wp2_with (go_at_call 11; refine (lives_any _).mono ?_; rintro e w9 ⟨rfl, hb9⟩)
    go_ret
    exact ⟨rfl, below_2 (below_2 (below_2 (below_2 hb1 hb2) hb3) hb4) hb9⟩
  · go_enter Try.func6, Try.ntmps6
    go_wp2_with fail
    refine (X1.out _).mono ?_; rintro e w1 ⟨rfl, hb1⟩
    go_wp2_with fail
    refine (B1.out _).mono ?_; rintro e w' ⟨rfl, rfl⟩
    go_wp2_with fail
    refine (U1.out _).mono ?_; rintro e w' ⟨rfl, rfl⟩
    go_wp2_with fail
    refine (U2.out _).mono ?_; rintro e w' ⟨rfl, rfl⟩
    go_wp2_with fail
    refine (X1.out _).mono ?_; rintro e w2 ⟨rfl, hb2⟩
    go_wp2_with fail
    refine (X2.out _).mono ?_; rintro e w3 ⟨rfl, hb3⟩
    go_wp2_with (go_at_call 11; refine (lives_any _).mono ?_; rintro e w9 ⟨rfl, hb9⟩)
    go_ret
    exact ⟨rfl, below_2 (below_2 (below_2 hb1 hb2) hb3) hb9⟩
theorem hexes_walk (h : Nat) (hh : h < 18446744073709551616) (s : ByteArray) (hs : s.size ≤ 9223372036854775807) (w : World) :
    Calls Try.prog 6 #[.int .u64 h, .string s] w fun e w' => e = .returned (.bool true) ∧ Below w.heap.size w w' := by
  have hv : uV s < 18446744073709551616 := by
    rcases uE_cases s with ⟨_, _, h3⟩ | ⟨_, h2⟩
    · exact h3
    · rw [h2]; decide
  refine hexes_core h (uV s) s (hex h) (hex (uV s)) (uE s) ?_ w (hex_any h hh) (rhex_any h hh) ?_ (unhex_any s hs) (runhex_any s hs) (hex_any _ hv)
  · rcases uE_cases s with ⟨h1, h2, _⟩ | ⟨h1, _⟩
    · exact Or.inl ⟨h1, h2⟩
    · exact Or.inr h1
  · intro w
    have hb := unhex_any (hex h) (by rw [hex_size]; decide) w
    rw [back_V hh, back_E] at hb
    exact hb
end Go.Proofs.Ytmmbhmmmiagipaa
