/-
  Plain mathematics of layer 3, without the program: the hash and the checksum over a list of bytes, and that each step of theirs loses nothing; numbers as bytes and as hexadecimal digits.
-/
namespace Go.Proofs.Ytmmbhmmmiagipaa

/-! ### a fold that loses nothing -/

theorem fold_lt {f : Nat → UInt8 → Nat} {M : Nat} (hlt : ∀ h c, h < M → f h c < M) : ∀ (l : List UInt8) (h : Nat), h < M → l.foldl f h < M
  | [], _, hh => hh
  | c :: l, h, hh => fold_lt hlt l (f h c) (hlt h c hh)
theorem fold_inj {f : Nat → UInt8 → Nat} {M : Nat} (hlt : ∀ h c, h < M → f h c < M) (hinj : ∀ h g c, h < M → g < M → f h c = f g c → h = g) :
    ∀ (l : List UInt8) (h g : Nat), h < M → g < M → l.foldl f h = l.foldl f g → h = g
  | [], _, _, _, _, e => e
  | c :: l, h, g, hh, hg, e => hinj h g c hh hg (fold_inj hlt hinj l (f h c) (f g c) (hlt h c hh) (hlt g c hg) e)
/-- One byte turned, all else the same: the folds differ. -/
theorem fold_differs {f : Nat → UInt8 → Nat} {M : Nat} (hlt : ∀ h c, h < M → f h c < M) (hinj : ∀ h g c, h < M → g < M → f h c = f g c → h = g)
    (hbyte : ∀ h c d, h < M → f h c = f h d → c = d) (a b : List UInt8) (c d : UInt8) (h : Nat) (hh : h < M) (hne : c ≠ d) :
    (a ++ [c] ++ b).foldl f h ≠ (a ++ [d] ++ b).foldl f h := by
  intro e
  simp only [List.append_assoc, List.foldl_append, List.foldl_cons, List.foldl_nil] at e
  have ha := fold_lt hlt a h hh
  exact hne (hbyte _ _ _ ha (fold_inj hlt hinj b _ _ (hlt _ _ ha) (hlt _ _ ha) e))

/-! ### the hash -/

def fnvStep (h : Nat) (c : UInt8) : Nat := (h ^^^ c.toNat) * 1099511628211 % 18446744073709551616
def ext (h : Nat) (l : List UInt8) : Nat := l.foldl fnvStep h
theorem fnvStep_lt (h : Nat) (c : UInt8) : fnvStep h c < 18446744073709551616 := Nat.mod_lt _ (by decide)
theorem xor_lt64 {a b : Nat} (ha : a < 18446744073709551616) (hb : b < 18446744073709551616) : a ^^^ b < 18446744073709551616 :=
  Nat.xor_lt_two_pow (n := 64) ha hb
theorem xor_lt32 {a b : Nat} (ha : a < 4294967296) (hb : b < 4294967296) : a ^^^ b < 4294967296 :=
  Nat.xor_lt_two_pow (n := 32) ha hb
theorem byte_lt (c : UInt8) : c.toNat < 256 := c.toNat_lt
theorem times_back (a : Nat) : a * 1099511628211 % 18446744073709551616 * 14886173955864302971 % 18446744073709551616 = a % 18446744073709551616 := by
  omega
theorem times_inj {a b : Nat} (ha : a < 18446744073709551616) (hb : b < 18446744073709551616)
    (h : a * 1099511628211 % 18446744073709551616 = b * 1099511628211 % 18446744073709551616) : a = b := by
  have h1 := times_back a
  have h2 := times_back b
  rw [h, h2, Nat.mod_eq_of_lt ha, Nat.mod_eq_of_lt hb] at h1
  exact h1.symm
theorem xor_right {a b c : Nat} (h : a ^^^ c = b ^^^ c) : a = b := by
  have h2 := congrArg (· ^^^ c) h
  simpa [Nat.xor_assoc] using h2
theorem xor_left {a b c : Nat} (h : c ^^^ a = c ^^^ b) : a = b := xor_right (c := c) (by rw [Nat.xor_comm a, Nat.xor_comm b]; exact h)
theorem fnv_inj (h g : Nat) (c : UInt8) (hh : h < 18446744073709551616) (hg : g < 18446744073709551616) (e : fnvStep h c = fnvStep g c) : h = g := by
  have hc := byte_lt c
  exact xor_right (times_inj (xor_lt64 hh (by omega)) (xor_lt64 hg (by omega)) e)
theorem fnv_byte (h : Nat) (c d : UInt8) (hh : h < 18446744073709551616) (e : fnvStep h c = fnvStep h d) : c = d := by
  have hc := byte_lt c
  have hd := byte_lt d
  exact UInt8.toNat_inj.1 (xor_left (times_inj (xor_lt64 hh (by omega)) (xor_lt64 hh (by omega)) e))
theorem ext_lt {h : Nat} (hh : h < 18446744073709551616) (l : List UInt8) : ext h l < 18446744073709551616 := fold_lt (fun h c _ => fnvStep_lt h c) l h hh
theorem ext_append (h : Nat) (a b : List UInt8) : ext h (a ++ b) = ext (ext h a) b := List.foldl_append ..
theorem ext_snoc (h : Nat) (a : List UInt8) (c : UInt8) : ext h (a ++ [c]) = fnvStep (ext h a) c := by unfold ext; rw [List.foldl_append, List.foldl_cons, List.foldl_nil]
theorem ext_differs (h : Nat) (hh : h < 18446744073709551616) (a b : List UInt8) (c d : UInt8) (hne : c ≠ d) : ext h (a ++ [c] ++ b) ≠ ext h (a ++ [d] ++ b) :=
  fold_differs (fun h c _ => fnvStep_lt h c) (fun h g c hh hg e => fnv_inj h g c hh hg e) (fun h c d hh e => fnv_byte h c d hh e) a b c d h hh hne

/-! ### the checksum -/

/-- one shift -/
def shift1 (c : Nat) : Nat := if c % 2 = 1 then c / 2 ^^^ 2197175160 else c / 2
/-- k shifts -/
def shifts : Nat → Nat → Nat
  | 0, c => c
  | k + 1, c => shift1 (shifts k c)
def crcStep (c : Nat) (b : UInt8) : Nat := shifts 8 (c ^^^ b.toNat)
def crcFold (c : Nat) (l : List UInt8) : Nat := l.foldl crcStep c
def upd (sum : Nat) (l : List UInt8) : Nat := crcFold (sum ^^^ 4294967295) l ^^^ 4294967295
theorem shift1_odd {c : Nat} (h : c % 2 = 1) : shift1 c = c / 2 ^^^ 2197175160 := by rw [shift1, if_pos h]
theorem shift1_even {c : Nat} (h : ¬ c % 2 = 1) : shift1 c = c / 2 := by rw [shift1, if_neg h]
theorem shift1_lt {c : Nat} (h : c < 4294967296) : shift1 c < 4294967296 := by
  by_cases h2 : c % 2 = 1
  · rw [shift1_odd h2]; exact xor_lt32 (by omega) (by decide)
  · rw [shift1_even h2]; omega
theorem shifts_lt {c : Nat} (h : c < 4294967296) : ∀ k, shifts k c < 4294967296
  | 0 => h
  | k + 1 => shift1_lt (shifts_lt h k)
theorem odd_high {x : Nat} (h : x < 2147483648) : 2147483648 ≤ x ^^^ 2197175160 := by
  have h1 : x.testBit 31 = false := Nat.testBit_lt_two_pow h
  have h2 : Nat.testBit 2197175160 31 = true := by decide
  have h3 : (x ^^^ 2197175160).testBit 31 = true := by rw [Nat.testBit_xor, h1, h2]; rfl
  exact Nat.ge_two_pow_of_testBit h3
theorem shift1_inj {c d : Nat} (hc : c < 4294967296) (hd : d < 4294967296) (e : shift1 c = shift1 d) : c = d := by
  by_cases h1 : c % 2 = 1
  · by_cases h2 : d % 2 = 1
    · rw [shift1_odd h1, shift1_odd h2] at e
      have := xor_right e
      omega
    · rw [shift1_odd h1, shift1_even h2] at e
      have := odd_high (x := c / 2) (by omega)
      omega
  · by_cases h2 : d % 2 = 1
    · rw [shift1_even h1, shift1_odd h2] at e
      have := odd_high (x := d / 2) (by omega)
      omega
    · rw [shift1_even h1, shift1_even h2] at e
      omega
theorem shifts_inj : ∀ (k : Nat) {c d : Nat}, c < 4294967296 → d < 4294967296 → shifts k c = shifts k d → c = d
  | 0, _, _, _, _, e => e
  | k + 1, _, _, hc, hd, e => shifts_inj k hc hd (shift1_inj (shifts_lt hc k) (shifts_lt hd k) e)
theorem crcStep_lt (c : Nat) (b : UInt8) (h : c < 4294967296) : crcStep c b < 4294967296 := by
  have hb := byte_lt b
  exact shifts_lt (xor_lt32 h (by omega)) 8
theorem crc_inj (c d : Nat) (b : UInt8) (hc : c < 4294967296) (hd : d < 4294967296) (e : crcStep c b = crcStep d b) : c = d := by
  have hb := byte_lt b
  exact xor_right (shifts_inj 8 (xor_lt32 hc (by omega)) (xor_lt32 hd (by omega)) e)
theorem crc_byte (c : Nat) (a b : UInt8) (hc : c < 4294967296) (e : crcStep c a = crcStep c b) : a = b := by
  have ha := byte_lt a
  have hb := byte_lt b
  exact UInt8.toNat_inj.1 (xor_left (shifts_inj 8 (xor_lt32 hc (by omega)) (xor_lt32 hc (by omega)) e))
theorem crcFold_lt {c : Nat} (h : c < 4294967296) (l : List UInt8) : crcFold c l < 4294967296 := fold_lt (fun c b h => crcStep_lt c b h) l c h
theorem crcFold_snoc (c : Nat) (a : List UInt8) (b : UInt8) : crcFold c (a ++ [b]) = crcStep (crcFold c a) b := by
  unfold crcFold; rw [List.foldl_append, List.foldl_cons, List.foldl_nil]
theorem upd_lt {s : Nat} (h : s < 4294967296) (l : List UInt8) : upd s l < 4294967296 := xor_lt32 (crcFold_lt (xor_lt32 h (by decide)) l) (by decide)
theorem upd_append (s : Nat) (a b : List UInt8) : upd s (a ++ b) = upd (upd s a) b := by
  unfold upd
  have e : ∀ x : Nat, x ^^^ 4294967295 ^^^ 4294967295 = x := fun x => by rw [Nat.xor_assoc, Nat.xor_self, Nat.xor_zero]
  rw [e]
  unfold crcFold
  rw [List.foldl_append]
theorem upd_differs (s : Nat) (hs : s < 4294967296) (a b : List UInt8) (c d : UInt8) (hne : c ≠ d) : upd s (a ++ [c] ++ b) ≠ upd s (a ++ [d] ++ b) := fun e =>
  fold_differs (fun c b h => crcStep_lt c b h) (fun h g c hh hg e => crc_inj h g c hh hg e) (fun h c d hh e => crc_byte h c d hh e) a b c d (s ^^^ 4294967295) (xor_lt32 hs (by decide)) hne (xor_right e)

/-! ### a number's bytes, the least significant one first -/

def little : Nat → Nat → List UInt8
  | 0, _ => []
  | n + 1, x => (x % 256).toUInt8 :: little n (x / 256)
theorem little_length : ∀ n x, (little n x).length = n
  | 0, _ => rfl
  | n + 1, x => by rw [little, List.length_cons, little_length n]
theorem small_byte {x : Nat} (h : x < 256) : x.toUInt8.toNat = x := by
  show x % 256 = x
  exact Nat.mod_eq_of_lt h
theorem little_inj : ∀ (n x y : Nat), x < 256 ^ n → y < 256 ^ n → little n x = little n y → x = y
  | 0, x, y, hx, hy, _ => by simp at hx hy; omega
  | n + 1, x, y, hx, hy, h => by
    rw [little, little] at h
    injection h with h1 h2
    have e1 : x % 256 = y % 256 := by
      have := congrArg UInt8.toNat h1
      rwa [small_byte (Nat.mod_lt _ (by decide)), small_byte (Nat.mod_lt _ (by decide))] at this
    have e2 := little_inj n (x / 256) (y / 256) (by rw [Nat.pow_succ] at hx; omega) (by rw [Nat.pow_succ] at hy; omega) h2
    omega
theorem little4_inj {x y : Nat} (hx : x < 4294967296) (hy : y < 4294967296) (h : little 4 x = little 4 y) : x = y :=
  little_inj 4 x y (by simpa using hx) (by simpa using hy) h
theorem little_get : ∀ (n x i : Nat) (h : i < (little n x).length), ((little n x)[i]).toNat = x / 256 ^ i % 256
  | 0, _, i, h => absurd h (Nat.not_lt_zero i)
  | n + 1, x, 0, h => by simp [little, small_byte (Nat.mod_lt x (show 0 < 256 by decide))]
  | n + 1, x, i + 1, h => by
    have := little_get n (x / 256) i (by simpa [little] using h)
    simp only [little, List.getElem_cons_succ]
    rw [this, Nat.div_div_eq_div_mul, Nat.pow_succ, Nat.mul_comm]
/-- the bytes behind one another -/
theorem little_snoc : ∀ (k x : Nat), little (k + 1) x = little k x ++ [(x / 256 ^ k % 256).toUInt8]
  | 0, x => by simp [little]
  | k + 1, x => by
    rw [little, little_snoc k (x / 256), little, Nat.div_div_eq_div_mul, Nat.pow_succ, Nat.mul_comm]
    rfl
end Go.Proofs.Ytmmbhmmmiagipaa
