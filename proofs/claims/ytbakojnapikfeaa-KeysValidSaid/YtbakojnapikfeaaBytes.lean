/-
  What the closures over bytes, Valid and isBound return, of the program and of the reference: contracts, one a function.
-/
import Derived.Test.YtbakojnapikfeaaPlain
import Derived.Test.YtbakojnapikfeaaShelf
import Derived.WalkKit
import Derived.LoopTactic
import Derived.Lib.Walk
import Derived.Lib.Strings
import Derived.Lib.IndexBytes
import Derived.Lib.Hide
import Derived.Laws.BitsAllLaws
import Derived.WalkLawsBesides
namespace Go.Proofs.Ytbakojnapikfeaa
open Go.RowKit

theorem ret_bool {a b : Bool} (h : a = b) : Ending.returned (.bool a) = Ending.returned (.bool b) := by rw [h]
theorem size_len (s : ByteArray) : s.size = s.data.toList.length := by simp
theorem take_snoc (s : ByteArray) (k : Nat) (h : k < s.size) : s.data.toList.take (k + 1) = s.data.toList.take k ++ [s[k]] := by
  rw [List.take_succ_eq_append_getElem (by simpa using h)]; rfl
theorem take_all (s : ByteArray) : s.data.toList.take s.size = s.data.toList := List.take_of_length_le (by simp)
theorem byte_lt (c : UInt8) : c.toNat < 256 := c.toNat_lt
theorem below_2 {w w1 w2 : World} (h : Below w.heap.size w w1) (h2 : Below w1.heap.size w1 w2) : Below w.heap.size w w2 := h.trans (h2.mono h.size)

/-! ### closures -/

/-- a closure that accepts the bytes from a to b, of which w holds the ends -/
structure Span (w : World) (p q : Addr) (a b : Nat) : Prop where
  lo : w.cell? p = some (.int .u8 a)
  hi : w.cell? q = some (.int .u8 b)

theorem between_any (a b : Nat) (w : World) :
    Calls Try.prog 31 #[.int .u8 a, .int .u8 b] w fun e w' => e = .returned (.func (Fn.func 38) #[] #[.pointer (some ⟨w.heap.size, 0, none⟩), .pointer (some ⟨w.heap.size + 1, 0, none⟩)]) ∧ w' = (w.alloc (.cells #[.int .u8 a] 5)).alloc (.cells #[.int .u8 b] 5) := by
  have hmf : ∀ (fn : Fn) (first cap : Array Value) (w : World), (Instr.makeFunc fn first cap).run Try.prog w = .ok (.func fn first cap) w := fun _ _ _ _ => rfl
  go_enter Try.func31, Try.ntmps31
  go_wp2
  go_ret
  exact ⟨rfl, rfl⟩

/-- a byte from a to b -/
def spanOk (a b : Nat) (c : UInt8) : Bool := decide (a ≤ c.toNat ∧ c.toNat ≤ b)
theorem span_any {w : World} {p q : Addr} {a b : Nat} (S : Span w p q a b) (c : UInt8) :
    Calls Try.prog 38 #[.int .u8 (c.toNat : Int), .pointer (some p), .pointer (some q)] w fun e w' => e = .returned (.bool (spanOk a b c)) ∧ w' = w := by
  obtain ⟨h1, h2⟩ := S
  go_enter Try.func38, Try.ntmps38
  go_wp2
  all_goals (go_ret; exact ⟨ret_bool (by simp [spanOk, *]), rfl⟩)

/-- the closure that Valid makes -/
structure Keys (w : World) (p q a b c d : Addr) : Prop where
  one : w.cell? p = some (.func (Fn.func 38) #[] #[.pointer (some a), .pointer (some b)])
  two : w.cell? q = some (.func (Fn.func 38) #[] #[.pointer (some c), .pointer (some d)])
  letters : Span w a b 97 122
  digits : Span w c d 48 57
theorem mark_all : ∀ n : Fin 256, decide (0 ≤ Lib.indexByte [47, 46, 95, 45] n.val.toUInt8) = decide (n.val = 47 ∨ n.val = 46 ∨ n.val = 95 ∨ n.val = 45) := by decide +kernel
theorem mark_any (c : UInt8) : decide (0 ≤ Lib.indexByte [47, 46, 95, 45] c) = decide (c.toNat = 47 ∨ c.toNat = 46 ∨ c.toNat = 95 ∨ c.toNat = 45) := by
  have h := mark_all ⟨c.toNat, byte_lt c⟩
  have e : c.toNat.toUInt8 = c := by simp
  simp only [e] at h
  exact h
theorem index_mark (c : UInt8) (w : World) :
    Calls Try.prog 34 #[.string ⟨#[47, 46, 95, 45]⟩, .int .u8 (c.toNat : Int)] w fun e w' => e = .returned (.int .i64 (Lib.indexByte [47, 46, 95, 45] c)) ∧ w' = w := by
  refine (Try.strings_IndexByte _ _ w).mono ?_
  rintro e w' ⟨rfl, rfl⟩
  refine ⟨?_, rfl⟩
  rw [Int.toNat_natCast, show c.toNat.toUInt8 = c from by simp]
theorem okKey_parts (c : UInt8) : okKey c = (spanOk 97 122 c || (spanOk 48 57 c || decide (c.toNat = 47 ∨ c.toNat = 46 ∨ c.toNat = 95 ∨ c.toNat = 45))) := by
  unfold okKey spanOk
  simp only [Bool.decide_or]
set_option maxRecDepth 100000 in
theorem keys_any {w : World} {p q a b c d : Addr} (K : Keys w p q a b c d) (x : UInt8) :
    Calls Try.prog 33 #[.int .u8 (x.toNat : Int), .pointer (some p), .pointer (some q)] w fun e w' => e = .returned (.bool (okKey x)) ∧ w' = w := by
  obtain ⟨h1, h2, h3, h4⟩ := K
  have g1 := span_any h3 x
  have g2 := span_any h4 x
  have g3 := index_mark x
  have HE := Lib.hid (okKey_parts x)
  have HM := Lib.hid (mark_any x)
  generalize spanOk 97 122 x = A at g1 HE
  generalize spanOk 48 57 x = B at g2 HE
  generalize decide (x.toNat = 47 ∨ x.toNat = 46 ∨ x.toNat = 95 ∨ x.toNat = 45) = C at HE HM
  generalize Lib.indexByte [47, 46, 95, 45] x = I at g3 HM
  have G1 := Lib.hid g1
  have G2 := Lib.hid g2
  have G3 := Lib.hid g3
  clear g1 g2 g3 h3 h4
  cases A
  · cases B
    · go_enter Try.func33, Try.ntmps33
      go_wp2_with fail
      refine G1.out.mono ?_; rintro e w' ⟨rfl, rfl⟩
      go_wp2_with fail
      refine G2.out.mono ?_; rintro e w' ⟨rfl, rfl⟩
      go_wp2_with (go_at_call 34; refine (G3.out _).mono ?_; rintro e w' ⟨rfl, rfl⟩)
      go_ret
      exact ⟨ret_bool (by rw [HE.out]; simpa using HM.out), rfl⟩
    · go_enter Try.func33, Try.ntmps33
      go_wp2_with fail
      refine G1.out.mono ?_; rintro e w' ⟨rfl, rfl⟩
      go_wp2_with fail
      refine G2.out.mono ?_; rintro e w' ⟨rfl, rfl⟩
      go_wp2_with fail
      go_ret
      exact ⟨ret_bool (by rw [HE.out]; rfl), rfl⟩
  · go_enter Try.func33, Try.ntmps33
    go_wp2_with fail
    refine G1.out.mono ?_; rintro e w' ⟨rfl, rfl⟩
    go_wp2_with fail
    go_ret
    exact ⟨ret_bool (by rw [HE.out]; rfl), rfl⟩

/-! ### consists -/

/-- all of the first k bytes are accepted -/
def upto (ok : UInt8 → Bool) (s : ByteArray) (k : Nat) : Prop := (s.data.toList.take k).all ok = true
theorem upto_next {ok : UInt8 → Bool} {s : ByteArray} {k : Nat} (h : upto ok s k) (hk : k < s.size) (hok : ok s[k] = true) : upto ok s (k + 1) := by
  unfold upto at *
  rw [take_snoc s k hk, List.all_append, h]
  simp [hok]
theorem upto_stop {ok : UInt8 → Bool} {s : ByteArray} {k : Nat} (hk : k < s.size) (hok : ok s[k] = false) : s.data.toList.all ok = false := by
  rw [← List.take_append_drop (k + 1) s.data.toList, take_snoc s k hk]
  simp [hok]
def all24 (ok : UInt8 → Bool) (s : ByteArray) : Bool := decide (s.size ≤ 24) && s.data.toList.all ok
theorem all24_long {ok : UInt8 → Bool} {s : ByteArray} (h : ¬ s.size ≤ 24) : all24 ok s = false := by unfold all24; rw [decide_eq_false h]; rfl
theorem all24_bad {ok : UInt8 → Bool} {s : ByteArray} {k : Nat} (hk : k < s.size) (hok : ok s[k] = false) : all24 ok s = false := by unfold all24; rw [upto_stop hk hok, Bool.and_false]
theorem all24_good {ok : UInt8 → Bool} {s : ByteArray} (h : s.size ≤ 24) (hu : upto ok s s.size) : all24 ok s = true := by
  unfold all24 upto at *
  rw [take_all] at hu
  rw [decide_eq_true h, hu]; rfl
end Go.Proofs.Ytbakojnapikfeaa
