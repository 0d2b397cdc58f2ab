/-
  What the reference of layer 7 returns: Keywords, Marks, has, IsKeyword, letter, digit, part, word, IsName, Printable, Quote: contracts, one a function.
-/
import Derived.Test.YtbmdadhbkdkgmaaDoorLTexts
import Derived.Test.YtbmdadhbkdkgmaaDoorGQ
import Derived.WalkKit
import Derived.LoopTactic
import Derived.Lib.Walk
import Derived.Lib.Strings
import Derived.Lib.Hide
import Derived.Laws.BitsAllLaws
import Derived.WalkLawsBesides
import Derived.Deep.LoopGhost
import Derived.Deep.QuietTactic
import Derived.BigQuiet
import Derived.Lib.QuietBelow
import Derived.Deep.RegionHeld3
import Derived.BigRegion
namespace Go.Proofs.YtbmdadhbkdkgmaaDoor.L
open Go.RowKit

theorem ret_bool {a b : Bool} (h : a = b) : Ending.returned (.bool a) = Ending.returned (.bool b) := by rw [h]
theorem ret_int {k : IntKind} {a b : Int} (h : a = b) : Ending.returned (.int k a) = .returned (.int k b) := by rw [h]
theorem ret_string {a b : ByteArray} (h : a = b) : Ending.returned (.string a) = Ending.returned (.string b) := by rw [h]
theorem below_2 {w w1 w2 : World} (h : Below w.heap.size w w1) (h2 : Below w1.heap.size w1 w2) : Below w.heap.size w w2 := h.trans (h2.mono h.size)
theorem below_box (w : World) (o : Obj) : Below w.heap.size w (w.alloc o) := (Below.refl _ _).alloc (Nat.le_refl _) _
theorem below_drew (w : World) : Below w.heap.size w w.drew := ⟨rfl, rfl, rfl, Nat.le_refl _, fun _ _ => rfl⟩
theorem size_len (s : ByteArray) : s.size = s.data.toList.length := by simp
theorem byte_lt (c : UInt8) : c.toNat < 256 := c.toNat_lt
theorem eql_eq (a b : ByteArray) : (a.toList == b.toList) = decide (a.data.toList = b.data.toList) := by rw [Lib.toList_data, Lib.toList_data]; exact Bool.beq_eq_decide_eq _ _
theorem bytes_eq {a b : ByteArray} (h : a.data.toList = b.data.toList) : a = b := WideShapes.bytes_inj h
theorem append_list (c t : ByteArray) : (c ++ t).data.toList = c.data.toList ++ t.data.toList := by simp
theorem drop_get (s : ByteArray) (k : Nat) (h : k < s.size) : s.data.toList.drop k = s[k] :: s.data.toList.drop (k + 1) := by
  rw [List.drop_eq_getElem_cons (by simpa using h)]; rfl
theorem drop_all (s : ByteArray) : s.data.toList.drop s.size = [] := by rw [size_len]; exact List.drop_length
theorem slice_one (s : ByteArray) (k : Nat) (h : k < s.size) : ∃ d : ByteArray, d.data.toList = [s[k]] ∧ d.size = 1 ∧ ∀ W, (Instr.slice 9 (.string s) (some (.int .i64 (k : Int))) (some (.int .i64 ((k : Int) + 1))) none).run Tryd.prog W = .ok (.string d) W := by
  refine ⟨s.extract k (k + 1), ?_, ?_, fun W => ?_⟩
  · simp only [ByteArray.data_extract, Array.toList_extract, List.extract_eq_take_drop]
    rw [drop_get s k h, show k + 1 - k = 1 from by omega]
    rfl
  · rw [ByteArray.size_extract]; omega
  · have := run_slice_string (P := Tryd.prog) W 9 s .i64 .i64 (k : Int) ((k : Int) + 1) Tryd.underlying9 (by omega) (by omega) (by omega)
    rw [this]
    rfl

/-! ### lists of strings -/

/-- the block b holds the strings xs -/
def Strs (w : World) (b : Nat) (xs : List ByteArray) : Prop := ∀ j (h : j < xs.length), w.cell? ⟨b, j, none⟩ = some (.string xs[j])
def blk (xs : List ByteArray) : Obj := .cells (xs.map Value.string).toArray 9
theorem Strs.new (w : World) (xs : List ByteArray) : Strs (w.alloc (blk xs)) w.heap.size xs := by
  intro j hj
  have h1 : (w.alloc (blk xs)).heap[w.heap.size]? = some (blk xs) := by
    show (w.heap.push _)[w.heap.size]? = _
    simp
  rw [cell_of_row _ _ _ _ _ _ h1]
  simp [hj]
theorem Strs.below {w w' : World} {b B : Nat} {xs : List ByteArray} (h : Strs w b xs) (hb : Below B w w') (hB : b < B) : Strs w' b xs :=
  fun j hj => (hb.cell (by exact hB)).trans (h j hj)
theorem Strs.lt {w : World} {b : Nat} {xs : List ByteArray} (h : Strs w b xs) (hn : 0 < xs.length) : b < w.heap.size := block_lt_of_cell (h 0 hn)
def kwB : List ByteArray := keywords.map fun l => ⟨l.toArray⟩
def mkB : List ByteArray := marks.map fun l => ⟨l.toArray⟩
def anyStr (xs : List ByteArray) (q : ByteArray) : Bool := xs.any fun x => decide (x.data.toList = q.data.toList)
theorem any_hit {xs : List ByteArray} {q : ByteArray} {k : Nat} (h : k < xs.length) (e : xs[k].data.toList = q.data.toList) : anyStr xs q = true := List.any_eq_true.2 ⟨_, List.getElem_mem h, decide_eq_true e⟩
theorem any_miss {xs : List ByteArray} {q : ByteArray} (h : ∀ j (h : j < xs.length), xs[j].data.toList ≠ q.data.toList) : anyStr xs q = false := by
  rw [anyStr, List.any_eq_false]
  intro x hx
  obtain ⟨j, hj, rfl⟩ := List.mem_iff_getElem.1 hx
  rw [decide_eq_false (h j hj)]; decide
theorem any_of (ls : List Str) (q : ByteArray) : anyStr (ls.map fun l => ⟨l.toArray⟩) q = decide (q.data.toList ∈ ls) := by
  rw [anyStr, List.any_map]
  refine Bool.eq_iff_iff.2 ?_
  rw [List.any_eq_true, decide_eq_true_iff]
  constructor
  · rintro ⟨x, hx, e⟩
    have := of_decide_eq_true e
    rw [← this]; exact hx
  · intro h
    exact ⟨_, h, decide_eq_true rfl⟩
/-! ### bytes -/

theorem letter_not {c : UInt8} (h : letter c = false) : ¬ (97 ≤ (c.toNat : Int) ∧ (c.toNat : Int) ≤ 122) := fun h2 => by
  rw [letter_iff.2 ⟨by omega, by omega⟩] at h; cases h
theorem digit_not {c : UInt8} (h : digit c = false) : ¬ (48 ≤ (c.toNat : Int) ∧ (c.toNat : Int) ≤ 57) := fun h2 => by
  rw [digit_iff.2 ⟨by omega, by omega⟩] at h; cases h
/-! ### word, IsName -/

/-- the length of the word at k -/
def wl (s : ByteArray) (k : Nat) : Nat := ((s.data.toList.drop k).takeWhile part).length
theorem wl_go {s : ByteArray} {k : Nat} (h : k < s.size) (hp : part s[k] = true) : wl s k = 1 + wl s (k + 1) := by
  unfold wl
  rw [drop_get s k h, List.takeWhile_cons, if_pos hp, List.length_cons]; omega
theorem wl_stop {s : ByteArray} {k : Nat} (h : k < s.size) (hp : part s[k] = false) : wl s k = 0 := by
  unfold wl
  rw [drop_get s k h, List.takeWhile_cons, if_neg (by rw [hp]; decide)]; rfl
theorem wl_end (s : ByteArray) : wl s s.size = 0 := by unfold wl; rw [drop_all]; rfl
theorem wl_le {s : ByteArray} {k : Nat} (h : k ≤ s.size) : k + wl s k ≤ s.size := by
  unfold wl
  have h1 := (List.takeWhile_sublist part (l := s.data.toList.drop k)).length_le
  rw [List.length_drop, ← size_len] at h1
  omega
end Go.Proofs.YtbmdadhbkdkgmaaDoor.L
