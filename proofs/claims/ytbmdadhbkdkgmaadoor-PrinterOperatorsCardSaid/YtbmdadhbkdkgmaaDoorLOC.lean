/-
  What the library's functions return that layer 7 calls: copies, leading bytes cut off, the part ahead of a line feed, line feeds counted; gapSize.
-/
import Derived.Test.YtbmdadhbkdkgmaaDoorLOB
import Derived.Test.YtbmdadhbkdkgmaaDoorShelf
import Derived.Lib.IndexLaws
namespace Go.Proofs.YtbmdadhbkdkgmaaDoor.L
open Go.RowKit

theorem oclone_any (s : ByteArray) (hs : s.size ≤ 281474976710656) (w : World) :
    Calls Tryd.prog 56 #[.string s] w fun e w' => e = .returned (.string s) ∧ Below w.heap.size w w' := by
  go_enter Tryd.func56, Tryd.ntmps56
  go_wp2_with (go_at_call 64; refine (Tryd.stringslite_Clone _ _ hs).mono ?_; rintro e w' ⟨rfl, hb⟩)
  go_ret
  exact ⟨rfl, hb⟩
theorem nf_count (l : Str) : Lib.countByte l 10 = nf l := by
  unfold Lib.countByte nf
  rw [List.count_eq_countP]
  refine List.countP_congr fun c _ => ?_
  rw [beq_iff_eq, decide_eq_true_iff, ← UInt8.toNat_inj]
  exact Iff.rfl
def blank (c : UInt8) : Bool := decide (c.toNat = 32 ∨ c.toNat = 9 ∨ c.toNat = 10)
theorem blank_of (c : UInt8) : ([32, 9, 10] : List UInt8).contains c = blank c := by
  unfold blank
  rw [Bool.eq_iff_iff, decide_eq_true_iff, List.contains_iff_mem]
  simp only [List.mem_cons, List.not_mem_nil, or_false, ← UInt8.toNat_inj]
  exact Iff.rfl
/-! ### the part ahead of a line feed -/

def noLf (c : UInt8) : Bool := decide (¬ c.toNat = 10)
theorem index_none {l : Str} (h : Lib.indexByte l 10 = -1) : l.takeWhile noLf = l := by
  have h1 := List.takeWhile_append_of_pos (l₁ := l) (l₂ := []) (p := noLf) fun c hc => ?_
  · rwa [List.append_nil, List.takeWhile_nil, List.append_nil] at h1
  obtain ⟨j, hj, rfl⟩ := List.mem_iff_getElem.1 hc
  have := Lib.indexByte_none h j
  rw [List.getElem?_eq_getElem hj] at this
  refine decide_eq_true fun e => this ?_
  rw [show l[j] = 10 from UInt8.toNat_inj.1 e]
theorem index_some {l : Str} {k : Nat} (h : Lib.indexByte l 10 = (k : Int)) : l.takeWhile noLf = l.take k ∧ k < l.length := by
  obtain ⟨h1, h2⟩ := Lib.indexByte_some h
  have hk : k < l.length := (List.getElem?_eq_some_iff.1 h1).1
  have e10 : l[k] = 10 := (List.getElem?_eq_some_iff.1 h1).2
  refine ⟨?_, hk⟩
  conv => lhs; rw [← List.take_append_drop k l]
  rw [List.takeWhile_append_of_pos, List.drop_eq_getElem_cons hk, List.takeWhile_cons, if_neg (by rw [e10]; decide), List.append_nil]
  intro c hc
  obtain ⟨j, hj, rfl⟩ := List.mem_iff_getElem.1 hc
  rw [List.length_take] at hj
  rw [List.getElem_take]
  refine decide_eq_true fun e => h2 j (by omega) ?_
  rw [List.getElem?_eq_getElem (by omega), show l[j] = 10 from UInt8.toNat_inj.1 e]
theorem head_ret {s d : ByteArray} {l : Str} (hd : d.data.toList = l) (h : s.data.toList.takeWhile noLf = l) : (⟨(s.data.toList.takeWhile noLf).toArray⟩ : ByteArray) = d := bytes_eq (by rw [hd]; exact h)
/-! ### gapSize -/

def gap (l : Str) : Nat := match l with | [] => 0 | c :: _ => if c.toNat = 35 then (l.takeWhile noLf).length else (l.takeWhile blank).length
theorem gap_hash {s : ByteArray} (h : 0 < s.size) (hc : s[0].toNat = 35) : gap s.data.toList = (s.data.toList.takeWhile noLf).length := by
  rw [list_cons h]; unfold gap; simp only; rw [if_pos hc]
theorem gap_not {s : ByteArray} (h : 0 < s.size) (hc : ¬ s[0].toNat = 35) : gap s.data.toList = (s.data.toList.takeWhile blank).length := by
  rw [list_cons h]; unfold gap; simp only; rw [if_neg hc]
theorem gap_le (l : Str) : gap l ≤ l.length := by
  cases l with
  | nil => exact Nat.le_refl _
  | cons c r =>
    unfold gap; simp only
    split
    · exact (List.takeWhile_sublist noLf).length_le
    · exact (List.takeWhile_sublist blank).length_le
theorem take_drop_len (p : UInt8 → Bool) (l : Str) : (l.takeWhile p).length + (l.dropWhile p).length = l.length := by
  rw [← List.length_append, List.takeWhile_append_dropWhile]
end Go.Proofs.YtbmdadhbkdkgmaaDoor.L
