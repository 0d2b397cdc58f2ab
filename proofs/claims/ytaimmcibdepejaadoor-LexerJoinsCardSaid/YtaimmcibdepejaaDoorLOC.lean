/-
  What the library's functions return that layer 7 calls: copies, leading bytes cut off, the part ahead of a line feed, line feeds counted; gapSize.
-/
import Derived.Test.YtaimmcibdepejaaDoorLOB
import Derived.Test.YtaimmcibdepejaaDoorLShelf
import Derived.Lib.IndexLaws
namespace Go.Proofs.YtaimmcibdepejaaDoor.L
open Go.RowKit

theorem oclone_any (s : ByteArray) (hs : s.size ≤ 281474976710656) (w : World) :
    Calls Tryd.prog 54 #[.string s] w fun e w' => e = .returned (.string s) ∧ Below w.heap.size w w' := by
  go_enter Tryd.func54, Tryd.ntmps54
  go_wp2_with (go_at_call 69; refine (Tryd.stringslite_Clone _ _ hs).mono ?_; rintro e w' ⟨rfl, hb⟩)
  go_ret
  exact ⟨rfl, hb⟩
theorem nf_count (l : Str) : Lib.countByte l 10 = nf l := by
  unfold Lib.countByte nf
  rw [List.count_eq_countP]
  refine List.countP_congr fun c _ => ?_
  rw [beq_iff_eq, decide_eq_true_iff, ← UInt8.toNat_inj]
  exact Iff.rfl
theorem ocount_any (s : ByteArray) (w : World) :
    Calls Tryd.prog 27 #[.string s, .string ⟨#[10]⟩] w fun e w' => e = .returned (.int .i64 ((nf s.data.toList : Nat) : Int)) ∧ w' = w := by
  rw [← nf_count]
  exact Tryd.strings_Count_one s 10 w
def blank (c : UInt8) : Bool := decide (c.toNat = 32 ∨ c.toNat = 9 ∨ c.toNat = 10)
theorem blank_of (c : UInt8) : ([32, 9, 10] : List UInt8).contains c = blank c := by
  unfold blank
  rw [Bool.eq_iff_iff, decide_eq_true_iff, List.contains_iff_mem]
  simp only [List.mem_cons, List.not_mem_nil, or_false, ← UInt8.toNat_inj]
  exact Iff.rfl
theorem otrim_any (s : ByteArray) (w : World) :
    Calls Tryd.prog 46 #[.string s, .string ⟨#[32, 9, 10]⟩] w fun e w' => e = .returned (.string ⟨(s.data.toList.dropWhile blank).toArray⟩) ∧ Below w.heap.size w w' := by
  have h := Any.strings_TrimLeft_laid Tryd.lays161 (by kernel_rfl) s ⟨#[32, 9, 10]⟩ w (by decide) (ascii_of_all (by decide))
  have e : Lib.trimLeftS s.data.toList (ByteArray.mk #[32, 9, 10]).data.toList = s.data.toList.dropWhile blank := by
    unfold Lib.trimLeftS
    congr 1
    funext c
    exact blank_of c
  rw [e] at h
  exact h

/-! ### the part ahead of a line feed -/

def noLf (c : UInt8) : Bool := decide (¬ c.toNat = 10)
theorem index_none {l : Str} (h : Lib.indexByte l 10 = -1) : l.takeWhile noLf = l := by
  have h1 := List.takeWhile_append_of_pos (l₁ := l) (l₂ := []) (p := noLf) fun c hc => ?_
  · rwa [List.append_nil, List.takeWhile_nil, List.append_nil] at h1
  obtain ⟨j, hj, rfl⟩ := List.mem_iff_getElem.1 hc
  have := Lib.indexByte_none h j
  rw [List.getElem?_eq_getElem hj] at this
  refine decide_eq_true fun e => this ?_
  rw [show l[j] = 10 from UInt8.toNat_inj.1 e]
theorem index_some {l : Str} {k : Nat} (h : Lib.indexByte l 10 = (k : Int)) : l.takeWhile noLf = l.take k ∧ k < l.length := by
  obtain ⟨h1, h2⟩ := Lib.indexByte_some h
  have hk : k < l.length := (List.getElem?_eq_some_iff.1 h1).1
  have e10 : l[k] = 10 := (List.getElem?_eq_some_iff.1 h1).2
  refine ⟨?_, hk⟩
  conv => lhs; rw [← List.take_append_drop k l]
  rw [List.takeWhile_append_of_pos, List.drop_eq_getElem_cons hk, List.takeWhile_cons, if_neg (by rw [e10]; decide), List.append_nil]
  intro c hc
  obtain ⟨j, hj, rfl⟩ := List.mem_iff_getElem.1 hc
  rw [List.length_take] at hj
  rw [List.getElem_take]
  refine decide_eq_true fun e => h2 j (by omega) ?_
  rw [List.getElem?_eq_getElem (by omega), show l[j] = 10 from UInt8.toNat_inj.1 e]
theorem oindexByte_any (s : ByteArray) (w : World) :
    Calls Tryd.prog 76 #[.string s, .int .u8 10] w fun e w' => e = .returned (.int .i64 (Lib.indexByte s.data.toList 10)) ∧ w' = w := Tryd.stringslite_IndexByte s 10 w
set_option maxHeartbeats 1000000 in
set_option maxRecDepth 100000 in
theorem oindex_any (s : ByteArray) (w : World) :
    Calls Tryd.prog 67 #[.string s, .string ⟨#[10]⟩] w fun e w' => e = .returned (.int .i64 (Lib.indexByte s.data.toList 10)) ∧ w' = w := by
  have HI := Lib.hid (oindexByte_any s)
  cases hq : (([10] : List UInt8) == s.toList)
  · generalize Lib.indexByte s.data.toList 10 = I at HI ⊢
    go_enter Tryd.func67, Tryd.ntmps67
    go_wp2_with fail
    refine (HI.out _).mono ?_; rintro e w1 ⟨rfl, rfl⟩
    go_wp2_with fail
    go_ret
    exact ⟨rfl, rfl⟩
  · have HV : Hid (Lib.indexByte s.data.toList 10 = 0) := by
      show _ = _
      rw [← Lib.toList_data, ← beq_iff_eq.1 hq]; rfl
    clear HI
    go_enter Tryd.func67, Tryd.ntmps67
    go_wp2_with fail
    go_ret
    exact ⟨ret_int HV.out.symm, rfl⟩
theorem head_ret {s d : ByteArray} {l : Str} (hd : d.data.toList = l) (h : s.data.toList.takeWhile noLf = l) : (⟨(s.data.toList.takeWhile noLf).toArray⟩ : ByteArray) = d := bytes_eq (by rw [hd]; exact h)
set_option maxHeartbeats 1000000 in
set_option maxRecDepth 100000 in
theorem ocutlite_any (s : ByteArray) (hs : s.size ≤ 1000000000000000) (w : World) :
    Calls Tryd.prog 66 #[.string s, .string ⟨#[10]⟩] w fun e w' => (∃ (r : ByteArray) (b : Bool), e = .returned (.tuple #[.string ⟨(s.data.toList.takeWhile noLf).toArray⟩, .string r, .bool b])) ∧ Below w.heap.size w w' := by
  have hi := oindex_any s
  have hge := Lib.indexByte_ge s.data.toList 10
  by_cases h : Lib.indexByte s.data.toList 10 = -1
  · rw [h] at hi
    have HI := Lib.hid hi
    have HV := Lib.hid (index_none h)
    clear hi hge h
    go_enter Tryd.func66, Tryd.ntmps66
    go_wp2_with fail
    refine (HI.out _).mono ?_; rintro e w1 ⟨rfl, rfl⟩
    go_wp2_with fail
    go_ret3
    exact ⟨⟨⟨#[]⟩, false, by rw [head_ret (d := s) rfl HV.out]; rfl⟩, Below.refl _ _⟩
  · obtain ⟨k, hk⟩ : ∃ k : Nat, Lib.indexByte s.data.toList 10 = (k : Int) := ⟨(Lib.indexByte s.data.toList 10).toNat, by omega⟩
    rw [hk] at hi
    obtain ⟨h1, h2⟩ := index_some hk
    rw [← size_len] at h2
    obtain ⟨d, hd, _, hsl⟩ := slice_to s k (by omega)
    obtain ⟨r, _, _, hsr⟩ := slice_from s (k + 1) (by omega)
    simp only [Int.natCast_add, Int.natCast_one] at hsr
    have HI := Lib.hid hi
    have HV := Lib.hid (head_ret hd h1)
    clear hi hge h hk h1 hd
    go_enter Tryd.func66, Tryd.ntmps66
    go_wp2_with fail
    refine (HI.out _).mono ?_; rintro e w1 ⟨rfl, rfl⟩
    go_wp2_with fail
    go_region
    go_wp2_with fail
    go_ret3
    exact ⟨⟨_, _, by rw [HV.out]; rfl⟩, below_drew _⟩
theorem ocut_any (s : ByteArray) (hs : s.size ≤ 1000000000000000) (w : World) :
    Calls Tryd.prog 47 #[.string s, .string ⟨#[10]⟩] w fun e w' => (∃ (r : ByteArray) (b : Bool), e = .returned (.tuple #[.string ⟨(s.data.toList.takeWhile noLf).toArray⟩, .string r, .bool b])) ∧ Below w.heap.size w w' := by
  have HC := Lib.hid (ocutlite_any s hs)
  generalize s.data.toList.takeWhile noLf = l at HC ⊢
  go_enter Tryd.func47, Tryd.ntmps47
  go_wp2_with fail
  refine (HC.out _).mono ?_; rintro e w1 ⟨⟨r, b, rfl⟩, hb⟩
  go_wp2_with fail
  go_ret3
  exact ⟨⟨_, _, rfl⟩, hb⟩

/-! ### gapSize -/

def gap (l : Str) : Nat := match l with | [] => 0 | c :: _ => if c.toNat = 35 then (l.takeWhile noLf).length else (l.takeWhile blank).length
theorem gap_hash {s : ByteArray} (h : 0 < s.size) (hc : s[0].toNat = 35) : gap s.data.toList = (s.data.toList.takeWhile noLf).length := by
  rw [list_cons h]; unfold gap; simp only; rw [if_pos hc]
theorem gap_not {s : ByteArray} (h : 0 < s.size) (hc : ¬ s[0].toNat = 35) : gap s.data.toList = (s.data.toList.takeWhile blank).length := by
  rw [list_cons h]; unfold gap; simp only; rw [if_neg hc]
theorem gap_le (l : Str) : gap l ≤ l.length := by
  cases l with
  | nil => exact Nat.le_refl _
  | cons c r =>
    unfold gap; simp only
    split
    · exact (List.takeWhile_sublist noLf).length_le
    · exact (List.takeWhile_sublist blank).length_le
theorem hash_any (s : ByteArray) (h : 0 < s.size) (w : World) :
    Calls Tryd.prog 45 #[.string s, .string ⟨#[35]⟩] w fun e w' => e = .returned (.bool (decide (s[0].toNat = 35))) ∧ w' = w := by
  have e : Lib.hasPrefix s.data.toList (ByteArray.mk #[35]).data.toList = decide (s[0].toNat = 35) := by
    rw [list_cons h]
    unfold Lib.hasPrefix
    show ((35 : UInt8) == s[0] && true) = _
    rw [Bool.and_true, Bool.eq_iff_iff, beq_iff_eq, decide_eq_true_iff, ← UInt8.toNat_inj]
    exact ⟨fun h => h.symm, fun h => h.symm⟩
  rw [← e]
  exact Tryd.strings_HasPrefix s ⟨#[35]⟩ w
theorem take_drop_len (p : UInt8 → Bool) (l : Str) : (l.takeWhile p).length + (l.dropWhile p).length = l.length := by
  rw [← List.length_append, List.takeWhile_append_dropWhile]
set_option maxHeartbeats 1000000 in
set_option maxRecDepth 100000 in
theorem ogap_any (s : ByteArray) (hs : s.size ≤ 1000000000000000) (h0 : 0 < s.size) (w : World) :
    Calls Tryd.prog 26 #[.string s] w fun e w' => e = .returned (.int .i64 ((gap s.data.toList : Nat) : Int)) ∧ Below w.heap.size w w' := by
  have hp := hash_any s h0
  by_cases hc : s[0].toNat = 35
  · rw [decide_eq_true hc] at hp
    have HP := Lib.hid hp
    have HV := Lib.hid (gap_hash h0 hc)
    have HC := Lib.hid (ocut_any s hs)
    obtain ⟨d, hd⟩ : ∃ d : ByteArray, d = ⟨(s.data.toList.takeWhile noLf).toArray⟩ := ⟨_, rfl⟩
    have HD : Hid (d.size = (s.data.toList.takeWhile noLf).length) := by show _ = _; rw [size_len, hd]
    rw [← hd] at HC
    clear hp hc hd
    go_enter Tryd.func26, Tryd.ntmps26
    go_wp2_with fail
    refine (HP.out _).mono ?_; rintro e w1 ⟨rfl, rfl⟩
    go_wp2_with fail
    refine (HC.out _).mono ?_; rintro e w2 ⟨⟨r, b, rfl⟩, hb⟩
    go_wp2_with fail
    go_ret
    exact ⟨ret_int (by rw [HV.out, HD.out]), hb⟩
  · rw [decide_eq_false hc] at hp
    have HP := Lib.hid hp
    have HV := Lib.hid (gap_not h0 hc)
    have HC := Lib.hid (otrim_any s)
    obtain ⟨d, hd⟩ : ∃ d : ByteArray, d = ⟨(s.data.toList.dropWhile blank).toArray⟩ := ⟨_, rfl⟩
    have hdz : d.size = (s.data.toList.dropWhile blank).length := by rw [size_len, hd]
    have htd := take_drop_len blank s.data.toList
    rw [← hdz, ← size_len] at htd
    rw [← hd] at HC
    obtain ⟨q, hq⟩ : ∃ q, (s.data.toList.takeWhile blank).length = q := ⟨_, rfl⟩
    rw [hq] at HV htd
    clear hp hc hd hdz hq
    go_enter Tryd.func26, Tryd.ntmps26
    go_wp2_with fail
    refine (HP.out _).mono ?_; rintro e w1 ⟨rfl, rfl⟩
    go_wp2_with fail
    refine (HC.out _).mono ?_; rintro e w2 ⟨rfl, hb⟩
    go_wp2_with fail
    go_ret
    exact ⟨ret_int (by rw [HV.out]; omega), hb⟩
end Go.Proofs.YtaimmcibdepejaaDoor.L
