/-
  What the functions on texts return, of the program and of the reference: contracts, one a function.
  
  What the reference's Parse returns, for every text.
  What Format returns, of the program and of the reference: the decimal numeral, for every 64-bit integer.
-/
import Derived.Test.YtbmdadhbkdkgmaaDoorArith
import Derived.Test.YtbmdadhbkdkgmaaDoorShelf
import Derived.LoopTactic
import Derived.Lib.Strings
import Derived.Lib.IndexBytes
import Derived.Deep.LoopGhost
import Derived.Below
import Derived.Sort.Grow
import Derived.Laws.IdiomStrings
import Derived.Lib.SmallJoins
namespace Go.Proofs.YtbmdadhbkdkgmaaDoor
open Go.RowKit

theorem ret_bool {a b : Bool} (h : a = b) : Ending.returned (.bool a) = Ending.returned (.bool b) := by rw [h]
theorem isDig_iff (c : UInt8) : isDig c = true ↔ 48 ≤ (c.toNat : Int) ∧ (c.toNat : Int) ≤ 57 := by
  unfold isDig
  simp [UInt8.le_iff_toNat_le]
  omega
theorem size_len (s : ByteArray) : s.size = s.data.toList.length := by simp
theorem list_get {s : ByteArray} {k : Nat} (h : k < s.size) : s.data.toList[k]'(by rw [← size_len]; exact h) = s[k] := rfl
theorem take_dig {s : ByteArray} {k : Nat} (h : k < s.size) (hd : (s.data.toList.take k).all isDig = true) (hc : 48 ≤ (s[k].toNat : Int) ∧ (s[k].toNat : Int) ≤ 57) :
    (s.data.toList.take (k + 1)).all isDig = true := by
  rw [take_snoc _ _ (by rw [← size_len]; exact h), List.all_append, hd, list_get h]
  have : isDig s[k] = true := (isDig_iff _).2 hc
  rw [List.all_cons, this]; rfl
theorem whole_not {s : ByteArray} {k : Nat} (h : k < s.size) (hc : ¬ (48 ≤ (s[k].toNat : Int) ∧ (s[k].toNat : Int) ≤ 57)) : whole s.data.toList = false := by
  have h2 : isDig s[k] = false := by
    cases hd : isDig s[k]
    · rfl
    · exact absurd ((isDig_iff _).1 hd) hc
  have : s.data.toList.all isDig = false := by
    rw [List.all_eq_false]
    exact ⟨s[k], by rw [← list_get h]; exact List.getElem_mem _, by simp [h2]⟩
  unfold whole
  rw [this]; rfl
theorem cons_get (l : List UInt8) (h : 0 < l.length) : l = l[0] :: l.tail := by
  match l, h with
  | c :: r, _ => rfl
theorem list_cons {s : ByteArray} (h : 0 < s.size) : s.data.toList = s[0] :: s.data.toList.tail :=
  cons_get s.data.toList (by rw [← size_len]; exact h)
theorem whole_cons {c : UInt8} {r : List UInt8} (hd : (c :: r).all isDig = true) : whole (c :: r) = (c != 48 || r == []) := by
  unfold whole
  rw [hd]
  by_cases hc : c = 48
  · subst hc; cases r <;> simp
  · have e1 : (c == 48) = false := beq_eq_false_iff_ne.2 hc
    have e2 : (c != 48) = true := bne_iff_ne.2 hc
    rw [e2]
    simp [e1, hc]
theorem ne_48 (c : UInt8) : (c != 48) = ((c.toNat : Int) != 48) := by
  rw [Bool.eq_iff_iff]
  simp only [bne_iff_ne, ne_eq]
  constructor
  · intro h1 h2; exact h1 (UInt8.toNat_inj.1 (by simpa using (by omega : c.toNat = 48)))
  · intro h1 h2; rw [h2] at h1; exact h1 rfl
theorem whole_end {s : ByteArray} (h : 0 < s.size) (hd : (s.data.toList.take s.size).all isDig = true) :
    (s.toList == [48] || !s.toList.isEmpty && (s[0].toNat : Int) != 48) = whole s.data.toList := by
  rw [List.take_of_length_le (by rw [← size_len]; exact Nat.le_refl _)] at hd
  rw [Lib.toList_data, list_cons h] at *
  rw [whole_cons hd, ← ne_48]
  by_cases hc : s[0] = 48
  · rw [hc]; cases s.data.toList.tail <;> simp
  · have e1 : (s[0] == 48) = false := beq_eq_false_iff_ne.2 hc
    have e2 : (s[0] != 48) = true := bne_iff_ne.2 hc
    simp [e1, e2]
theorem whole_end2 {s : ByteArray} (h : 0 < s.size) (hd : (s.data.toList.take s.size).all isDig = true) :
    whole s.data.toList = ((s[0].toNat : Int) != 48 || (s.size : Int) == 1) := by
  rw [List.take_of_length_le (by rw [← size_len]; exact Nat.le_refl _)] at hd
  have hl := size_len s
  rw [list_cons h] at hd hl ⊢
  rw [whole_cons hd, ← ne_48, hl]
  congr 1
  cases s.data.toList.tail with
  | nil => rfl
  | cons c r => simp; omega
theorem list_nil {s : ByteArray} (h : ¬ 0 < s.size) : s.toList = [] := by
  rw [Lib.toList_data]
  have := size_len s
  exact List.length_eq_zero_iff.1 (by omega)

end Go.Proofs.YtbmdadhbkdkgmaaDoor
namespace Go.Proofs.YtbmdadhbkdkgmaaDoor
open Go.RowKit

theorem all_get {s : ByteArray} {k : Nat} (h : k < s.size) (hd : s.data.toList.all isDig = true) : 48 ≤ (s[k].toNat : Int) ∧ (s[k].toNat : Int) ≤ 57 := by
  refine (isDig_iff _).1 (List.all_eq_true.1 hd _ ?_)
  rw [← list_get h]
  exact List.getElem_mem _
theorem whole_all {l : List UInt8} (h : whole l = true) : l.all isDig = true := by
  unfold whole at h
  exact (Bool.and_eq_true _ _ ▸ h).1
theorem val_next {s : ByteArray} {k : Nat} (h : k < s.size) : val (s.data.toList.take (k + 1)) = val (s.data.toList.take k) * 10 + (s[k].toNat - 48) := by
  rw [take_snoc _ _ (by rw [← size_len]; exact h), val_snoc, list_get h]

theorem tdiv_10 (y : Int) (h : y ≤ 0) : y.tdiv 10 = -((-y) / 10) := by
  have h1 := Int.neg_tdiv (-y) 10
  rw [Int.neg_neg] at h1
  rw [h1, Int.tdiv_eq_ediv_of_nonneg (by omega)]
theorem val_neg {s : ByteArray} {k : Nat} {x : Int} (h : k < s.size) (hx : x = -(val (s.data.toList.take k) : Int)) (hc : 48 ≤ (s[k].toNat : Int)) :
    x * 10 - ((s[k].toNat : Int) - 48) = -(val (s.data.toList.take (k + 1)) : Int) := by
  rw [val_next h]; omega
theorem val_over {s : ByteArray} {k : Nat} {x : Int} (h : k < s.size) (hx : x = -(val (s.data.toList.take k) : Int)) (ho : x * 10 - ((s[k].toNat : Int) - 48) < -9223372036854775808) (hc : 48 ≤ (s[k].toNat : Int)) :
    9223372036854775808 < (val s.data.toList : Int) := by
  have h1 := val_take_le s.data.toList (k + 1)
  rw [val_neg h hx hc] at ho
  omega
theorem val_all {s : ByteArray} {x : Int} (hx : x = -(val (s.data.toList.take s.size) : Int)) : -x = (val s.data.toList : Int) := by
  rw [List.take_of_length_le (by rw [← size_len]; exact Nat.le_refl _)] at hx
  omega

/-- the text behind a minus sign, as bytes -/
def bodyB (s : ByteArray) : ByteArray := ⟨(body s.data.toList).toArray⟩
theorem bodyB_list (s : ByteArray) : (bodyB s).data.toList = body s.data.toList := by simp [bodyB]
theorem bodyB_size (s : ByteArray) : (bodyB s).size ≤ s.size := by
  rw [size_len, bodyB_list, size_len]
  unfold body
  split <;> simp
end Go.Proofs.YtbmdadhbkdkgmaaDoor
namespace Go.Proofs.YtbmdadhbkdkgmaaDoor
open Go.RowKit

theorem val_pos {s : ByteArray} {k : Nat} {x : Int} (h : k < s.size) (hx : x = (val (s.data.toList.take k) : Int)) (hc : 48 ≤ (s[k].toNat : Int)) :
    x * 10 + ((s[k].toNat : Int) - 48) = (val (s.data.toList.take (k + 1)) : Int) := by
  rw [val_next h]; omega
theorem val_over2 {s : ByteArray} {k : Nat} {x : Int} (h : k < s.size) (hx : x = (val (s.data.toList.take k) : Int)) (L : Int) (ho : L < x * 10 + ((s[k].toNat : Int) - 48)) (hc : 48 ≤ (s[k].toNat : Int)) :
    L < (val s.data.toList : Int) := by
  have h1 := val_take_le s.data.toList (k + 1)
  rw [val_pos h hx hc] at ho
  omega
theorem val_all2 {s : ByteArray} {x : Int} (hx : x = (val (s.data.toList.take s.size) : Int)) : x = (val s.data.toList : Int) := by
  rw [List.take_of_length_le (by rw [← size_len]; exact Nat.le_refl _)] at hx
  exact hx
end Go.Proofs.YtbmdadhbkdkgmaaDoor
namespace Go.Proofs.YtbmdadhbkdkgmaaDoor
open Go.RowKit

theorem below_grow (w : World) (q : Nat) (os : Array Obj) : Below w.heap.size w (Go.Sort.grow (w.drewN q) os) :=
  ⟨rfl, rfl, rfl, by simp [Go.Sort.grow], fun k hk => by
    show (w.heap ++ os)[k]? = w.heap[k]?
    rw [Array.getElem?_append_left hk]⟩
theorem format_any (n : Int) (h0 : -9223372036854775808 ≤ n) (h1 : n ≤ 9223372036854775807) (w : World) (htab : Lib.TabIs Tryd.prog w "internal/strconv.uint64pow10" .u64 Lib.pow10Tab) :
    Calls Tryd.prog 55 #[.int .i64 n] w fun e w' => e = .returned (.string ⟨(Lib.itoa n).toArray⟩) ∧ Below w.heap.size w w' := by
  have HT := Lib.hid htab
  clear htab
  go_enter Tryd.func55, Tryd.ntmps55
  go_wp2_with (go_at_call 63; refine (Tryd.strconv_FormatInt_10 _ h0 h1 _ HT.out).mono ?_; rintro e w' ⟨rfl, k, os, rfl⟩)
  go_ret
  exact ⟨rfl, below_grow _ _ _⟩

/-- the digits that are still to be written before the text t -/
def ahead (x : Nat) (t : ByteArray) : List UInt8 := if x = 0 ∧ t.size ≠ 0 then [] else Lib.decDigits x
def emptyB (v : Value) : Nat := match v with | .string t => if t.size = 0 then 1 else 0 | _ => 0
theorem digit_back (x : Nat) (wr : World) : ∃ c : ByteArray, c.data.toList = [UInt8.ofNat (48 + x % 10)] ∧
    (convert 65 9 (.slice (some ⟨wr.heap.size, 0, none⟩) 1 1)).run Tryd.prog (wr.alloc (.cells #[.int .u8 (48 + (x : Int) % 10)] 5)) = .ok (.string c) (wr.alloc (.cells #[.int .u8 (48 + (x : Int) % 10)] 5)) := by
  have h := toNat_dig (i := x % 10) (Nat.mod_lt _ (by decide))
  refine ⟨⟨#[UInt8.ofNat (48 + x % 10)]⟩, rfl, run_convert_bytes_back (P := Tryd.prog) _ 65 9 5 _ 1 [UInt8.ofNat (48 + x % 10)] Tryd.underlying65 Tryd.underlying5 Tryd.underlying9 ?_⟩
  intro j hj
  have hj0 : j = 0 := by simpa using hj
  subst hj0
  rw [show ([UInt8.ofNat (48 + x % 10)][0]'hj).toNat = 48 + x % 10 from h]
  rw [show (Addr.add ⟨wr.heap.size, 0, none⟩ 0) = ⟨wr.heap.size, 0, none⟩ from rfl, World.cell?_alloc_at _ _ _ _ (by simp)]
  simp
theorem append_list (c t : ByteArray) : (c ++ t).data.toList = c.data.toList ++ t.data.toList := by simp
theorem ahead_size {x u : Nat} {t : ByteArray} (hu : u < 18446744073709551616) (h : ahead x t ++ t.data.toList = Lib.decDigits u) : t.size ≤ 20 := by
  have h1 := congrArg List.length h
  rw [List.length_append, ← size_len, Lib.decDigits_length] at h1
  have h2 : Lib.nDigits u ≤ 20 := by
    have := Lib.numDigits_eq u
    by_cases h0 : 1 ≤ u
    · have h3 := this h0 hu
      have h4 : (if 10 ^ Lib.l10 (Lib.bitLen u) ≤ u then 1 else 0) ≤ 1 := by split <;> omega
      omega
    · rw [Lib.nDigits_small (by omega)]; omega
  omega
theorem ahead_next {x : Nat} {t c : ByteArray} {l : List UInt8} (hc : c.data.toList = [UInt8.ofNat (48 + x % 10)]) (hx : ¬ (x = 0 ∧ t.size ≠ 0)) (h : ahead x t ++ t.data.toList = l) :
    ahead (x / 10) (c ++ t) ++ (c ++ t).data.toList = l := by
  have hs : (c ++ t).size ≠ 0 := by
    rw [size_len, append_list, hc]; simp
  unfold ahead at *
  rw [if_neg hx] at h
  rw [append_list, hc, ← h]
  by_cases h10 : x < 10
  · have h0 : x / 10 = 0 := by omega
    rw [if_pos ⟨h0, hs⟩, Lib.decDigits_one h10, Nat.mod_eq_of_lt h10]; rfl
  · rw [if_neg (by omega), Lib.decDigits.eq_1 x, dif_neg h10]
    simp
theorem empty_not {c t : ByteArray} {b : UInt8} (hc : c.data.toList = [b]) : emptyB (.string (c ++ t)) = 0 := by
  have hs : (c ++ t).size ≠ 0 := by
    rw [size_len, append_list, hc]; simp
  unfold emptyB
  exact if_neg hs
theorem ahead_done {t : ByteArray} {l : List UInt8} (he : t.toList.isEmpty = false) (h : ahead 0 t ++ t.data.toList = l) : t.data.toList = l := by
  have hz : t.size ≠ 0 := by
    intro hz
    rw [size_len, ← Lib.toList_data] at hz
    rw [List.length_eq_zero_iff.1 hz] at he
    cases he
  unfold ahead at h
  rw [if_pos ⟨rfl, hz⟩] at h
  exact h
theorem ret_string {a b : ByteArray} (h : a = b) : Ending.returned (.string a) = Ending.returned (.string b) := by rw [h]
theorem bytes_eq {a b : ByteArray} (h : a.data.toList = b.data.toList) : a = b := WideShapes.bytes_inj h
theorem itoa_neg {n : Int} {t : ByteArray} (hn : n < 0) (h : t.data.toList = Lib.decDigits n.natAbs) : (⟨#[45]⟩ : ByteArray) ++ t = ⟨(Lib.itoa n).toArray⟩ := by
  refine bytes_eq ?_
  rw [append_list, h, Lib.itoa, if_pos hn]
  simp
theorem itoa_pos {n : Int} {t : ByteArray} (hn : ¬ n < 0) (h : t.data.toList = Lib.decDigits n.natAbs) : t = ⟨(Lib.itoa n).toArray⟩ := by
  refine bytes_eq ?_
  rw [h, Lib.itoa, if_neg hn, show n.natAbs = n.toNat by omega]
end Go.Proofs.YtbmdadhbkdkgmaaDoor
