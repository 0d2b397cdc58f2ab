/-
  What Format returns, of the program and of the reference: the decimal numeral, for every 64-bit integer.
-/
import Derived.Test.YtaimmcibdepejaaDoorRefParse
import Derived.Below
import Derived.Sort.Grow
import Derived.Laws.IdiomStrings
import Derived.Lib.SmallJoins
namespace Go.Proofs.YtaimmcibdepejaaDoor
open Go.RowKit

theorem below_grow (w : World) (q : Nat) (os : Array Obj) : Below w.heap.size w (Go.Sort.grow (w.drewN q) os) :=
  ⟨rfl, rfl, rfl, by simp [Go.Sort.grow], fun k hk => by
    show (w.heap ++ os)[k]? = w.heap[k]?
    rw [Array.getElem?_append_left hk]⟩
theorem format_any (n : Int) (h0 : -9223372036854775808 ≤ n) (h1 : n ≤ 9223372036854775807) (w : World) (htab : Lib.TabIs Tryd.prog w "internal/strconv.uint64pow10" .u64 Lib.pow10Tab) :
    Calls Tryd.prog 43 #[.int .i64 n] w fun e w' => e = .returned (.string ⟨(Lib.itoa n).toArray⟩) ∧ Below w.heap.size w w' := by
  have HT := Lib.hid htab
  clear htab
  go_enter Tryd.func43, Tryd.ntmps43
  go_wp2_with (go_at_call 60; refine (Tryd.strconv_FormatInt_10 _ h0 h1 _ HT.out).mono ?_; rintro e w' ⟨rfl, k, os, rfl⟩)
  go_ret
  exact ⟨rfl, below_grow _ _ _⟩

/-- the digits that are still to be written before the text t -/
def ahead (x : Nat) (t : ByteArray) : List UInt8 := if x = 0 ∧ t.size ≠ 0 then [] else Lib.decDigits x
def emptyB (v : Value) : Nat := match v with | .string t => if t.size = 0 then 1 else 0 | _ => 0
theorem digit_back (x : Nat) (wr : World) : ∃ c : ByteArray, c.data.toList = [UInt8.ofNat (48 + x % 10)] ∧
    (convert 39 9 (.slice (some ⟨wr.heap.size, 0, none⟩) 1 1)).run Tryd.prog (wr.alloc (.cells #[.int .u8 (48 + (x : Int) % 10)] 5)) = .ok (.string c) (wr.alloc (.cells #[.int .u8 (48 + (x : Int) % 10)] 5)) := by
  have h := toNat_dig (i := x % 10) (Nat.mod_lt _ (by decide))
  refine ⟨⟨#[UInt8.ofNat (48 + x % 10)]⟩, rfl, run_convert_bytes_back (P := Tryd.prog) _ 39 9 5 _ 1 [UInt8.ofNat (48 + x % 10)] Tryd.underlying39 Tryd.underlying5 Tryd.underlying9 ?_⟩
  intro j hj
  have hj0 : j = 0 := by simpa using hj
  subst hj0
  rw [show ([UInt8.ofNat (48 + x % 10)][0]'hj).toNat = 48 + x % 10 from h]
  rw [show (Addr.add ⟨wr.heap.size, 0, none⟩ 0) = ⟨wr.heap.size, 0, none⟩ from rfl, World.cell?_alloc_at _ _ _ _ (by simp)]
  simp
theorem append_list (c t : ByteArray) : (c ++ t).data.toList = c.data.toList ++ t.data.toList := by simp
theorem ahead_size {x u : Nat} {t : ByteArray} (hu : u < 18446744073709551616) (h : ahead x t ++ t.data.toList = Lib.decDigits u) : t.size ≤ 20 := by
  have h1 := congrArg List.length h
  rw [List.length_append, ← size_len, Lib.decDigits_length] at h1
  have h2 : Lib.nDigits u ≤ 20 := by
    have := Lib.numDigits_eq u
    by_cases h0 : 1 ≤ u
    · have h3 := this h0 hu
      have h4 : (if 10 ^ Lib.l10 (Lib.bitLen u) ≤ u then 1 else 0) ≤ 1 := by split <;> omega
      omega
    · rw [Lib.nDigits_small (by omega)]; omega
  omega
theorem ahead_next {x : Nat} {t c : ByteArray} {l : List UInt8} (hc : c.data.toList = [UInt8.ofNat (48 + x % 10)]) (hx : ¬ (x = 0 ∧ t.size ≠ 0)) (h : ahead x t ++ t.data.toList = l) :
    ahead (x / 10) (c ++ t) ++ (c ++ t).data.toList = l := by
  have hs : (c ++ t).size ≠ 0 := by
    rw [size_len, append_list, hc]; simp
  unfold ahead at *
  rw [if_neg hx] at h
  rw [append_list, hc, ← h]
  by_cases h10 : x < 10
  · have h0 : x / 10 = 0 := by omega
    rw [if_pos ⟨h0, hs⟩, Lib.decDigits_one h10, Nat.mod_eq_of_lt h10]; rfl
  · rw [if_neg (by omega), Lib.decDigits.eq_1 x, dif_neg h10]
    simp
theorem empty_not {c t : ByteArray} {b : UInt8} (hc : c.data.toList = [b]) : emptyB (.string (c ++ t)) = 0 := by
  have hs : (c ++ t).size ≠ 0 := by
    rw [size_len, append_list, hc]; simp
  unfold emptyB
  exact if_neg hs
theorem ahead_done {t : ByteArray} {l : List UInt8} (he : t.toList.isEmpty = false) (h : ahead 0 t ++ t.data.toList = l) : t.data.toList = l := by
  have hz : t.size ≠ 0 := by
    intro hz
    rw [size_len, ← Lib.toList_data] at hz
    rw [List.length_eq_zero_iff.1 hz] at he
    cases he
  unfold ahead at h
  rw [if_pos ⟨rfl, hz⟩] at h
  exact h
theorem ret_string {a b : ByteArray} (h : a = b) : Ending.returned (.string a) = Ending.returned (.string b) := by rw [h]
theorem bytes_eq {a b : ByteArray} (h : a.data.toList = b.data.toList) : a = b := WideShapes.bytes_inj h
theorem itoa_neg {n : Int} {t : ByteArray} (hn : n < 0) (h : t.data.toList = Lib.decDigits n.natAbs) : (⟨#[45]⟩ : ByteArray) ++ t = ⟨(Lib.itoa n).toArray⟩ := by
  refine bytes_eq ?_
  rw [append_list, h, Lib.itoa, if_pos hn]
  simp
theorem itoa_pos {n : Int} {t : ByteArray} (hn : ¬ n < 0) (h : t.data.toList = Lib.decDigits n.natAbs) : t = ⟨(Lib.itoa n).toArray⟩ := by
  refine bytes_eq ?_
  rw [h, Lib.itoa, if_neg hn, show n.natAbs = n.toNat by omega]
set_option maxRecDepth 100000 in
theorem rformat_any (n : Int) (h0 : -9223372036854775808 ≤ n) (h1 : n ≤ 9223372036854775807) (w : World) :
    Calls Tryd.prog 41 #[.int .i64 n] w fun e w' => e = .returned (.string ⟨(Lib.itoa n).toArray⟩) ∧ Below w.heap.size w w' := by
  go_enter Tryd.func41, Tryd.ntmps41
  go_wp2_with (go_at_call 59; refine (size_any _ h0 h1 _).mono ?_; rintro e w' ⟨rfl, rfl⟩)
  go_loopw [3, 4] (fun u s wr => ∃ (x : Nat) (t : ByteArray), u = .int .u64 x ∧ s = .string t ∧ Below w.heap.size w wr ∧ x < 18446744073709551616 ∧ Hid (ahead x t ++ t.data.toList = Lib.decDigits n.natAbs)) (fun u s _ => (intOf u).toNat + emptyB s)
  case atStart => exact ⟨_, ⟨#[]⟩, rfl, rfl, Below.refl _ _, by omega, by unfold ahead; rw [if_neg (by intro h; exact h.2 rfl)]; exact List.append_nil _⟩
  case round =>
    obtain ⟨x, t, rfl, rfl, hb, hx, HA⟩ := hrel
    have ht := ahead_size (by omega) HA.out
    by_cases hx0 : 0 < x
    · obtain ⟨c, hc, hback⟩ := digit_back x wr
      have HC := Lib.hid hc
      have hcs : c.size ≤ 1 := by rw [size_len, hc]; exact Nat.le_refl _
      have HN := Lib.hid (ahead_next hc (by omega) HA.out)
      have HM := Lib.hid (empty_not hc (t := t))
      clear hc
      go_wp2
      go_roundw
      case rel => exact ⟨x / 10, c ++ t, by go_num, rfl, hb.alloc hb.size _, by omega, HN⟩
      case measure => rw [HM.out]; simp [intOf]; omega
    · obtain rfl : x = 0 := by omega
      cases he : t.toList.isEmpty
      · have HF := Lib.hid (ahead_done he HA.out)
        go_wp2
        · go_ret
          exact ⟨ret_string (itoa_neg (by omega) HF.out), hb⟩
        · go_ret
          exact ⟨ret_string (itoa_pos (by omega) HF.out), hb⟩
      · have hz : t.size = 0 := by rw [size_len, ← Lib.toList_data]; exact List.length_eq_zero_iff.2 (List.isEmpty_iff.1 he)
        obtain ⟨c, hc, hback⟩ := digit_back 0 wr
        rw [show (48 + ((0 : Nat) : Int) % 10) = 48 from rfl] at hback
        have HC := Lib.hid hc
        have hcs : c.size ≤ 1 := by rw [size_len, hc]; exact Nat.le_refl _
        have HN := Lib.hid (ahead_next hc (by omega) HA.out)
        have HM := Lib.hid (empty_not hc (t := t))
        have HZ := Lib.hid hz
        clear hc hz
        go_wp2
        go_roundw
        case rel => exact ⟨0, c ++ t, by go_num, rfl, hb.alloc hb.size _, by omega, HN⟩
        case measure => rw [HM.out]; simp [intOf, emptyB, HZ.out]
end Go.Proofs.YtaimmcibdepejaaDoor
