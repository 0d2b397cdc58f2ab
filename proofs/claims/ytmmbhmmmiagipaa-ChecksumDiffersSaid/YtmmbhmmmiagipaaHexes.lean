/-
  What Hex returns, of the program and of the reference: contracts.
-/
import Derived.Test.YtmmbhmmmiagipaaUnseal
namespace Go.Proofs.Ytmmbhmmmiagipaa
open Go.RowKit
open Go.Lib (byteCells)

/-- the digit of a number below 16 -/
def dig (d : Nat) : UInt8 := [48, 49, 50, 51, 52, 53, 54, 55, 56, 57, 97, 98, 99, 100, 101, 102].getD d 0
/-- the last n digits of a number -/
def hexN : Nat → Nat → List UInt8
  | 0, _ => []
  | n + 1, h => hexN n (h / 16) ++ [dig (h % 16)]
theorem hexN_length : ∀ n h, (hexN n h).length = n
  | 0, _ => rfl
  | n + 1, h => by rw [hexN, List.length_append, hexN_length n]; rfl
def hex (h : Nat) : ByteArray := ⟨(hexN 16 h).toArray⟩
theorem mk_list (l : List UInt8) : (ByteArray.mk l.toArray).data.toList = l := rfl
theorem hex_list (h : Nat) : (hex h).data.toList = hexN 16 h := mk_list _
def digits : ByteArray := ⟨#[48, 49, 50, 51, 52, 53, 54, 55, 56, 57, 97, 98, 99, 100, 101, 102]⟩
theorem digit_val (d : Nat) (h : d < 16) (h2 : d < digits.size) : digits[d] = dig d := by
  match d, h with
  | 0, _ => rfl | 1, _ => rfl | 2, _ => rfl | 3, _ => rfl | 4, _ => rfl | 5, _ => rfl | 6, _ => rfl | 7, _ => rfl | 8, _ => rfl | 9, _ => rfl | 10, _ => rfl | 11, _ => rfl | 12, _ => rfl | 13, _ => rfl | 14, _ => rfl | 15, _ => rfl
  | d + 16, h => omega
theorem digit_run (d : Nat) (hd : d < 16) (k : IntKind) (W : World) : (Instr.index 9 (.string ⟨#[48, 49, 50, 51, 52, 53, 54, 55, 56, 57, 97, 98, 99, 100, 101, 102]⟩) (.int k (d : Int))).run Try.prog W = .ok (.int .u8 ((dig d).toNat : Int)) W := by
  have hs : digits.size = 16 := rfl
  have h := run_index_string (P := Try.prog) W 9 digits k (d : Int) Try.underlying9
  rw [dif_pos ⟨by omega, by rw [hs]; omega⟩] at h
  have e := digit_val d hd (by rw [hs]; exact hd)
  simp only [Int.toNat_natCast] at h
  rw [e] at h
  exact h
theorem and_15 (y : Nat) (hy : y < 18446744073709551616) : bits .and .u64 (y : Int) 15 = ((y % 16 : Nat) : Int) := by
  have h := u64_and_nat y 15 hy (by decide)
  rw [nat_mask4] at h
  exact h
/-- The cells when the last digits are laid. -/
def tailed (n : Nat) (t : List UInt8) : List Value := List.replicate n (.int .u8 0) ++ byteCells t
theorem tail_start {w : World} {B : Nat} {v : Value} (h : w.ownsRow B 5 1 v 16 (madeCells #[Value.int IntKind.u8 0] 16).toList) : Hid (w.ownsRow B 5 1 v 16 (tailed 16 [])) := by
  rw [toList_madeCells_one] at h
  show w.ownsRow _ _ _ _ _ _
  unfold tailed
  rw [show byteCells ([] : List UInt8) = [] from rfl, List.append_nil]
  exact h
theorem tail_cell {w : World} {g m n : Nat} {t : List UInt8} (hm : m + 1 = n) (hn : n ≤ 16) (h : w.ownsRow g 5 1 (.slice (some ⟨g, 0, none⟩) 16 16) 16 (tailed n t)) : w.cell? ⟨g, m, none⟩ = some (.int .u8 0) := by
  rw [h.cellAt m (by omega)]
  unfold tailed
  rw [List.getElem?_append_left (by rw [List.length_replicate]; omega), List.getElem?_replicate, if_pos (by omega)]
theorem tail_set {m : Nat} {t : List UInt8} (c : UInt8) : (tailed (m + 1) t).set m (.int .u8 c.toNat) = tailed m (c :: t) := by
  unfold tailed
  rw [List.replicate_succ', List.append_assoc, List.set_append_right _ _ (by rw [List.length_replicate]; exact Nat.le_refl _), List.length_replicate, Nat.sub_self]
  rfl
theorem tail_store {w : World} {g m n : Nat} {t : List UInt8} (c : UInt8) (hm : m + 1 = n) (h : w.ownsRow g 5 1 (.slice (some ⟨g, 0, none⟩) 16 16) 16 (tailed n t)) :
    Hid ((w.setCell ⟨g, m, none⟩ (.int .u8 (c.toNat : Int))).ownsRow g 5 1 (.slice (some ⟨g, 0, none⟩) 16 16) 16 (tailed m (c :: t))) := by
  subst hm
  rw [← tail_set c]
  exact (h.stored m _).1
theorem hex_more {k h y : Nat} {t : List UInt8} (hk : k < 16) (e : hexN (16 - k) y ++ t = hexN 16 h) : hexN (16 - (k + 1)) (y / 16) ++ (dig (y % 16) :: t) = hexN 16 h := by
  rw [← e, show 16 - k = (16 - (k + 1)) + 1 by omega, hexN, List.append_assoc]
  rfl
theorem tail_back {w : World} {g h y : Nat} {t : List UInt8} (e : hexN (16 - 16) y ++ t = hexN 16 h) (ho : w.ownsRow g 5 1 (.slice (some ⟨g, 0, none⟩) 16 16) 16 (tailed (16 - 16) t)) :
    (convert 28 9 (.slice (some ⟨g, 0, none⟩) 16 16)).run Try.prog w = .ok (.string (hex h)) w := by
  rw [Nat.sub_self, hexN, List.nil_append] at e
  rw [Nat.sub_self, e] at ho
  unfold tailed at ho
  rw [List.replicate_zero, List.nil_append] at ho
  unfold hex
  exact bytes_back (base := g) ho (hexN_length 16 h)
set_option maxRecDepth 100000 in
theorem hex_any (h : Nat) (hh : h < 18446744073709551616) (w : World) :
    Calls Try.prog 25 #[.int .u64 h] w fun e w' => e = .returned (.string (hex h)) ∧ Below w.heap.size w w' := by
  obtain ⟨i0, hi, hz0, hz1, hz2⟩ := info_parts info5
  go_enter Try.func25, Try.ntmps25
  go_wp2_with (refine wpList_make_full _ rfl _ _ 28 rfl w.heap.size 5 i0 (.int .u8 0) 1 Try.underlying28 hi hz0 hz1 .i64 .i64 16 16 16 rfl rfl rfl rfl (by rw [hz2]; decide) (by unfold maxLen; decide) (Nat.le_refl _) ?_)
  intro w1 hown hgrow
  go_wp2
  go_loopw [0, 8] (fun vx vi wr => ∃ (k y : Nat) (t : List UInt8), k ≤ 16 ∧ vi = .int .i64 k ∧ vx = .int .u64 y ∧ y ≤ h ∧ Hid (wr.ownsRow w.heap.size 5 1 (.slice (some ⟨w.heap.size, 0, none⟩) 16 16) 16 (tailed (16 - k) t)) ∧
      Hid (hexN (16 - k) y ++ t = hexN 16 h) ∧ Below w.heap.size w wr) (fun _ vi _ => 16 - (intOf vi).toNat)
  case atStart => exact ⟨0, h, [], by omega, rfl, rfl, Nat.le_refl _, tail_start hown, by show _ = _; rw [List.append_nil], (Below.refl _ _).grown hgrow (Nat.le_refl _) (fun _ h => by cases h)⟩
  case round =>
    obtain ⟨k, y, t, hk, rfl, rfl, hy, HO, HS, hb⟩ := hrel
    by_cases hlt : k < 16
    · obtain ⟨m, hm⟩ : ∃ m, m + 1 = 16 - k := ⟨15 - k, by omega⟩
      have hcell := tail_cell hm (by omega) HO.out
      have hfr := HO.out.frozenAt m
      obtain ⟨d, hd, HD⟩ : ∃ d, bits .and .u64 (y : Int) 15 = ((d : Nat) : Int) ∧ Hid (d = y % 16) := ⟨y % 16, and_15 y (by omega), rfl⟩
      have hd16 : d < 16 := by rw [HD.out]; omega
      have hrun := digit_run d hd16
      have HT := Lib.hid (hex_more hlt HS.out)
      rw [← HD.out] at HT
      have HW := Lib.hid (tail_store (dig d) hm HO.out)
      obtain ⟨c, hc⟩ : ∃ c, c = dig d := ⟨_, rfl⟩
      rw [← hc] at hrun HT HW
      have hm15 : (15 : Int) - (k : Int) = (m : Int) := by omega
      have hm2 : (m : Int) < 16 := by omega
      have HM : Hid (16 - (k + 1) = m) := by show _ = _; omega
      clear hc HD hm
      go_wp2
      go_roundw
      case rel => exact ⟨k + 1, y / 16, c :: t, by omega, by go_num, by go_num, by omega, by rw [HM.out]; exact HW.out, HT, hb.setCell (Nat.le_refl _) _⟩
      case measure => simp [intOf]; omega
    · obtain rfl : k = 16 := by omega
      have hconv := tail_back HS.out HO.out
      go_wp2
      go_ret
      exact ⟨rfl, hb⟩
theorem hex_last {h y : Nat} {t : ByteArray} (e : hexN (16 - 16) y ++ t.data.toList = hexN 16 h) : t = hex h := by
  rw [Nat.sub_self, hexN, List.nil_append] at e
  exact WideShapes.bytes_inj (e.trans (hex_list h).symm)
set_option maxRecDepth 100000 in
theorem rhex_any (h : Nat) (hh : h < 18446744073709551616) (w : World) :
    Calls Try.prog 27 #[.int .u64 h] w fun e w' => e = .returned (.string (hex h)) ∧ Below w.heap.size w w' := by
  go_enter Try.func27, Try.ntmps27
  go_wp2
  go_loopw [0, 3, 4] (fun vx vt vi wr => ∃ (k y : Nat) (t : ByteArray), k ≤ 16 ∧ vi = .int .i64 k ∧ vx = .int .u64 y ∧ y ≤ h ∧ vt = .string t ∧ Hid (hexN (16 - k) y ++ t.data.toList = hexN 16 h) ∧ Below w.heap.size w wr)
    (fun _ _ vi _ => 16 - (intOf vi).toNat)
  case atStart => exact ⟨0, h, ⟨#[]⟩, by omega, rfl, rfl, Nat.le_refl _, rfl, by show _ = _; exact List.append_nil _, Below.refl _ _⟩
  case round =>
    obtain ⟨k, y, t, hk, rfl, rfl, hy, rfl, HS, hb⟩ := hrel
    have hts : t.size ≤ 16 := by
      have h2 := congrArg List.length HS.out
      rw [List.length_append, ← size_len, hexN_length, hexN_length] at h2
      omega
    have hwb := hb.size
    by_cases hlt : k < 16
    · obtain ⟨d, hd, HD⟩ : ∃ d, (y : Int) % 16 = ((d : Nat) : Int) ∧ Hid (d = y % 16) := ⟨y % 16, by omega, rfl⟩
      have hd16 : d < 16 := by rw [HD.out]; omega
      have hrun := digit_run d hd16
      have HT := Lib.hid (hex_more hlt HS.out)
      rw [← HD.out] at HT
      obtain ⟨b, hb1⟩ : ∃ b, b = dig d := ⟨_, rfl⟩
      rw [← hb1] at hrun HT
      obtain ⟨c, hc, hback⟩ := byte_back b.toNat (byte_lt b) wr
      have HC : Hid ((c ++ t).data.toList = b :: t.data.toList) := by
        show _ = _
        rw [append_list, hc, show b.toNat.toUInt8 = b from by simp]
        rfl
      have hcs : c.size ≤ 1 := by rw [size_len, hc]; exact Nat.le_refl _
      clear hc HD hb1
      go_wp2
      go_roundw
      case rel => exact ⟨k + 1, y / 16, c ++ t, by omega, by go_num, by go_num, by omega, rfl, by show _ = _; rw [HC.out]; exact HT.out, hb.alloc hb.size _⟩
      case measure => simp [intOf]; omega
    · obtain rfl : k = 16 := by omega
      have HN := Lib.hid (hex_last HS.out)
      go_wp2
      go_ret
      exact ⟨ret_string HN.out, hb⟩
end Go.Proofs.Ytmmbhmmmiagipaa
