/-
  A number's bytes as a string, the least significant one first: of the program and of the reference.
-/
import Derived.Test.YtmmbhmmmiagipaaCrcs
import Derived.OwnWalk
import Derived.Laws.OwnMore
import Derived.Lib.VarintMem
import Derived.Laws.IdiomStrings
namespace Go.Proofs.Ytmmbhmmmiagipaa
open Go.RowKit
open Go.Lib (byteCells)

theorem info5 : (Try.prog.info? 5).map (fun i => (i.zero, i.size, i.bytes)) = some (some (.int .u8 0), 1, 1) := by kernel_rfl

/-- The cells when the first k bytes of l are laid. -/
def part (l : List UInt8) (k : Nat) : List Value := byteCells (l.take k) ++ List.replicate (l.length - k) (.int .u8 0)
theorem part_start {w : World} {B n x : Nat} {v : Value} (h : w.ownsRow B 5 1 v n (madeCells #[Value.int IntKind.u8 0] n).toList) : Hid (w.ownsRow B 5 1 v n (part (little n x) 0)) := by
  rw [toList_madeCells_one] at h
  show w.ownsRow _ _ _ _ _ _
  unfold part
  rw [little_length, List.take_zero, Nat.sub_zero]
  exact h
theorem part_get {l : List UInt8} {k : Nat} (h : k < l.length) : (part l k)[k]? = some (.int .u8 0) := by
  unfold part
  rw [List.getElem?_append_right (by rw [Lib.byteCells_length, List.length_take]; omega), Lib.byteCells_length, List.length_take]
  rw [show k - min k l.length = 0 by omega, List.getElem?_replicate, if_pos (by omega)]
theorem part_cell {w : World} {g n k x : Nat} (hk : k < n) (h : w.ownsRow g 5 1 (.slice (some ⟨g, 0, none⟩) n n) n (part (little n x) k)) : w.cell? ⟨g, k, none⟩ = some (.int .u8 0) := by
  rw [h.cellAt k (by omega)]
  exact part_get (by rw [little_length]; exact hk)
theorem part_all (l : List UInt8) : part l l.length = byteCells l := by
  unfold part
  rw [List.take_length, Nat.sub_self, List.replicate_zero, List.append_nil]
theorem part_set {l : List UInt8} {k : Nat} (h : k < l.length) : (part l k).set k (.int .u8 l[k].toNat) = part l (k + 1) := by
  unfold part
  rw [List.set_append_right _ _ (by rw [Lib.byteCells_length, List.length_take]; omega), Lib.byteCells_length, List.length_take]
  rw [show k - min k l.length = 0 by omega, show l.length - k = (l.length - (k + 1)) + 1 by omega, List.replicate_succ, List.set_cons_zero]
  rw [List.take_succ_eq_append_getElem h, Lib.byteCells_append, List.append_assoc]
  rfl
/-- What a row of bytes reads as, as a text. -/
theorem bytes_back {w : World} {base g n cap : Nat} {l : List UInt8} (hown : w.ownsRow base 5 1 (.slice (some ⟨g, 0, none⟩) n cap) n (byteCells l)) (hl : l.length = n) :
    (convert 28 9 (.slice (some ⟨g, 0, none⟩) n cap)).run Try.prog w = .ok (.string ⟨l.toArray⟩) w := by
  subst hl
  refine run_convert_bytes_back (P := Try.prog) _ 28 9 5 _ _ l Try.underlying28 Try.underlying5 Try.underlying9 ?_
  intro j hj
  refine hown.cells (g := g) rfl j _ ?_
  simp [byteCells, hj]
theorem part_back {w : World} {g n x : Nat} (h : w.ownsRow g 5 1 (.slice (some ⟨g, 0, none⟩) n n) n (part (little n x) n)) :
    (convert 28 9 (.slice (some ⟨g, 0, none⟩) n n)).run Try.prog w = .ok (.string ⟨(little n x).toArray⟩) w := by
  refine bytes_back (base := g) ?_ (little_length n x)
  rw [← part_all, little_length]
  exact h
theorem byte_at {n x k : Nat} (h : k < (little n x).length) : ((little n x)[k].toNat : Int) = (x : Int) / 2 ^ (8 * k) % 256 := by
  rw [little_get, show 256 ^ k = 2 ^ (8 * k) from by rw [Nat.pow_mul]]
  simp
theorem part_store {w : World} {g n k x : Nat} (hk : k < n) (h : w.ownsRow g 5 1 (.slice (some ⟨g, 0, none⟩) n n) n (part (little n x) k)) :
    Hid ((w.setCell ⟨g, k, none⟩ (.int .u8 ((x : Int) / 2 ^ (8 * k) % 256))).ownsRow g 5 1 (.slice (some ⟨g, 0, none⟩) n n) n (part (little n x) (k + 1))) := by
  have hl : k < (little n x).length := by rw [little_length]; exact hk
  rw [← byte_at hl, ← part_set hl]
  exact (h.stored k _).1
set_option maxRecDepth 100000 in
theorem lit_any (x n : Nat) (hn : n ≤ 8) (w : World) :
    Calls Try.prog 30 #[.int .u64 x, .int .i64 n] w fun e w' => e = .returned (.string ⟨(little n x).toArray⟩) ∧ Below w.heap.size w w' := by
  obtain ⟨i0, hi, hz0, hz1, hz2⟩ := info_parts info5
  go_enter Try.func30, Try.ntmps30
  go_wp2_with (refine wpList_make_full _ rfl (.tmp 7) (.tmp 7) 28 rfl w.heap.size 5 i0 (.int .u8 0) 1 Try.underlying28 hi hz0 hz1 .i64 .i64 n n n rfl rfl rfl rfl (by rw [hz2]; omega) (by unfold maxLen; omega) (Nat.le_refl _) ?_)
  intro w1 hown hgrow
  go_wp2
  go_loopw [11] (fun vi wr => ∃ k : Nat, k ≤ n ∧ vi = .int .i64 k ∧ Hid (wr.ownsRow w.heap.size 5 1 (.slice (some ⟨w.heap.size, 0, none⟩) n n) n (part (little n x) k)) ∧ Below w.heap.size w wr) (fun vi _ => n - (intOf vi).toNat)
  case atStart => exact ⟨0, Nat.zero_le _, rfl, part_start hown, (Below.refl _ _).grown hgrow (Nat.le_refl _) (fun _ h => by cases h)⟩
  case round =>
    obtain ⟨k, hk, rfl, HO, hb⟩ := hrel
    by_cases hlt : k < n
    · have hcell := part_cell hlt HO.out
      have hfr := HO.out.frozenAt k
      go_wp2
      go_roundw
      case rel => exact ⟨k + 1, by omega, by go_num, part_store hlt HO.out, hb.setCell (Nat.le_refl _) _⟩
      case measure => simp [intOf]; omega
    · obtain rfl : n = k := by omega
      have hconv := part_back HO.out
      go_wp2
      go_ret
      exact ⟨rfl, hb⟩

/-! ### the reference's bytes -/

theorem byte_back (z : Nat) (hz : z < 256) (wr : World) : ∃ c : ByteArray, c.data.toList = [z.toUInt8] ∧
    (convert 28 9 (.slice (some ⟨wr.heap.size, 0, none⟩) 1 1)).run Try.prog (wr.alloc (.cells #[.int .u8 (z : Int)] 5)) = .ok (.string c) (wr.alloc (.cells #[.int .u8 (z : Int)] 5)) := by
  refine ⟨⟨#[z.toUInt8]⟩, rfl, run_convert_bytes_back (P := Try.prog) _ 28 9 5 _ 1 [z.toUInt8] Try.underlying28 Try.underlying5 Try.underlying9 ?_⟩
  intro j hj
  have hj0 : j = 0 := by simpa using hj
  subst hj0
  rw [show ([z.toUInt8][0]'hj).toNat = z from small_byte hz]
  rw [show (Addr.add ⟨wr.heap.size, 0, none⟩ 0) = ⟨wr.heap.size, 0, none⟩ from rfl, World.cell?_alloc_at _ _ _ _ (by simp)]
  simp
theorem append_list (c t : ByteArray) : (c ++ t).data.toList = c.data.toList ++ t.data.toList := by simp
theorem lit_more {n k x y : Nat} {t c : ByteArray} (hk : k < n) (hc : c.data.toList = [(y % 256).toUInt8]) (h : t.data.toList ++ little (n - k) y = little n x) :
    (t ++ c).data.toList ++ little (n - (k + 1)) (y / 256) = little n x := by
  rw [← h, append_list, hc, show n - k = (n - (k + 1)) + 1 by omega, little]
  simp
theorem lit_last {n x y : Nat} {t : ByteArray} (h : t.data.toList ++ little (n - n) y = little n x) : t = ⟨(little n x).toArray⟩ := by
  rw [Nat.sub_self, little, List.append_nil] at h
  exact WideShapes.bytes_inj h
set_option maxRecDepth 100000 in
theorem rlit_any (x n : Nat) (hx : x < 18446744073709551616) (hn : n ≤ 8) (w : World) :
    Calls Try.prog 31 #[.int .u64 x, .int .i64 n] w fun e w' => e = .returned (.string ⟨(little n x).toArray⟩) ∧ Below w.heap.size w w' := by
  go_enter Try.func31, Try.ntmps31
  go_wp2
  go_loopw [0, 5, 6] (fun vx vt vi wr => ∃ (k y : Nat) (t : ByteArray), k ≤ n ∧ vi = .int .i64 k ∧ vx = .int .u64 y ∧ y ≤ x ∧ vt = .string t ∧ Hid (t.data.toList ++ little (n - k) y = little n x) ∧ Below w.heap.size w wr)
    (fun _ _ vi _ => n - (intOf vi).toNat)
  case atStart => exact ⟨0, x, ⟨#[]⟩, Nat.zero_le _, rfl, rfl, Nat.le_refl _, rfl, rfl, Below.refl _ _⟩
  case round =>
    obtain ⟨k, y, t, hk, rfl, rfl, hy, rfl, HS, hb⟩ := hrel
    have hts : t.size ≤ 8 := by
      have h2 := congrArg List.length HS.out
      rw [List.length_append, ← size_len, little_length, little_length] at h2
      omega
    have hwb := hb.size
    by_cases hlt : k < n
    · obtain ⟨c, hc, hback⟩ := byte_back (y % 256) (by omega) wr
      rw [show ((y % 256 : Nat) : Int) = (y : Int) % 256 by omega] at hback
      have HN := Lib.hid (lit_more hlt hc HS.out)
      have hcs : c.size ≤ 1 := by rw [size_len, hc]; exact Nat.le_refl _
      clear hc
      go_wp2
      go_roundw
      case rel => exact ⟨k + 1, y / 256, t ++ c, by omega, by go_num, by go_num, by omega, rfl, HN, hb.alloc hb.size _⟩
      case measure => simp [intOf]; omega
    · obtain rfl : n = k := by omega
      have HN := Lib.hid (lit_last HS.out)
      go_wp2
      go_ret
      exact ⟨ret_string HN.out, hb⟩
end Go.Proofs.Ytmmbhmmmiagipaa
