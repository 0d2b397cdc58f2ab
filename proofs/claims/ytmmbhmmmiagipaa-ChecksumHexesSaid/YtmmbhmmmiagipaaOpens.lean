/-
  What Mix, Seal and Open return, of the program and of the reference: contracts, one a function.
-/
import Derived.Test.YtmmbhmmmiagipaaLits
import Derived.Test.YtmmbhmmmiagipaaShelf
import Derived.Deep.DeepCutAuto
import Derived.Deep.QuietTactic
import Derived.BigQuiet
import Derived.Lib.QuietBelow
namespace Go.Proofs.Ytmmbhmmmiagipaa
open Go.RowKit

theorem below_2 {w w1 w2 : World} (h : Below w.heap.size w w1) (h2 : Below w1.heap.size w1 w2) : Below w.heap.size w w2 := h.trans (h2.mono h.size)
theorem mk_size (l : List UInt8) : (ByteArray.mk l.toArray).size = l.length := by rw [size_len]

/-! ### Mix -/

def mix (a b : Nat) : Nat := ext (fnv (little 8 a)) (little 8 b)
theorem mix_lt (a b : Nat) : mix a b < 18446744073709551616 := ext_lt (fnv_lt _) _
theorem lit_size (n x : Nat) (hn : n ≤ 8) : (ByteArray.mk (little n x).toArray).size ≤ 8 := by rw [mk_size, little_length]; exact hn
set_option maxRecDepth 100000 in
theorem mix_any (a b : Nat) (w : World) :
    Calls Try.prog 16 #[.int .u64 a, .int .u64 b] w fun e w' => e = .returned (.int .u64 (mix a b : Nat)) ∧ Below w.heap.size w w' := by
  have h1 := lit_any a 8 (Nat.le_refl _)
  have h2 := lit_any b 8 (Nat.le_refl _)
  have z1 := lit_size 8 a (Nat.le_refl _)
  have z2 := lit_size 8 b (Nat.le_refl _)
  have HM : Hid (mix a b = ext (fnv (ByteArray.mk (little 8 a).toArray).data.toList) (ByteArray.mk (little 8 b).toArray).data.toList) := rfl
  generalize ByteArray.mk (little 8 a).toArray = s at h1 z1 HM
  generalize ByteArray.mk (little 8 b).toArray = t at h2 z2 HM
  have g1 := fnv_any s (by omega)
  have hf := fnv_lt s.data.toList
  generalize fnv s.data.toList = f at g1 hf HM
  have g2 := ext_any f hf t (by omega)
  generalize ext f t.data.toList = m at g2 HM
  have H1 := Lib.hid h1
  have H2 := Lib.hid h2
  have G1 := Lib.hid g1
  have G2 := Lib.hid g2
  clear h1 h2 g1 g2 hf
  go_enter Try.func16, Try.ntmps16
  go_wp2_with fail
  refine (H1.out _).mono ?_; rintro e w1 ⟨rfl, hb1⟩
  go_wp2_with fail
  refine (G1.out _).mono ?_; rintro e w' ⟨rfl, rfl⟩
  go_wp2_with fail
  refine (H2.out _).mono ?_; rintro e w2 ⟨rfl, hb2⟩
  go_wp2_with (go_at_call 14; refine (G2.out _).mono ?_; rintro e w' ⟨rfl, rfl⟩)
  go_ret
  exact ⟨ret_int (by rw [HM.out]), below_2 hb1 hb2⟩
set_option maxRecDepth 100000 in
theorem rmix_any (a b : Nat) (ha : a < 18446744073709551616) (hb : b < 18446744073709551616) (w : World) :
    Calls Try.prog 17 #[.int .u64 a, .int .u64 b] w fun e w' => e = .returned (.int .u64 (mix a b : Nat)) ∧ Below w.heap.size w w' := by
  have h1 := rlit_any a 8 ha (Nat.le_refl _)
  have h2 := rlit_any b 8 hb (Nat.le_refl _)
  have z1 := lit_size 8 a (Nat.le_refl _)
  have z2 := lit_size 8 b (Nat.le_refl _)
  have HM : Hid (mix a b = ext (fnv (ByteArray.mk (little 8 a).toArray).data.toList) (ByteArray.mk (little 8 b).toArray).data.toList) := rfl
  generalize ByteArray.mk (little 8 a).toArray = s at h1 z1 HM
  generalize ByteArray.mk (little 8 b).toArray = t at h2 z2 HM
  have g1 := rext_basis s (by omega)
  have hf := fnv_lt s.data.toList
  generalize fnv s.data.toList = f at g1 hf HM
  have g2 := rext_any f hf t (by omega)
  generalize ext f t.data.toList = m at g2 HM
  have H1 := Lib.hid h1
  have H2 := Lib.hid h2
  have G1 := Lib.hid g1
  have G2 := Lib.hid g2
  clear h1 h2 g1 g2 hf
  go_enter Try.func17, Try.ntmps17
  go_wp2_with fail
  refine (H1.out _).mono ?_; rintro e w1 ⟨rfl, hb1⟩
  go_wp2_with fail
  refine (G1.out _).mono ?_; rintro e w' ⟨rfl, rfl⟩
  go_wp2_with fail
  refine (H2.out _).mono ?_; rintro e w2 ⟨rfl, hb2⟩
  go_wp2_with (go_at_call 15; refine (G2.out _).mono ?_; rintro e w' ⟨rfl, rfl⟩)
  go_ret
  exact ⟨ret_int (by rw [HM.out]), below_2 hb1 hb2⟩

/-! ### Seal -/

/-- the bytes of the checksum -/
def trail (l : List UInt8) : List UInt8 := little 4 (crc l)
theorem trail_length (l : List UInt8) : (trail l).length = 4 := little_length _ _
def sealed (s : ByteArray) : ByteArray := ⟨(s.data.toList ++ trail s.data.toList).toArray⟩
theorem sealed_list (s : ByteArray) : (sealed s).data.toList = s.data.toList ++ trail s.data.toList := rfl
theorem sealed_size (s : ByteArray) : (sealed s).size = s.size + 4 := by rw [size_len, sealed_list, List.length_append, trail_length, ← size_len]
theorem sealed_eq (s : ByteArray) : s ++ ⟨(trail s.data.toList).toArray⟩ = sealed s := by
  refine WideShapes.bytes_inj ?_
  rw [append_list, sealed_list]
theorem wide {x : Nat} (h : x < 4294967296) : IntKind.u64.wrap (x : Int) = (x : Int) := IntWalk.u64_in _ (by omega)
set_option maxRecDepth 100000 in
theorem trail_any (s : ByteArray) (hs : s.size ≤ 9223372036854775807) (w : World) :
    Calls Try.prog 28 #[.string s] w fun e w' => e = .returned (.string ⟨(trail s.data.toList).toArray⟩) ∧ Below w.heap.size w w' := by
  have g1 := crc_any s hs
  have hc := crc_lt s.data.toList
  unfold trail
  generalize crc s.data.toList = c at g1 hc
  have hw := wide hc
  have h1 := lit_any c 4 (by omega)
  generalize ByteArray.mk (little 4 c).toArray = t at h1
  have H1 := Lib.hid h1
  have G1 := Lib.hid g1
  clear h1 g1
  go_enter Try.func28, Try.ntmps28
  go_wp2_with (first
    | (go_at_call 19; refine (G1.out _).mono ?_; rintro e w' ⟨rfl, rfl⟩)
    | (go_at_call 30; refine (H1.out _).mono ?_; rintro e w1 ⟨rfl, hb1⟩))
  go_ret
  exact ⟨rfl, hb1⟩
set_option maxRecDepth 100000 in
theorem seal_any (s : ByteArray) (hs : s.size ≤ 200000000000000) (w : World) :
    Calls Try.prog 9 #[.string s] w fun e w' => e = .returned (.string (sealed s)) ∧ Below w.heap.size w w' := by
  have h1 := trail_any s (by omega)
  have HT := Lib.hid (sealed_eq s)
  have hz := mk_size (trail s.data.toList)
  rw [trail_length] at hz
  have hz4 := Nat.le_of_eq hz
  clear hz
  generalize ByteArray.mk (trail s.data.toList).toArray = t at h1 HT hz4
  have H1 := Lib.hid h1
  clear h1
  go_enter Try.func9, Try.ntmps9
  go_wp2_with (go_at_call 28; refine (H1.out _).mono ?_; rintro e w1 ⟨rfl, hb1⟩)
  go_ret
  exact ⟨ret_string HT.out, hb1⟩
set_option maxRecDepth 100000 in
theorem rseal_any (s : ByteArray) (hs : s.size ≤ 200000000000000) (w : World) :
    Calls Try.prog 23 #[.string s] w fun e w' => e = .returned (.string (sealed s)) ∧ Below w.heap.size w w' := by
  have HT := Lib.hid (sealed_eq s)
  have hz := mk_size (trail s.data.toList)
  rw [trail_length] at hz
  have hz4 := Nat.le_of_eq hz
  clear hz
  have g1 := rcrc_any s (by omega)
  have hc := crc_lt s.data.toList
  unfold trail at HT hz4
  generalize crc s.data.toList = c at g1 hc HT hz4
  have hw := wide hc
  have h1 := rlit_any c 4 (by omega) (by omega)
  generalize ByteArray.mk (little 4 c).toArray = t at h1 HT hz4
  have H1 := Lib.hid h1
  have G1 := Lib.hid g1
  clear h1 g1
  go_enter Try.func23, Try.ntmps23
  go_wp2_with (first
    | (go_at_call 20; refine (G1.out _).mono ?_; rintro e w' ⟨rfl, rfl⟩)
    | (go_at_call 31; refine (H1.out _).mono ?_; rintro e w1 ⟨rfl, hb1⟩))
  go_ret
  exact ⟨ret_string HT.out, hb1⟩
end Go.Proofs.Ytmmbhmmmiagipaa
