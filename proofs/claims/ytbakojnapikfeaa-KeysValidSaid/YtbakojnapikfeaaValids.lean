/-
  What Valid and isBound return, of the program and of the reference: contracts, one a function.
-/
import Derived.Test.YtbakojnapikfeaaConsists
import Derived.Laws.EntriesVeiled
namespace Go.Proofs.Ytbakojnapikfeaa
open Go.RowKit

theorem span_new (w : World) (a b : Nat) : Span ((w.alloc (.cells #[.int .u8 a] 5)).alloc (.cells #[.int .u8 b] 5)) ⟨w.heap.size, 0, none⟩ ⟨w.heap.size + 1, 0, none⟩ a b :=
  ⟨by go_simp, by go_simp⟩
theorem bound_eq (s : ByteArray) : all24 (spanOk 33 126) s = bound s.data.toList := by
  unfold all24 bound
  rw [size_len]; rfl
theorem below_alloc2 (w : World) (a b : Obj) : Below w.heap.size w ((w.alloc a).alloc b) := ((Below.refl _ _).alloc (Nat.le_refl _) _).alloc (by simp) _
set_option maxRecDepth 100000 in
theorem isBound_any (s : ByteArray) (hs : s.size ≤ 9223372036854775807) (w : World) :
    Calls Try.prog 28 #[.string s] w fun e w' => e = .returned (.bool (bound s.data.toList)) ∧ Below w.heap.size w w' := by
  have h1 : ∀ w, Calls Try.prog 31 #[.int .u8 33, .int .u8 126] w fun e w' => e = .returned (.func (Fn.func 38) #[] #[.pointer (some ⟨w.heap.size, 0, none⟩), .pointer (some ⟨w.heap.size + 1, 0, none⟩)]) ∧ w' = (w.alloc (.cells #[.int .u8 33] 5)).alloc (.cells #[.int .u8 126] 5) := between_any 33 126
  have h2 := consists_38 (spanOk 33 126) s hs (span_any (span_new w 33 126))
  have HB := Lib.hid (below_alloc2 w (.cells #[.int .u8 33] 5) (.cells #[.int .u8 126] 5))
  rw [bound_eq] at h2
  have H1 := Lib.hid h1
  have H2 := Lib.hid h2
  clear h1 h2
  go_enter Try.func28, Try.ntmps28
  go_wp2_with fail
  refine (H1.out _).mono ?_; rintro e w' ⟨rfl, rfl⟩
  go_wp2_with fail
  refine H2.out.mono ?_; rintro e w' ⟨rfl, rfl⟩
  go_wp2_with fail
  go_ret
  exact ⟨rfl, HB.out⟩

/-- the world in which Valid's closure is called -/
def keysWorld (w : World) : World :=
  (((((w.alloc (.cells #[.int .u8 97] 5)).alloc (.cells #[.int .u8 122] 5)).alloc (.cells #[.int .u8 48] 5)).alloc (.cells #[.int .u8 57] 5)).alloc
    (.cells #[.func (Fn.func 38) #[] #[.pointer (some ⟨w.heap.size, 0, none⟩), .pointer (some ⟨w.heap.size + 1, 0, none⟩)]] 42)).alloc
    (.cells #[.func (Fn.func 38) #[] #[.pointer (some ⟨w.heap.size + 1 + 1, 0, none⟩), .pointer (some ⟨w.heap.size + 1 + 1 + 1, 0, none⟩)]] 42)
theorem keys_new (w : World) : Keys (keysWorld w) ⟨w.heap.size + 1 + 1 + 1 + 1, 0, none⟩ ⟨w.heap.size + 1 + 1 + 1 + 1 + 1, 0, none⟩ ⟨w.heap.size, 0, none⟩ ⟨w.heap.size + 1, 0, none⟩ ⟨w.heap.size + 1 + 1, 0, none⟩ ⟨w.heap.size + 1 + 1 + 1, 0, none⟩ := by
  unfold keysWorld
  exact ⟨by go_simp, by go_simp, ⟨by go_simp, by go_simp⟩, ⟨by go_simp, by go_simp⟩⟩
theorem keys_below (w : World) : Below w.heap.size w (keysWorld w) := by
  unfold keysWorld
  exact ((((((Below.refl _ _).alloc (Nat.le_refl _) _).alloc (by simp) _).alloc (by simp; omega) _).alloc (by simp; omega) _).alloc (by simp; omega) _).alloc (by simp; omega) _
theorem empty_iff (s : ByteArray) : s.toList.isEmpty = decide (s.data.toList = []) := by
  rw [Lib.toList_data]
  cases s.data.toList <;> simp
theorem valid_eq (s : ByteArray) (h : s.data.toList ≠ []) : all24 okKey s = valid s.data.toList := by
  have hl : 1 ≤ s.data.toList.length := by
    cases h2 : s.data.toList with
    | nil => exact absurd h2 h
    | cons a l => simp
  unfold all24 valid
  rw [size_len, show decide (s.data.toList.length ≤ 24) = decide (1 ≤ s.data.toList.length ∧ s.data.toList.length ≤ 24) from decide_eq_decide.2 ⟨fun h => ⟨hl, h⟩, fun h => h.2⟩]
set_option maxRecDepth 100000 in
theorem valid_any (s : ByteArray) (hs : s.size ≤ 9223372036854775807) (w : World) :
    Calls Try.prog 17 #[.string s] w fun e w' => e = .returned (.bool (valid s.data.toList)) ∧ Below w.heap.size w w' := by
  have h1 : ∀ w, Calls Try.prog 31 #[.int .u8 97, .int .u8 122] w fun e w' => e = .returned (.func (Fn.func 38) #[] #[.pointer (some ⟨w.heap.size, 0, none⟩), .pointer (some ⟨w.heap.size + 1, 0, none⟩)]) ∧ w' = (w.alloc (.cells #[.int .u8 97] 5)).alloc (.cells #[.int .u8 122] 5) := between_any 97 122
  have h2 : ∀ w, Calls Try.prog 31 #[.int .u8 48, .int .u8 57] w fun e w' => e = .returned (.func (Fn.func 38) #[] #[.pointer (some ⟨w.heap.size, 0, none⟩), .pointer (some ⟨w.heap.size + 1, 0, none⟩)]) ∧ w' = (w.alloc (.cells #[.int .u8 48] 5)).alloc (.cells #[.int .u8 57] 5) := between_any 48 57
  have H1 := Lib.hid h1
  have H2 := Lib.hid h2
  have HW := Lib.hid (keys_below w)
  clear h1 h2
  by_cases hn : s.data.toList = []
  · have he : s.toList.isEmpty = true := by rw [empty_iff]; exact decide_eq_true hn
    have HV : Hid (valid s.data.toList = false) := by rw [hn]; rfl
    clear hn
    go_enter Try.func17, Try.ntmps17
    go_wp2_with fail
    refine (H1.out _).mono ?_; rintro e w' ⟨rfl, rfl⟩
    go_wp2_with fail
    refine (H2.out _).mono ?_; rintro e w' ⟨rfl, rfl⟩
    go_wp2_with fail
    go_ret
    exact ⟨ret_bool HV.out.symm, HW.out⟩
  · have he : s.toList.isEmpty = false := by rw [empty_iff]; exact decide_eq_false hn
    have h3 := consists_33 okKey s hs (keys_any (keys_new w))
    rw [valid_eq s hn] at h3
    have H3 := Lib.hid h3
    clear hn h3
    go_enter Try.func17, Try.ntmps17
    go_wp2_with fail
    refine (H1.out _).mono ?_; rintro e w' ⟨rfl, rfl⟩
    go_wp2_with fail
    refine (H2.out _).mono ?_; rintro e w' ⟨rfl, rfl⟩
    go_wp2_with fail
    refine H3.out.mono ?_; rintro e w' ⟨rfl, rfl⟩
    go_wp2_with fail
    go_ret
    exact ⟨rfl, HW.out⟩

/-! ### the reference -/

theorem all_bad {ok : UInt8 → Bool} {s : ByteArray} {k : Nat} (hk : k < s.size) (hok : ok s[k] = false) : s.data.toList.all ok = false := upto_stop hk hok
theorem all_good {ok : UInt8 → Bool} {s : ByteArray} (hu : upto ok s s.size) : s.data.toList.all ok = true := by
  unfold upto at hu
  rw [take_all] at hu
  exact hu
theorem okBound_iff (c : UInt8) : okBound c = true ↔ (33 : Int) ≤ (c.toNat : Int) ∧ (c.toNat : Int) ≤ 126 := by
  unfold okBound
  rw [decide_eq_true_iff]
  omega
theorem okKey_iff (c : UInt8) : okKey c = true ↔ ((97 : Int) ≤ (c.toNat : Int) ∧ (c.toNat : Int) ≤ 122 ∨ (48 : Int) ≤ (c.toNat : Int) ∧ (c.toNat : Int) ≤ 57 ∨ (c.toNat : Int) = 47 ∨ (c.toNat : Int) = 46 ∨ (c.toNat : Int) = 95 ∨ (c.toNat : Int) = 45) := by
  unfold okKey
  rw [decide_eq_true_iff]
  omega
set_option maxRecDepth 100000 in
theorem rbound_any (s : ByteArray) (hs : s.size ≤ 9223372036854775807) (w : World) :
    Calls Try.prog 35 #[.string s] w fun e w' => e = .returned (.bool (bound s.data.toList)) ∧ w' = w := by
  go_enter Try.func35, Try.ntmps35
  go_wp2
  go_loop [3] (fun vi => ∃ k : Nat, k ≤ s.size ∧ vi = .int .i64 k ∧ Hid (upto okBound s k)) (fun vi => s.size - (intOf vi).toNat)
  case atStart => exact ⟨0, Nat.zero_le _, rfl, rfl⟩
  case round =>
    obtain ⟨k, hk, rfl, HU⟩ := hrel
    by_cases hlt : k < s.size
    · by_cases hok : okBound s[k] = true
      · have HN := Lib.hid (upto_next HU.out hlt hok)
        obtain ⟨g1, g2⟩ := (okBound_iff _).1 hok
        clear hok
        go_wp2
        go_round
        case rel => exact ⟨k + 1, by omega, by go_num, HN⟩
        case measure => simp [intOf]; omega
      · rw [Bool.not_eq_true] at hok
        have HB : Hid (bound s.data.toList = false) := by unfold bound; rw [upto_stop hlt hok, Bool.and_false]; rfl
        have HO := Lib.hid hok
        clear hok
        go_wp2
        all_goals first
          | (go_ret; exact ⟨ret_bool HB.out.symm, rfl⟩)
          | (exfalso; have h := (okBound_iff s[k]).2 (by omega); rw [HO.out] at h; exact absurd h (by decide))
    · obtain rfl : s.size = k := by omega
      have HB : Hid (decide (s.size ≤ 24) = bound s.data.toList) := by unfold bound; rw [all_good HU.out, Bool.and_true, size_len]; rfl
      go_wp2
      go_ret
      exact ⟨ret_bool (by rw [← HB.out]; simp; omega), rfl⟩
set_option maxRecDepth 100000 in
theorem rvalid_any (s : ByteArray) (hs : s.size ≤ 9223372036854775807) (w : World) :
    Calls Try.prog 18 #[.string s] w fun e w' => e = .returned (.bool (valid s.data.toList)) ∧ w' = w := by
  go_enter Try.func18, Try.ntmps18
  go_wp2
  go_loop [3, 4] (fun vi _ => ∃ k : Nat, k ≤ s.size ∧ vi = .int .i64 k ∧ Hid (upto okKey s k)) (fun vi _ => s.size - (intOf vi).toNat)
  case atStart => exact ⟨0, Nat.zero_le _, rfl, rfl⟩
  case round =>
    obtain ⟨k, hk, rfl, HU⟩ := hrel
    by_cases hlt : k < s.size
    · by_cases hok : okKey s[k] = true
      · have HN := Lib.hid (upto_next HU.out hlt hok)
        have hor := (okKey_iff _).1 hok
        clear hok
        rcases hor with ⟨g1, g2⟩ | ⟨g1, g2⟩ | g | g | g | g
        all_goals
          go_wp2
          go_round
          case rel => exact ⟨k + 1, by omega, by go_num, HN⟩
          case measure => simp [intOf]; omega
      · rw [Bool.not_eq_true] at hok
        have HB : Hid (valid s.data.toList = false) := by unfold valid; rw [upto_stop hlt hok, Bool.and_false]; rfl
        have HO := Lib.hid hok
        clear hok
        go_wp2
        all_goals first
          | (go_ret; exact ⟨ret_bool HB.out.symm, rfl⟩)
          | (exfalso; have h := (okKey_iff s[k]).2 (by simp only [bne_eq_false_iff_eq] at *; omega); rw [HO.out] at h; exact absurd h (by decide))
    · obtain rfl : s.size = k := by omega
      have HB : Hid (decide (1 ≤ s.size ∧ s.size ≤ 24) = valid s.data.toList) := by unfold valid; rw [all_good HU.out, Bool.and_true, size_len]; rfl
      go_wp2
      all_goals (go_ret; exact ⟨ret_bool (by rw [← HB.out]; first | exact decide_eq_decide.2 (by omega) | exact (decide_eq_false (by omega)).symm), rfl⟩)
end Go.Proofs.Ytbakojnapikfeaa
