/-
  What the reference of layer 7 returns: Keywords, Marks, has, IsKeyword, letter, digit, part, word, IsName, Printable, Quote: contracts, one a function.
-/
import Derived.Test.YtbmdadhbkdkgmaaGreatDoorLTexts
import Derived.Test.YtbmdadhbkdkgmaaGreatDoorGQ
import Derived.WalkKit
import Derived.LoopTactic
import Derived.Lib.Walk
import Derived.Lib.Strings
import Derived.Lib.Hide
import Derived.Laws.BitsAllLaws
import Derived.WalkLawsBesides
import Derived.Deep.LoopGhost
import Derived.Deep.QuietTactic
import Derived.BigQuiet
import Derived.Lib.QuietBelow
import Derived.Deep.RegionHeld3
import Derived.BigRegion
namespace Go.Proofs.YtbmdadhbkdkgmaaGreatDoor.L
open Go.RowKit

theorem ret_bool {a b : Bool} (h : a = b) : Ending.returned (.bool a) = Ending.returned (.bool b) := by rw [h]
theorem ret_int {k : IntKind} {a b : Int} (h : a = b) : Ending.returned (.int k a) = .returned (.int k b) := by rw [h]
theorem ret_string {a b : ByteArray} (h : a = b) : Ending.returned (.string a) = Ending.returned (.string b) := by rw [h]
theorem below_2 {w w1 w2 : World} (h : Below w.heap.size w w1) (h2 : Below w1.heap.size w1 w2) : Below w.heap.size w w2 := h.trans (h2.mono h.size)
theorem below_box (w : World) (o : Obj) : Below w.heap.size w (w.alloc o) := (Below.refl _ _).alloc (Nat.le_refl _) _
theorem below_drew (w : World) : Below w.heap.size w w.drew := ⟨rfl, rfl, rfl, Nat.le_refl _, fun _ _ => rfl⟩
theorem size_len (s : ByteArray) : s.size = s.data.toList.length := by simp
theorem byte_lt (c : UInt8) : c.toNat < 256 := c.toNat_lt
theorem eql_eq (a b : ByteArray) : (a.toList == b.toList) = decide (a.data.toList = b.data.toList) := by rw [Lib.toList_data, Lib.toList_data]; exact Bool.beq_eq_decide_eq _ _
theorem bytes_eq {a b : ByteArray} (h : a.data.toList = b.data.toList) : a = b := WideShapes.bytes_inj h
theorem append_list (c t : ByteArray) : (c ++ t).data.toList = c.data.toList ++ t.data.toList := by simp
theorem drop_get (s : ByteArray) (k : Nat) (h : k < s.size) : s.data.toList.drop k = s[k] :: s.data.toList.drop (k + 1) := by
  rw [List.drop_eq_getElem_cons (by simpa using h)]; rfl
theorem drop_all (s : ByteArray) : s.data.toList.drop s.size = [] := by rw [size_len]; exact List.drop_length
theorem slice_one (s : ByteArray) (k : Nat) (h : k < s.size) : ∃ d : ByteArray, d.data.toList = [s[k]] ∧ d.size = 1 ∧ ∀ W, (Instr.slice 9 (.string s) (some (.int .i64 (k : Int))) (some (.int .i64 ((k : Int) + 1))) none).run Tryz.prog W = .ok (.string d) W := by
  refine ⟨s.extract k (k + 1), ?_, ?_, fun W => ?_⟩
  · simp only [ByteArray.data_extract, Array.toList_extract, List.extract_eq_take_drop]
    rw [drop_get s k h, show k + 1 - k = 1 from by omega]
    rfl
  · rw [ByteArray.size_extract]; omega
  · have := run_slice_string (P := Tryz.prog) W 9 s .i64 .i64 (k : Int) ((k : Int) + 1) Tryz.underlying9 (by omega) (by omega) (by omega)
    rw [this]
    rfl

/-! ### lists of strings -/

/-- the block b holds the strings xs -/
def Strs (w : World) (b : Nat) (xs : List ByteArray) : Prop := ∀ j (h : j < xs.length), w.cell? ⟨b, j, none⟩ = some (.string xs[j])
def blk (xs : List ByteArray) : Obj := .cells (xs.map Value.string).toArray 9
theorem Strs.new (w : World) (xs : List ByteArray) : Strs (w.alloc (blk xs)) w.heap.size xs := by
  intro j hj
  have h1 : (w.alloc (blk xs)).heap[w.heap.size]? = some (blk xs) := by
    show (w.heap.push _)[w.heap.size]? = _
    simp
  rw [cell_of_row _ _ _ _ _ _ h1]
  simp [hj]
theorem Strs.below {w w' : World} {b B : Nat} {xs : List ByteArray} (h : Strs w b xs) (hb : Below B w w') (hB : b < B) : Strs w' b xs :=
  fun j hj => (hb.cell (by exact hB)).trans (h j hj)
theorem Strs.lt {w : World} {b : Nat} {xs : List ByteArray} (h : Strs w b xs) (hn : 0 < xs.length) : b < w.heap.size := block_lt_of_cell (h 0 hn)
def kwB : List ByteArray := keywords.map fun l => ⟨l.toArray⟩
def mkB : List ByteArray := marks.map fun l => ⟨l.toArray⟩
theorem keywords_any (w : World) : Calls Tryz.prog 84 #[] w fun e w' => e = .returned (.slice (some ⟨w.heap.size, 0, none⟩) 25 25) ∧ w' = w.alloc (blk kwB) := by
  go_enter Tryz.func84, Tryz.ntmps84
  go_wp2
  go_ret
  exact ⟨rfl, rfl⟩
def anyStr (xs : List ByteArray) (q : ByteArray) : Bool := xs.any fun x => decide (x.data.toList = q.data.toList)
theorem any_hit {xs : List ByteArray} {q : ByteArray} {k : Nat} (h : k < xs.length) (e : xs[k].data.toList = q.data.toList) : anyStr xs q = true := List.any_eq_true.2 ⟨_, List.getElem_mem h, decide_eq_true e⟩
theorem any_miss {xs : List ByteArray} {q : ByteArray} (h : ∀ j (h : j < xs.length), xs[j].data.toList ≠ q.data.toList) : anyStr xs q = false := by
  rw [anyStr, List.any_eq_false]
  intro x hx
  obtain ⟨j, hj, rfl⟩ := List.mem_iff_getElem.1 hx
  rw [decide_eq_false (h j hj)]; decide
set_option maxRecDepth 100000 in
theorem has_any (b c : Nat) (xs : List ByteArray) (q : ByteArray) (hx : xs.length ≤ 1000) (w : World) (hS : Strs w b xs) :
    Calls Tryz.prog 83 #[.slice (some ⟨b, 0, none⟩) xs.length c, .string q] w fun e w' => e = .returned (.bool (anyStr xs q)) ∧ w' = w := by
  have HS := Lib.hid hS
  clear hS
  obtain ⟨n, hn⟩ : ∃ n, xs.length = n := ⟨_, rfl⟩
  have HL := Lib.hid hn
  rw [hn] at hx ⊢
  clear hn
  go_enter Tryz.func83, Tryz.ntmps83
  go_wp2
  go_loopw [5] (fun s5 wr => ∃ k : Nat, k ≤ n ∧ s5 = .int .i64 k ∧ wr = w ∧ Hid (∀ j (h : j < xs.length), j < k → xs[j].data.toList ≠ q.data.toList)) (fun s5 _ => n - (intOf s5).toNat)
  case atStart => exact ⟨0, Nat.zero_le _, rfl, rfl, fun j _ h => absurd h (Nat.not_lt_zero _)⟩
  case round =>
    obtain ⟨k, hk, rfl, rfl, HK⟩ := hrel
    by_cases hlt : k < n
    · have hlx : k < xs.length := by rw [HL.out]; exact hlt
      have c0 := HS.out k hlx
      by_cases hok : xs[k].data.toList = q.data.toList
      · have HV := Lib.hid (any_hit hlx hok)
        have bq : (xs[k].toList == q.toList) = true := by rw [eql_eq]; exact decide_eq_true hok
        generalize xs[k] = p at c0 bq
        clear hok
        go_wp2_with fail
        go_ret
        exact ⟨ret_bool HV.out.symm, rfl⟩
      · have HN : Hid (∀ j (h : j < xs.length), j < k + 1 → xs[j].data.toList ≠ q.data.toList) := by
          intro j h hj
          by_cases e : j = k
          · subst e; exact hok
          · exact HK.out j h (by omega)
        have bq : (xs[k].toList == q.toList) = false := by rw [eql_eq]; exact decide_eq_false hok
        generalize xs[k] = p at c0 bq
        clear hok
        go_wp2_with fail
        go_roundw
        case rel => exact ⟨k + 1, by omega, by go_num, by first | rfl | trivial, HN⟩
        case measure => simp [intOf]; omega
    · obtain rfl : n = k := by omega
      have HV : Hid (anyStr xs q = false) := any_miss fun j h => HK.out j h (by rw [← HL.out]; exact h)
      go_wp2_with fail
      go_ret
      exact ⟨ret_bool HV.out.symm, rfl⟩
theorem any_of (ls : List Str) (q : ByteArray) : anyStr (ls.map fun l => ⟨l.toArray⟩) q = decide (q.data.toList ∈ ls) := by
  rw [anyStr, List.any_map]
  refine Bool.eq_iff_iff.2 ?_
  rw [List.any_eq_true, decide_eq_true_iff]
  constructor
  · rintro ⟨x, hx, e⟩
    have := of_decide_eq_true e
    rw [← this]; exact hx
  · intro h
    exact ⟨_, h, decide_eq_true rfl⟩
theorem isKw_any (q : ByteArray) (w : World) :
    Calls Tryz.prog 53 #[.string q] w fun e w' => e = .returned (.bool (isKw q.data.toList)) ∧ Below w.heap.size w w' := by
  have HK := Lib.hid keywords_any
  have HB := Lib.hid (below_box w (blk kwB))
  have HH := Lib.hid (has_any w.heap.size 25 kwB q (by decide) _ (Strs.new w kwB))
  have HE : Hid (anyStr kwB q = isKw q.data.toList) := any_of keywords q
  rw [HE.out] at HH
  rw [show kwB.length = 25 from rfl] at HH
  clear HE
  generalize isKw q.data.toList = R at HH ⊢
  generalize blk kwB = O at HK HB HH
  go_enter Tryz.func53, Tryz.ntmps53
  go_wp2_with fail
  refine (HK.out _).mono ?_; rintro e w1 ⟨rfl, rfl⟩
  go_wp2_with fail
  refine HH.out.mono ?_; rintro e w2 ⟨rfl, rfl⟩
  go_wp2_with fail
  go_ret
  exact ⟨rfl, HB.out⟩

/-! ### bytes -/

theorem letter_not {c : UInt8} (h : letter c = false) : ¬ (97 ≤ (c.toNat : Int) ∧ (c.toNat : Int) ≤ 122) := fun h2 => by
  rw [letter_iff.2 ⟨by omega, by omega⟩] at h; cases h
theorem digit_not {c : UInt8} (h : digit c = false) : ¬ (48 ≤ (c.toNat : Int) ∧ (c.toNat : Int) ≤ 57) := fun h2 => by
  rw [digit_iff.2 ⟨by omega, by omega⟩] at h; cases h
theorem letter_any (c : UInt8) (w : World) :
    Calls Tryz.prog 51 #[.int .u8 (c.toNat : Int)] w fun e w' => e = .returned (.bool (letter c)) ∧ w' = w := by
  cases hok : letter c
  · have HO := Lib.hid (letter_not hok)
    clear hok
    go_enter Tryz.func51, Tryz.ntmps51
    go_wp2
    all_goals (go_ret; exact ⟨ret_bool (by first | rfl | (refine decide_eq_false fun h => HO.out ⟨by omega, by omega⟩)), rfl⟩)
  · have HO := letter_iff.1 hok
    clear hok
    go_enter Tryz.func51, Tryz.ntmps51
    go_wp2
    all_goals (go_ret; exact ⟨ret_bool (by first | rfl | (refine decide_eq_true (by omega))), rfl⟩)
theorem digit_any (c : UInt8) (w : World) :
    Calls Tryz.prog 106 #[.int .u8 (c.toNat : Int)] w fun e w' => e = .returned (.bool (digit c)) ∧ w' = w := by
  cases hok : digit c
  · have HO := Lib.hid (digit_not hok)
    clear hok
    go_enter Tryz.func106, Tryz.ntmps106
    go_wp2
    all_goals (go_ret; exact ⟨ret_bool (by first | rfl | (refine decide_eq_false fun h => HO.out ⟨by omega, by omega⟩)), rfl⟩)
  · have HO := digit_iff.1 hok
    clear hok
    go_enter Tryz.func106, Tryz.ntmps106
    go_wp2
    all_goals (go_ret; exact ⟨ret_bool (by first | rfl | (refine decide_eq_true (by omega))), rfl⟩)
theorem part_any (c : UInt8) (w : World) :
    Calls Tryz.prog 82 #[.int .u8 (c.toNat : Int)] w fun e w' => e = .returned (.bool (part c)) ∧ w' = w := by
  have h1 := letter_any c
  have h2 := digit_any c
  have h3 : part c = (letter c || digit c || ((c.toNat : Int) == 95)) := by
    unfold part
    congr 1
    refine Bool.eq_iff_iff.2 ?_
    rw [decide_eq_true_iff, beq_iff_eq]
    omega
  have HV := Lib.hid h3
  clear h3
  cases hl : letter c
  · rw [hl] at h1 HV
    have H1 := Lib.hid h1
    cases hd : digit c
    · rw [hd] at h2 HV
      have H2 := Lib.hid h2
      clear h1 h2 hl hd
      go_enter Tryz.func82, Tryz.ntmps82
      go_wp2_with fail
      refine (H1.out _).mono ?_; rintro e w1 ⟨rfl, rfl⟩
      go_wp2_with fail
      refine (H2.out _).mono ?_; rintro e w1 ⟨rfl, rfl⟩
      go_wp2_with fail
      go_ret
      exact ⟨ret_bool (by rw [HV.out]; rfl), rfl⟩
    · rw [hd] at h2 HV
      have H2 := Lib.hid h2
      clear h1 h2 hl hd
      go_enter Tryz.func82, Tryz.ntmps82
      go_wp2_with fail
      refine (H1.out _).mono ?_; rintro e w1 ⟨rfl, rfl⟩
      go_wp2_with fail
      refine (H2.out _).mono ?_; rintro e w1 ⟨rfl, rfl⟩
      go_wp2_with fail
      go_ret
      exact ⟨ret_bool (by rw [HV.out]; rfl), rfl⟩
  · rw [hl] at h1 HV
    have H1 := Lib.hid h1
    clear h1 h2 hl
    go_enter Tryz.func82, Tryz.ntmps82
    go_wp2_with fail
    refine (H1.out _).mono ?_; rintro e w1 ⟨rfl, rfl⟩
    go_wp2_with fail
    go_ret
    exact ⟨ret_bool (by rw [HV.out]; rfl), rfl⟩

/-! ### word, IsName -/

/-- the length of the word at k -/
def wl (s : ByteArray) (k : Nat) : Nat := ((s.data.toList.drop k).takeWhile part).length
theorem wl_go {s : ByteArray} {k : Nat} (h : k < s.size) (hp : part s[k] = true) : wl s k = 1 + wl s (k + 1) := by
  unfold wl
  rw [drop_get s k h, List.takeWhile_cons, if_pos hp, List.length_cons]; omega
theorem wl_stop {s : ByteArray} {k : Nat} (h : k < s.size) (hp : part s[k] = false) : wl s k = 0 := by
  unfold wl
  rw [drop_get s k h, List.takeWhile_cons, if_neg (by rw [hp]; decide)]; rfl
theorem wl_end (s : ByteArray) : wl s s.size = 0 := by unfold wl; rw [drop_all]; rfl
theorem wl_le {s : ByteArray} {k : Nat} (h : k ≤ s.size) : k + wl s k ≤ s.size := by
  unfold wl
  have h1 := (List.takeWhile_sublist part (l := s.data.toList.drop k)).length_le
  rw [List.length_drop, ← size_len] at h1
  omega
set_option maxRecDepth 100000 in
theorem word_any (s : ByteArray) (hs : s.size ≤ 9223372036854775800) (k0 : Nat) (h0 : k0 ≤ s.size) (w : World) :
    Calls Tryz.prog 52 #[.string s, .int .i64 (k0 : Int)] w fun e w' => e = .returned (.int .i64 ((k0 + wl s k0 : Nat) : Int)) ∧ w' = w := by
  have HC := Lib.hid part_any
  go_enter Tryz.func52, Tryz.ntmps52
  go_wp2
  go_loopw [1] (fun s1 wr => ∃ k : Nat, k ≤ s.size ∧ s1 = .int .i64 k ∧ wr = w ∧ Hid (k + wl s k = k0 + wl s k0)) (fun s1 _ => s.size - (intOf s1).toNat)
  case atStart => exact ⟨k0, h0, rfl, rfl, rfl⟩
  case round =>
    obtain ⟨k, hk, rfl, rfl, HK⟩ := hrel
    by_cases hlt : k < s.size
    · have hp := HC.out s[k]
      cases hok : part s[k]
      · have HV := Lib.hid (wl_stop hlt hok)
        rw [hok] at hp
        have HP := Lib.hid hp
        clear hok hp
        go_wp2_with fail
        refine (HP.out _).mono ?_; rintro e w1 ⟨rfl, rfl⟩
        go_wp2_with fail
        go_ret
        exact ⟨ret_int (by rw [← HK.out, HV.out]; rfl), rfl⟩
      · have HN : Hid (k + 1 + wl s (k + 1) = k0 + wl s k0) := by show _ = _; rw [← HK.out, wl_go hlt hok]; omega
        rw [hok] at hp
        have HP := Lib.hid hp
        clear hok hp
        go_wp2_with fail
        refine (HP.out _).mono ?_; rintro e w1 ⟨rfl, rfl⟩
        go_wp2_with fail
        go_roundw
        case rel => exact ⟨k + 1, by omega, by go_num, by first | rfl | trivial, HN⟩
        case measure => simp [intOf]; omega
    · obtain rfl : k = s.size := by omega
      have HV := Lib.hid (wl_end s)
      go_wp2_with fail
      go_ret
      exact ⟨ret_int (by rw [← HK.out, HV.out]; rfl), rfl⟩
end Go.Proofs.YtbmdadhbkdkgmaaGreatDoor.L
