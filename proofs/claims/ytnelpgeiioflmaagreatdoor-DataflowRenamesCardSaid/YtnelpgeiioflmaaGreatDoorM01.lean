/-
  What the functions on texts return, of the program and of the reference: contracts, one a function.
  What Format returns, of the program and of the reference: the decimal numeral, for every 64-bit integer.
  What the reference of layer 7 returns: Keywords, Marks, has, IsKeyword, letter, digit, part, word, IsName, Printable, Quote: contracts, one a function.
  What the reference of layer 7 returns: IsName, Printable, Quote, skip, feeds: contracts, one a function.
  What the program's own small functions of layer 7 return: isLetter, isDigit, isPlain, isSpecial, IsKeyword, isMark.
  What the program's own functions of layer 7 return: leadingWord, IsName; what it calls of the library: copies, prefixes, leading bytes cut off, the part ahead of a byte, bytes counted.
  What the library's functions return that layer 7 calls: copies, leading bytes cut off, the part ahead of a line feed, line feeds counted; gapSize.
-/
import Derived.Test.YtnelpgeiioflmaaGreatDoorRows
import Derived.Test.YtnelpgeiioflmaaGreatDoorSPlain
import Derived.WalkKit
import Derived.WalkLawsBesides
import Derived.WalkSpells
import Derived.Lib.Hide
import Derived.Test.YtnelpgeiioflmaaGreatDoorSShelf
import Derived.LoopTactic
import Derived.Lib.Strings
import Derived.Lib.IndexBytes
import Derived.Deep.LoopGhost
import Derived.Below
import Derived.Sort.Grow
import Derived.Laws.IdiomStrings
import Derived.Lib.SmallJoins
import Derived.Test.YtnelpgeiioflmaaGreatDoorSLFacts
import Derived.Lib.ItoaLen
import Derived.Lib.Walk
import Derived.Laws.BitsAllLaws
import Derived.Deep.QuietTactic
import Derived.BigQuiet
import Derived.Lib.QuietBelow
import Derived.Deep.RegionHeld3
import Derived.BigRegion
import Derived.Laws.RangeAny
import Derived.Lib.IndexLaws
namespace Go.Proofs.YtnelpgeiioflmaaGreatDoor
open Go.RowKit

theorem ret_bool {a b : Bool} (h : a = b) : Ending.returned (.bool a) = Ending.returned (.bool b) := by rw [h]
theorem size_len (s : ByteArray) : s.size = s.data.toList.length := by simp
end Go.Proofs.YtnelpgeiioflmaaGreatDoor
namespace Go.Proofs.YtnelpgeiioflmaaGreatDoor
open Go.RowKit

theorem bytes_eq {a b : ByteArray} (h : a.data.toList = b.data.toList) : a = b := WideShapes.bytes_inj h
end Go.Proofs.YtnelpgeiioflmaaGreatDoor
namespace Go.Proofs.YtnelpgeiioflmaaGreatDoor.L
open Go.RowKit

theorem ret_bool {a b : Bool} (h : a = b) : Ending.returned (.bool a) = Ending.returned (.bool b) := by rw [h]
theorem ret_int {k : IntKind} {a b : Int} (h : a = b) : Ending.returned (.int k a) = .returned (.int k b) := by rw [h]
theorem ret_string {a b : ByteArray} (h : a = b) : Ending.returned (.string a) = Ending.returned (.string b) := by rw [h]
theorem below_2 {w w1 w2 : World} (h : Below w.heap.size w w1) (h2 : Below w1.heap.size w1 w2) : Below w.heap.size w w2 := h.trans (h2.mono h.size)
theorem below_box (w : World) (o : Obj) : Below w.heap.size w (w.alloc o) := (Below.refl _ _).alloc (Nat.le_refl _) _
theorem below_drew (w : World) : Below w.heap.size w w.drew := ⟨rfl, rfl, rfl, Nat.le_refl _, fun _ _ => rfl⟩
theorem size_len (s : ByteArray) : s.size = s.data.toList.length := by simp
theorem byte_lt (c : UInt8) : c.toNat < 256 := c.toNat_lt
theorem eql_eq (a b : ByteArray) : (a.toList == b.toList) = decide (a.data.toList = b.data.toList) := by rw [Lib.toList_data, Lib.toList_data]; exact Bool.beq_eq_decide_eq _ _
theorem bytes_eq {a b : ByteArray} (h : a.data.toList = b.data.toList) : a = b := WideShapes.bytes_inj h
theorem drop_get (s : ByteArray) (k : Nat) (h : k < s.size) : s.data.toList.drop k = s[k] :: s.data.toList.drop (k + 1) := by
  rw [List.drop_eq_getElem_cons (by simpa using h)]; rfl
theorem drop_all (s : ByteArray) : s.data.toList.drop s.size = [] := by rw [size_len]; exact List.drop_length
/-! ### lists of strings -/

def Strs (w : World) (b : Nat) (xs : List ByteArray) : Prop := ∀ j (h : j < xs.length), w.cell? ⟨b, j, none⟩ = some (.string xs[j])
def blk (xs : List ByteArray) : Obj := .cells (xs.map Value.string).toArray 9
theorem Strs.new (w : World) (xs : List ByteArray) : Strs (w.alloc (blk xs)) w.heap.size xs := by
  intro j hj
  have h1 : (w.alloc (blk xs)).heap[w.heap.size]? = some (blk xs) := by
    show (w.heap.push _)[w.heap.size]? = _
    simp
  rw [cell_of_row _ _ _ _ _ _ h1]
  simp [hj]
def kwB : List ByteArray := keywords.map fun l => ⟨l.toArray⟩
theorem keywords_any (w : World) : Calls Tryz.prog 93 #[] w fun e w' => e = .returned (.slice (some ⟨w.heap.size, 0, none⟩) 25 25) ∧ w' = w.alloc (blk kwB) := by
  go_enter Tryz.func93, Tryz.ntmps93
  go_wp2
  go_ret
  exact ⟨rfl, rfl⟩
def anyStr (xs : List ByteArray) (q : ByteArray) : Bool := xs.any fun x => decide (x.data.toList = q.data.toList)
theorem any_hit {xs : List ByteArray} {q : ByteArray} {k : Nat} (h : k < xs.length) (e : xs[k].data.toList = q.data.toList) : anyStr xs q = true := List.any_eq_true.2 ⟨_, List.getElem_mem h, decide_eq_true e⟩
theorem any_miss {xs : List ByteArray} {q : ByteArray} (h : ∀ j (h : j < xs.length), xs[j].data.toList ≠ q.data.toList) : anyStr xs q = false := by
  rw [anyStr, List.any_eq_false]
  intro x hx
  obtain ⟨j, hj, rfl⟩ := List.mem_iff_getElem.1 hx
  rw [decide_eq_false (h j hj)]; decide
set_option maxRecDepth 100000 in
theorem has_any (b c : Nat) (xs : List ByteArray) (q : ByteArray) (hx : xs.length ≤ 1000) (w : World) (hS : Strs w b xs) :
    Calls Tryz.prog 92 #[.slice (some ⟨b, 0, none⟩) xs.length c, .string q] w fun e w' => e = .returned (.bool (anyStr xs q)) ∧ w' = w := by
  have HS := Lib.hid hS
  clear hS
  obtain ⟨n, hn⟩ : ∃ n, xs.length = n := ⟨_, rfl⟩
  have HL := Lib.hid hn
  rw [hn] at hx ⊢
  clear hn
  go_enter Tryz.func92, Tryz.ntmps92
  go_wp2
  go_loopw [5] (fun s5 wr => ∃ k : Nat, k ≤ n ∧ s5 = .int .i64 k ∧ wr = w ∧ Hid (∀ j (h : j < xs.length), j < k → xs[j].data.toList ≠ q.data.toList)) (fun s5 _ => n - (intOf s5).toNat)
  case atStart => exact ⟨0, Nat.zero_le _, rfl, rfl, fun j _ h => absurd h (Nat.not_lt_zero _)⟩
  case round =>
    obtain ⟨k, hk, rfl, rfl, HK⟩ := hrel
    by_cases hlt : k < n
    · have hlx : k < xs.length := by rw [HL.out]; exact hlt
      have c0 := HS.out k hlx
      by_cases hok : xs[k].data.toList = q.data.toList
      · have HV := Lib.hid (any_hit hlx hok)
        have bq : (xs[k].toList == q.toList) = true := by rw [eql_eq]; exact decide_eq_true hok
        generalize xs[k] = p at c0 bq
        clear hok
        go_wp2_with fail
        go_ret
        exact ⟨ret_bool HV.out.symm, rfl⟩
      · have HN : Hid (∀ j (h : j < xs.length), j < k + 1 → xs[j].data.toList ≠ q.data.toList) := by
          intro j h hj
          by_cases e : j = k
          · subst e; exact hok
          · exact HK.out j h (by omega)
        have bq : (xs[k].toList == q.toList) = false := by rw [eql_eq]; exact decide_eq_false hok
        generalize xs[k] = p at c0 bq
        clear hok
        go_wp2_with fail
        go_roundw
        case rel => exact ⟨k + 1, by omega, by go_num, by first | rfl | trivial, HN⟩
        case measure => simp [intOf]; omega
    · obtain rfl : n = k := by omega
      have HV : Hid (anyStr xs q = false) := any_miss fun j h => HK.out j h (by rw [← HL.out]; exact h)
      go_wp2_with fail
      go_ret
      exact ⟨ret_bool HV.out.symm, rfl⟩
theorem any_of (ls : List Str) (q : ByteArray) : anyStr (ls.map fun l => ⟨l.toArray⟩) q = decide (q.data.toList ∈ ls) := by
  rw [anyStr, List.any_map]
  refine Bool.eq_iff_iff.2 ?_
  rw [List.any_eq_true, decide_eq_true_iff]
  constructor
  · rintro ⟨x, hx, e⟩
    have := of_decide_eq_true e
    rw [← this]; exact hx
  · intro h
    exact ⟨_, h, decide_eq_true rfl⟩
theorem isKw_any (q : ByteArray) (w : World) :
    Calls Tryz.prog 72 #[.string q] w fun e w' => e = .returned (.bool (isKw q.data.toList)) ∧ Below w.heap.size w w' := by
  have HK := Lib.hid keywords_any
  have HB := Lib.hid (below_box w (blk kwB))
  have HH := Lib.hid (has_any w.heap.size 25 kwB q (by decide) _ (Strs.new w kwB))
  have HE : Hid (anyStr kwB q = isKw q.data.toList) := any_of keywords q
  rw [HE.out] at HH
  rw [show kwB.length = 25 from rfl] at HH
  clear HE
  generalize isKw q.data.toList = R at HH ⊢
  generalize blk kwB = O at HK HB HH
  go_enter Tryz.func72, Tryz.ntmps72
  go_wp2_with fail
  refine (HK.out _).mono ?_; rintro e w1 ⟨rfl, rfl⟩
  go_wp2_with fail
  refine HH.out.mono ?_; rintro e w2 ⟨rfl, rfl⟩
  go_wp2_with fail
  go_ret
  exact ⟨rfl, HB.out⟩

/-! ### bytes -/

theorem letter_not {c : UInt8} (h : letter c = false) : ¬ (97 ≤ (c.toNat : Int) ∧ (c.toNat : Int) ≤ 122) := fun h2 => by
  rw [letter_iff.2 ⟨by omega, by omega⟩] at h; cases h
theorem digit_not {c : UInt8} (h : digit c = false) : ¬ (48 ≤ (c.toNat : Int) ∧ (c.toNat : Int) ≤ 57) := fun h2 => by
  rw [digit_iff.2 ⟨by omega, by omega⟩] at h; cases h
theorem letter_any (c : UInt8) (w : World) :
    Calls Tryz.prog 70 #[.int .u8 (c.toNat : Int)] w fun e w' => e = .returned (.bool (letter c)) ∧ w' = w := by
  cases hok : letter c
  · have HO := Lib.hid (letter_not hok)
    clear hok
    go_enter Tryz.func70, Tryz.ntmps70
    go_wp2
    all_goals (go_ret; exact ⟨ret_bool (by first | rfl | (refine decide_eq_false fun h => HO.out ⟨by omega, by omega⟩)), rfl⟩)
  · have HO := letter_iff.1 hok
    clear hok
    go_enter Tryz.func70, Tryz.ntmps70
    go_wp2
    all_goals (go_ret; exact ⟨ret_bool (by first | rfl | (refine decide_eq_true (by omega))), rfl⟩)
theorem digit_any (c : UInt8) (w : World) :
    Calls Tryz.prog 105 #[.int .u8 (c.toNat : Int)] w fun e w' => e = .returned (.bool (digit c)) ∧ w' = w := by
  cases hok : digit c
  · have HO := Lib.hid (digit_not hok)
    clear hok
    go_enter Tryz.func105, Tryz.ntmps105
    go_wp2
    all_goals (go_ret; exact ⟨ret_bool (by first | rfl | (refine decide_eq_false fun h => HO.out ⟨by omega, by omega⟩)), rfl⟩)
  · have HO := digit_iff.1 hok
    clear hok
    go_enter Tryz.func105, Tryz.ntmps105
    go_wp2
    all_goals (go_ret; exact ⟨ret_bool (by first | rfl | (refine decide_eq_true (by omega))), rfl⟩)
theorem part_any (c : UInt8) (w : World) :
    Calls Tryz.prog 91 #[.int .u8 (c.toNat : Int)] w fun e w' => e = .returned (.bool (part c)) ∧ w' = w := by
  have h1 := letter_any c
  have h2 := digit_any c
  have h3 : part c = (letter c || digit c || ((c.toNat : Int) == 95)) := by
    unfold part
    congr 1
    refine Bool.eq_iff_iff.2 ?_
    rw [decide_eq_true_iff, beq_iff_eq]
    omega
  have HV := Lib.hid h3
  clear h3
  cases hl : letter c
  · rw [hl] at h1 HV
    have H1 := Lib.hid h1
    cases hd : digit c
    · rw [hd] at h2 HV
      have H2 := Lib.hid h2
      clear h1 h2 hl hd
      go_enter Tryz.func91, Tryz.ntmps91
      go_wp2_with fail
      refine (H1.out _).mono ?_; rintro e w1 ⟨rfl, rfl⟩
      go_wp2_with fail
      refine (H2.out _).mono ?_; rintro e w1 ⟨rfl, rfl⟩
      go_wp2_with fail
      go_ret
      exact ⟨ret_bool (by rw [HV.out]; rfl), rfl⟩
    · rw [hd] at h2 HV
      have H2 := Lib.hid h2
      clear h1 h2 hl hd
      go_enter Tryz.func91, Tryz.ntmps91
      go_wp2_with fail
      refine (H1.out _).mono ?_; rintro e w1 ⟨rfl, rfl⟩
      go_wp2_with fail
      refine (H2.out _).mono ?_; rintro e w1 ⟨rfl, rfl⟩
      go_wp2_with fail
      go_ret
      exact ⟨ret_bool (by rw [HV.out]; rfl), rfl⟩
  · rw [hl] at h1 HV
    have H1 := Lib.hid h1
    clear h1 h2 hl
    go_enter Tryz.func91, Tryz.ntmps91
    go_wp2_with fail
    refine (H1.out _).mono ?_; rintro e w1 ⟨rfl, rfl⟩
    go_wp2_with fail
    go_ret
    exact ⟨ret_bool (by rw [HV.out]; rfl), rfl⟩

/-! ### word, IsName -/

def wl (s : ByteArray) (k : Nat) : Nat := ((s.data.toList.drop k).takeWhile part).length
theorem wl_go {s : ByteArray} {k : Nat} (h : k < s.size) (hp : part s[k] = true) : wl s k = 1 + wl s (k + 1) := by
  unfold wl
  rw [drop_get s k h, List.takeWhile_cons, if_pos hp, List.length_cons]; omega
theorem wl_stop {s : ByteArray} {k : Nat} (h : k < s.size) (hp : part s[k] = false) : wl s k = 0 := by
  unfold wl
  rw [drop_get s k h, List.takeWhile_cons, if_neg (by rw [hp]; decide)]; rfl
theorem wl_end (s : ByteArray) : wl s s.size = 0 := by unfold wl; rw [drop_all]; rfl
set_option maxRecDepth 100000 in
theorem word_any (s : ByteArray) (hs : s.size ≤ 9223372036854775800) (k0 : Nat) (h0 : k0 ≤ s.size) (w : World) :
    Calls Tryz.prog 71 #[.string s, .int .i64 (k0 : Int)] w fun e w' => e = .returned (.int .i64 ((k0 + wl s k0 : Nat) : Int)) ∧ w' = w := by
  have HC := Lib.hid part_any
  go_enter Tryz.func71, Tryz.ntmps71
  go_wp2
  go_loopw [1] (fun s1 wr => ∃ k : Nat, k ≤ s.size ∧ s1 = .int .i64 k ∧ wr = w ∧ Hid (k + wl s k = k0 + wl s k0)) (fun s1 _ => s.size - (intOf s1).toNat)
  case atStart => exact ⟨k0, h0, rfl, rfl, rfl⟩
  case round =>
    obtain ⟨k, hk, rfl, rfl, HK⟩ := hrel
    by_cases hlt : k < s.size
    · have hp := HC.out s[k]
      cases hok : part s[k]
      · have HV := Lib.hid (wl_stop hlt hok)
        rw [hok] at hp
        have HP := Lib.hid hp
        clear hok hp
        go_wp2_with fail
        refine (HP.out _).mono ?_; rintro e w1 ⟨rfl, rfl⟩
        go_wp2_with fail
        go_ret
        exact ⟨ret_int (by rw [← HK.out, HV.out]; rfl), rfl⟩
      · have HN : Hid (k + 1 + wl s (k + 1) = k0 + wl s k0) := by show _ = _; rw [← HK.out, wl_go hlt hok]; omega
        rw [hok] at hp
        have HP := Lib.hid hp
        clear hok hp
        go_wp2_with fail
        refine (HP.out _).mono ?_; rintro e w1 ⟨rfl, rfl⟩
        go_wp2_with fail
        go_roundw
        case rel => exact ⟨k + 1, by omega, by go_num, by first | rfl | trivial, HN⟩
        case measure => simp [intOf]; omega
    · obtain rfl : k = s.size := by omega
      have HV := Lib.hid (wl_end s)
      go_wp2_with fail
      go_ret
      exact ⟨ret_int (by rw [← HK.out, HV.out]; rfl), rfl⟩
end Go.Proofs.YtnelpgeiioflmaaGreatDoor.L
namespace Go.Proofs.YtnelpgeiioflmaaGreatDoor.L
open Go.RowKit

theorem all_take {p : UInt8 → Bool} : ∀ {l : Str}, (l.takeWhile p).length = l.length ↔ l.all p = true
  | [] => by simp
  | c :: l => by
    rw [List.takeWhile_cons, List.all_cons]
    cases hc : p c
    · rw [if_neg (by decide)]; simp
    · rw [if_pos rfl, List.length_cons, List.length_cons, Bool.true_and, ← all_take (l := l)]; omega
theorem list_cons {s : ByteArray} (h : 0 < s.size) : s.data.toList = s[0] :: s.data.toList.drop 1 := by
  have := drop_get s 0 h
  rwa [List.drop_zero] at this
theorem name_short {s : ByteArray} (h : ¬ 0 < s.size) : isName s.data.toList = false := by
  have : s.data.toList = [] := List.length_eq_zero_iff.1 (by rw [← size_len]; omega)
  rw [this]; rfl
theorem name_long {s : ByteArray} (h : ¬ s.size ≤ 16) : isName s.data.toList = false := by
  unfold isName; rw [decide_eq_false (by rw [← size_len]; exact h)]; rfl
theorem name_head {s : ByteArray} (h : 0 < s.size) (h2 : letter s[0] = false) : isName s.data.toList = false := by
  unfold isName
  rw [show headL s.data.toList = false from by rw [list_cons h]; exact h2]; simp
theorem name_part {s : ByteArray} (h : ¬ wl s 0 = s.size) : isName s.data.toList = false := by
  unfold isName
  cases ha : s.data.toList.all part
  · simp
  · exact absurd (by unfold wl; rw [List.drop_zero, size_len]; exact all_take.2 ha) h
theorem name_kw {s : ByteArray} (h : 0 < s.size) (h1 : s.size ≤ 16) (h2 : letter s[0] = true) (h3 : wl s 0 = s.size) : isName s.data.toList = !isKw s.data.toList := by
  unfold isName
  rw [decide_eq_true (by rw [← size_len]; exact h1), show headL s.data.toList = true from by rw [list_cons h]; exact h2]
  rw [all_take.1 (by unfold wl at h3; rw [List.drop_zero] at h3; rw [h3, size_len])]
  rfl
set_option maxRecDepth 100000 in
theorem isName_any (s : ByteArray) (hs : s.size ≤ 9223372036854775800) (w : World) :
    Calls Tryz.prog 49 #[.string s] w fun e w' => e = .returned (.bool (isName s.data.toList)) ∧ Below w.heap.size w w' := by
  by_cases h0 : 0 < s.size
  · by_cases h16 : s.size ≤ 16
    · have h1 := letter_any s[0]
      have h2 := word_any s hs 0 (Nat.zero_le _)
      rw [Nat.zero_add] at h2
      have h2 : ∀ w, Calls Tryz.prog 71 #[.string s, .int .i64 0] w fun e w' => e = .returned (.int .i64 ((wl s 0 : Nat) : Int)) ∧ w' = w := h2
      have HK := Lib.hid (isKw_any s)
      cases hl : letter s[0]
      · have HV := Lib.hid (name_head h0 hl)
        rw [hl] at h1
        have H1 := Lib.hid h1
        clear h1 h2 hl HK
        go_enter Tryz.func49, Tryz.ntmps49
        go_wp2_with fail
        refine (H1.out _).mono ?_; rintro e w1 ⟨rfl, rfl⟩
        go_wp2_with fail
        go_ret
        exact ⟨ret_bool HV.out.symm, Below.refl _ _⟩
      · rw [hl] at h1
        have H1 := Lib.hid h1
        have H2 := Lib.hid h2
        by_cases hw : wl s 0 = s.size
        · have HV := Lib.hid (name_kw h0 h16 hl hw)
          have bw : ((wl s 0 : Int) == (s.size : Int)) = true := beq_iff_eq.2 (by omega)
          generalize wl s 0 = L at H2 bw
          generalize isKw s.data.toList = K at HK HV
          clear h1 h2 hl hw
          cases K
          all_goals
            go_enter Tryz.func49, Tryz.ntmps49
            go_wp2_with fail
            refine (H1.out _).mono ?_; rintro e w1 ⟨rfl, rfl⟩
            go_wp2_with fail
            refine (H2.out _).mono ?_; rintro e w1 ⟨rfl, rfl⟩
            go_wp2_with fail
            refine (HK.out _).mono ?_; rintro e w2 ⟨rfl, hb2⟩
            go_wp2_with fail
            go_ret
            exact ⟨ret_bool (by rw [HV.out]; rfl), hb2⟩
        · have HV := Lib.hid (name_part hw)
          have bw : ((wl s 0 : Int) == (s.size : Int)) = false := beq_eq_false_iff_ne.2 (by omega)
          generalize wl s 0 = L at H2 bw
          clear h1 h2 hl hw HK
          go_enter Tryz.func49, Tryz.ntmps49
          go_wp2_with fail
          refine (H1.out _).mono ?_; rintro e w1 ⟨rfl, rfl⟩
          go_wp2_with fail
          refine (H2.out _).mono ?_; rintro e w1 ⟨rfl, rfl⟩
          go_wp2_with fail
          go_ret
          exact ⟨ret_bool HV.out.symm, Below.refl _ _⟩
    · have HV := Lib.hid (name_long h16)
      go_enter Tryz.func49, Tryz.ntmps49
      go_wp2_with fail
      go_ret
      exact ⟨ret_bool HV.out.symm, Below.refl _ _⟩
  · have HV := Lib.hid (name_short h0)
    have hz : s.size = 0 := by omega
    go_enter Tryz.func49, Tryz.ntmps49
    go_wp2_with fail
    go_ret
    exact ⟨ret_bool HV.out.symm, Below.refl _ _⟩

/-! ### Printable, Quote -/

def upto (p : UInt8 → Bool) (s : ByteArray) (k : Nat) : Prop := ∀ j (h : j < s.size), j < k → p s[j] = true
theorem upto_all {p : UInt8 → Bool} {s : ByteArray} (h : upto p s s.size) : s.data.toList.all p = true := by
  rw [List.all_eq_true]
  intro c hc
  obtain ⟨j, hj, rfl⟩ := List.mem_iff_getElem.1 hc
  have hj2 : j < s.size := by rw [size_len]; exact hj
  exact h j hj2 hj2
theorem upto_not {p : UInt8 → Bool} {s : ByteArray} {k : Nat} (h : k < s.size) (hp : p s[k] = false) : s.data.toList.all p = false := by
  rw [List.all_eq_false]
  refine ⟨s[k], ?_, by rw [hp]; decide⟩
  exact List.getElem_mem (l := s.data.toList) (by rw [← size_len]; exact h)
theorem prt_not {c : UInt8} (h : prt c = false) : (c.toNat : Int) < 32 ∨ 126 < (c.toNat : Int) := by
  apply Decidable.byContradiction
  intro h2
  rw [prt_iff.2 ⟨by omega, by omega⟩] at h; cases h
theorem esc_app : ∀ a b : Str, esc (a ++ b) = esc a ++ esc b
  | [], _ => rfl
  | c :: a, b => by
    rw [List.cons_append, esc, esc, esc_app a b]
    split <;> rfl
theorem take_snoc (s : ByteArray) (k : Nat) (h : k < s.size) : s.data.toList.take (k + 1) = s.data.toList.take k ++ [s[k]] := by
  rw [List.take_succ_eq_append_getElem (by simpa using h)]; rfl
def pairS (r : Str × Int) : Value := .tuple #[.string ⟨r.1.toArray⟩, .int .i64 r.2]
theorem qt_long {s : ByteArray} (h : 64 < s.size) : qt s.data.toList = ([], 2) := by unfold qt; rw [if_pos (by rw [← size_len]; exact h)]
theorem qt_bad {s : ByteArray} (h : ¬ 64 < s.size) (h2 : s.data.toList.all prt = false) : qt s.data.toList = ([], 1) := by unfold qt; rw [if_neg (by rw [← size_len]; exact h), if_neg (by rw [h2]; decide)]
theorem qt_ok {s : ByteArray} (h : ¬ 64 < s.size) (h2 : s.data.toList.all prt = true) : qt s.data.toList = (quo s.data.toList, 0) := by unfold qt; rw [if_neg (by rw [← size_len]; exact h), if_pos h2]
/-! ### skip, feeds -/

def sk (b : Bool) (s : ByteArray) (k : Nat) : Nat := s.size - (skp b (s.data.toList.drop k)).length
end Go.Proofs.YtnelpgeiioflmaaGreatDoor.L
namespace Go.Proofs.YtnelpgeiioflmaaGreatDoor.L
open Go.RowKit

def ltr (r : Int) : Bool := decide (97 ≤ r) && decide (r ≤ 122)
def dgt (r : Int) : Bool := decide (48 ≤ r) && decide (r ≤ 57)
theorem oletter_any (r : Int) (w : World) : Calls Tryz.prog 108 #[.int .i32 r] w fun e w' => e = .returned (.bool (ltr r)) ∧ w' = w := by
  by_cases h1 : 97 ≤ r
  · by_cases h2 : r ≤ 122
    all_goals
      go_enter Tryz.func108, Tryz.ntmps108
      go_wp2
      go_ret
      exact ⟨ret_bool (by simp [ltr, h1, h2]), rfl⟩
  · go_enter Tryz.func108, Tryz.ntmps108
    go_wp2
    go_ret
    exact ⟨ret_bool (by simp [ltr]; omega), rfl⟩
theorem odigit_any (r : Int) (w : World) : Calls Tryz.prog 128 #[.int .i32 r] w fun e w' => e = .returned (.bool (dgt r)) ∧ w' = w := by
  by_cases h1 : 48 ≤ r
  · by_cases h2 : r ≤ 57
    all_goals
      go_enter Tryz.func128, Tryz.ntmps128
      go_wp2
      go_ret
      exact ⟨ret_bool (by simp [dgt, h1, h2]), rfl⟩
  · go_enter Tryz.func128, Tryz.ntmps128
    go_wp2
    go_ret
    exact ⟨ret_bool (by simp [dgt]; omega), rfl⟩
theorem ltr_of (c : UInt8) : ltr (c.toNat : Int) = letter c := by
  unfold ltr letter
  rw [show decide (97 ≤ (c.toNat : Int)) = decide (97 ≤ c.toNat) from decide_eq_decide.2 (by omega), show decide ((c.toNat : Int) ≤ 122) = decide (c.toNat ≤ 122) from decide_eq_decide.2 (by omega)]
theorem dgt_of (c : UInt8) : dgt (c.toNat : Int) = digit c := by
  unfold dgt digit
  rw [show decide (48 ≤ (c.toNat : Int)) = decide (48 ≤ c.toNat) from decide_eq_decide.2 (by omega), show decide ((c.toNat : Int) ≤ 57) = decide (c.toNat ≤ 57) from decide_eq_decide.2 (by omega)]
theorem oplain_any (c : UInt8) (w : World) : Calls Tryz.prog 138 #[.int .u8 (c.toNat : Int)] w fun e w' => e = .returned (.bool (prt c)) ∧ w' = w := by
  cases hp : prt c
  · rcases prt_not hp with h | h
    · have h1 : ¬ 32 ≤ (c.toNat : Int) := by omega
      clear h
      go_enter Tryz.func138, Tryz.ntmps138
      go_wp2
      go_ret
      exact ⟨rfl, rfl⟩
    · have h1 : 32 ≤ (c.toNat : Int) := by omega
      have h2 : ¬ (c.toNat : Int) ≤ 126 := by omega
      clear h
      go_enter Tryz.func138, Tryz.ntmps138
      go_wp2
      go_ret
      exact ⟨rfl, rfl⟩
  · have h := prt_iff.1 hp
    have h1 : 32 ≤ (c.toNat : Int) := by omega
    have h2 : (c.toNat : Int) ≤ 126 := by omega
    clear h
    go_enter Tryz.func138, Tryz.ntmps138
    go_wp2
    go_ret
    exact ⟨rfl, rfl⟩
def spc (c : UInt8) : Bool := decide (c.toNat = 34 ∨ c.toNat = 92)
theorem ospecial_any (c : UInt8) (w : World) : Calls Tryz.prog 139 #[.int .u8 (c.toNat : Int)] w fun e w' => e = .returned (.bool (spc c)) ∧ w' = w := by
  by_cases h1 : c.toNat = 34
  · have HV : Hid (spc c = true) := decide_eq_true (Or.inl h1)
    have b1 : ((c.toNat : Int) == 34) = true := beq_iff_eq.2 (by omega)
    clear h1
    go_enter Tryz.func139, Tryz.ntmps139
    go_wp2
    go_ret
    exact ⟨ret_bool HV.out.symm, rfl⟩
  · have b1 : ((c.toNat : Int) == 34) = false := beq_eq_false_iff_ne.2 (by omega)
    by_cases h2 : c.toNat = 92
    · have HV : Hid (spc c = true) := decide_eq_true (Or.inr h2)
      have b2 : ((c.toNat : Int) == 92) = true := beq_iff_eq.2 (by omega)
      clear h1 h2
      go_enter Tryz.func139, Tryz.ntmps139
      go_wp2
      go_ret
      exact ⟨ret_bool HV.out.symm, rfl⟩
    · have HV : Hid (spc c = false) := decide_eq_false (fun h => h.elim h1 h2)
      have b2 : ((c.toNat : Int) == 92) = false := beq_eq_false_iff_ne.2 (by omega)
      clear h1 h2
      go_enter Tryz.func139, Tryz.ntmps139
      go_wp2
      go_ret
      exact ⟨ret_bool HV.out.symm, rfl⟩

set_option maxHeartbeats 4000000 in
set_option maxRecDepth 100000 in
theorem oisKw_any (s : ByteArray) (w : World) :
    Calls Tryz.prog 110 #[.string s] w fun e w' => e = .returned (.bool (isKw s.data.toList)) ∧ w' = w := by
  obtain ⟨b0, h0⟩ : ∃ b, (s.toList == [112, 114, 111, 99]) = b := ⟨_, rfl⟩
  obtain ⟨b1, h1⟩ : ∃ b, (s.toList == [108, 101, 116]) = b := ⟨_, rfl⟩
  obtain ⟨b2, h2⟩ : ∃ b, (s.toList == [112, 117, 116]) = b := ⟨_, rfl⟩
  obtain ⟨b3, h3⟩ : ∃ b, (s.toList == [100, 101, 108, 101, 116, 101]) = b := ⟨_, rfl⟩
  obtain ⟨b4, h4⟩ : ∃ b, (s.toList == [105, 102]) = b := ⟨_, rfl⟩
  obtain ⟨b5, h5⟩ : ∃ b, (s.toList == [101, 108, 115, 101]) = b := ⟨_, rfl⟩
  obtain ⟨b6, h6⟩ : ∃ b, (s.toList == [102, 111, 114]) = b := ⟨_, rfl⟩
  obtain ⟨b7, h7⟩ : ∃ b, (s.toList == [116, 111]) = b := ⟨_, rfl⟩
  obtain ⟨b8, h8⟩ : ∃ b, (s.toList == [109, 97, 120]) = b := ⟨_, rfl⟩
  obtain ⟨b9, h9⟩ : ∃ b, (s.toList == [101, 109, 105, 116]) = b := ⟨_, rfl⟩
  obtain ⟨b10, h10⟩ : ∃ b, (s.toList == [97, 98, 111, 114, 116]) = b := ⟨_, rfl⟩
  obtain ⟨b11, h11⟩ : ∃ b, (s.toList == [110, 111, 116]) = b := ⟨_, rfl⟩
  obtain ⟨b12, h12⟩ : ∃ b, (s.toList == [97, 110, 100]) = b := ⟨_, rfl⟩
  obtain ⟨b13, h13⟩ : ∃ b, (s.toList == [111, 114]) = b := ⟨_, rfl⟩
  obtain ⟨b14, h14⟩ : ∃ b, (s.toList == [105, 110, 116]) = b := ⟨_, rfl⟩
  obtain ⟨b15, h15⟩ : ∃ b, (s.toList == [115, 116, 114]) = b := ⟨_, rfl⟩
  obtain ⟨b16, h16⟩ : ∃ b, (s.toList == [98, 111, 111, 108]) = b := ⟨_, rfl⟩
  obtain ⟨b17, h17⟩ : ∃ b, (s.toList == [116, 101, 120, 116]) = b := ⟨_, rfl⟩
  obtain ⟨b18, h18⟩ : ∃ b, (s.toList == [108, 101, 110]) = b := ⟨_, rfl⟩
  obtain ⟨b19, h19⟩ : ∃ b, (s.toList == [103, 101, 116, 105, 110, 116]) = b := ⟨_, rfl⟩
  obtain ⟨b20, h20⟩ : ∃ b, (s.toList == [103, 101, 116, 115, 116, 114]) = b := ⟨_, rfl⟩
  obtain ⟨b21, h21⟩ : ∃ b, (s.toList == [104, 97, 115]) = b := ⟨_, rfl⟩
  obtain ⟨b22, h22⟩ : ∃ b, (s.toList == [110, 111, 119]) = b := ⟨_, rfl⟩
  obtain ⟨b23, h23⟩ : ∃ b, (s.toList == [114, 97, 110, 100, 111, 109]) = b := ⟨_, rfl⟩
  obtain ⟨b24, h24⟩ : ∃ b, (s.toList == [110, 111, 100, 101]) = b := ⟨_, rfl⟩
  have HV : Hid (isKw s.data.toList = (b0 || b1 || b2 || b3 || b4 || b5 || b6 || b7 || b8 || b9 || b10 || b11 || b12 || b13 || b14 || b15 || b16 || b17 || b18 || b19 || b20 || b21 || b22 || b23 || b24)) := by
    show _ = _
    rw [← h0]
    rw [← h1]
    rw [← h2]
    rw [← h3]
    rw [← h4]
    rw [← h5]
    rw [← h6]
    rw [← h7]
    rw [← h8]
    rw [← h9]
    rw [← h10]
    rw [← h11]
    rw [← h12]
    rw [← h13]
    rw [← h14]
    rw [← h15]
    rw [← h16]
    rw [← h17]
    rw [← h18]
    rw [← h19]
    rw [← h20]
    rw [← h21]
    rw [← h22]
    rw [← h23]
    rw [← h24]
    rw [Lib.toList_data]
    unfold isKw keywords
    simp only [List.mem_cons, List.not_mem_nil, or_false, Bool.decide_or, Bool.beq_eq_decide_eq, Bool.or_assoc]
  go_enter Tryz.func110, Tryz.ntmps110
  go_wp2_with fail
  all_goals (clear h0 h1 h2 h3 h4 h5 h6 h7 h8 h9 h10 h11 h12 h13 h14 h15 h16 h17 h18 h19 h20 h21 h22 h23 h24; go_ret; exact ⟨ret_bool (by rw [HV.out]; clear HV; simp_all), rfl⟩)

end Go.Proofs.YtnelpgeiioflmaaGreatDoor.L
namespace Go.Proofs.YtnelpgeiioflmaaGreatDoor.L
open Go.RowKit

theorem slice_to (s : ByteArray) (k : Nat) (h : k ≤ s.size) : ∃ d : ByteArray, d.data.toList = s.data.toList.take k ∧ d.size = k ∧ ∀ W, (Instr.slice 9 (.string s) none (some (.int .i64 (k : Int))) none).run Tryz.prog W = .ok (.string d) W := by
  refine ⟨s.extract 0 k, ?_, ?_, fun W => ?_⟩
  · simp only [ByteArray.data_extract, Array.toList_extract, List.extract_eq_take_drop]
    rw [Nat.sub_zero, List.drop_zero]
  · rw [ByteArray.size_extract]; omega
  · have := run_slice_string_h (P := Tryz.prog) W 9 s Tryz.underlying9 .i64 (k : Int) (by omega) (by omega)
    rw [this]; rfl
theorem lead_at {s : ByteArray} {k : Nat} (h : (s.data.toList.take k).all part = true) (h2 : ∀ h : k < s.size, part s[k] = false) : s.data.toList.takeWhile part = s.data.toList.take k := by
  have h3 := (take_sep (w := s.data.toList.take k) (r := s.data.toList.drop k) h (fun c z e => by
    rcases Nat.lt_or_ge k s.size with hl | hl
    · rw [drop_get s k hl] at e; rw [← (List.cons.inj e).1]; exact h2 hl
    · rw [List.drop_of_length_le (by rw [← size_len]; exact hl)] at e; cases e)).1
  rwa [List.take_append_drop] at h3
theorem all_take_snoc {s : ByteArray} {k : Nat} (h : k < s.size) (h1 : (s.data.toList.take k).all part = true) (h2 : part s[k] = true) : (s.data.toList.take (k + 1)).all part = true := by
  rw [take_snoc s k h, List.all_append, h1]; simp [h2]
theorem lead_ret {s d : ByteArray} {k : Nat} (hd : d.data.toList = s.data.toList.take k) (h : s.data.toList.takeWhile part = s.data.toList.take k) : d = ⟨(s.data.toList.takeWhile part).toArray⟩ := bytes_eq (by rw [h, hd])
set_option maxHeartbeats 1000000 in
set_option maxRecDepth 100000 in
theorem olead_any (s : ByteArray) (w : World) :
    Calls Tryz.prog 109 #[.string s] w fun e w' => e = .returned (.string ⟨(s.data.toList.takeWhile part).toArray⟩) ∧ Below w.heap.size w w' := by
  have HL := Lib.hid oletter_any
  have HD := Lib.hid odigit_any
  have HB := Lib.hid (fun p => below_box w (.stringIter s p))
  go_enter Tryz.func109, Tryz.ntmps109
  go_wp2
  go_loopw [3] (fun _ wr => ∃ pos : Nat, pos ≤ s.size ∧ wr = w.iter s pos ∧ Hid ((s.data.toList.take pos).all part = true)) (fun _ wr => s.size - wr.iterPos w.heap.size)
  case atStart => exact ⟨0, Nat.zero_le _, rfl, rfl⟩
  case round =>
    obtain ⟨pos, hpos, rfl, HK⟩ := hrel
    by_cases hp : pos < s.size
    · obtain ⟨d, hd, hd2, hsl⟩ := slice_to s pos hpos
      have HE := Lib.hid hd
      clear hd hd2
      by_cases ha : s[pos].toNat < 128
      · have hnx : ∀ ty, (Instr.next (.pointer (some ⟨w.heap.size, 0, none⟩)) true ty).run Tryz.prog (w.iter s pos) = _ := fun ty => run_next_ascii w s pos ty hp ha
        have h1 := HL.out (s[pos].toNat : Int)
        have h2 := HD.out (s[pos].toNat : Int)
        rw [ltr_of] at h1
        rw [dgt_of] at h2
        have HN := Lib.hid (all_take_snoc hp HK.out)
        have HV : Hid (part s[pos] = false → s.data.toList.takeWhile part = s.data.toList.take pos) := fun h => lead_at HK.out fun _ => h
        have HPt : Hid (part s[pos] = (letter s[pos] || digit s[pos] || decide (s[pos].toNat = 95))) := rfl
        cases hl : letter s[pos]
        · rw [hl] at h1 HPt
          cases hdg : digit s[pos]
          · rw [hdg] at h2 HPt
            by_cases h95 : s[pos].toNat = 95
            · have b1 : ((s[pos].toNat : Int) != 95) = false := by rw [bne_eq_false_iff_eq]; omega
              have HN2 := Lib.hid (HN.out (by rw [HPt.out, decide_eq_true h95]; rfl))
              have H1 := Lib.hid h1
              have H2 := Lib.hid h2
              clear h1 h2 hl hdg h95 HL HD HN HV HPt
              go_wp2_with fail
              refine (H1.out _).mono ?_; rintro e w1 ⟨rfl, rfl⟩
              go_wp2_with fail
              refine (H2.out _).mono ?_; rintro e w1 ⟨rfl, rfl⟩
              go_wp2_with fail
              go_roundw
              case rel => exact ⟨pos + 1, by omega, rfl, HN2⟩
              case measure => simp; omega
            · have b1 : ((s[pos].toNat : Int) != 95) = true := bne_iff_ne.2 (by omega)
              have HV2 := Lib.hid (HV.out (by rw [HPt.out, decide_eq_false h95]; rfl))
              have H1 := Lib.hid h1
              have H2 := Lib.hid h2
              clear h1 h2 hl hdg h95 HL HD HN HV HPt
              go_wp2_with fail
              refine (H1.out _).mono ?_; rintro e w1 ⟨rfl, rfl⟩
              go_wp2_with fail
              refine (H2.out _).mono ?_; rintro e w1 ⟨rfl, rfl⟩
              go_wp2_with fail
              go_ret
              exact ⟨ret_string (lead_ret HE.out HV2.out), HB.out _⟩
          · rw [hdg] at h2 HPt
            have HN2 := Lib.hid (HN.out (by rw [HPt.out]; rfl))
            have H1 := Lib.hid h1
            have H2 := Lib.hid h2
            clear h1 h2 hl hdg HL HD HN HV HPt
            go_wp2_with fail
            refine (H1.out _).mono ?_; rintro e w1 ⟨rfl, rfl⟩
            go_wp2_with fail
            refine (H2.out _).mono ?_; rintro e w1 ⟨rfl, rfl⟩
            go_wp2_with fail
            go_roundw
            case rel => exact ⟨pos + 1, by omega, rfl, HN2⟩
            case measure => simp; omega
        · rw [hl] at h1 HPt
          have HN2 := Lib.hid (HN.out (by rw [HPt.out]; rfl))
          have H1 := Lib.hid h1
          clear h1 h2 hl HL HD HN HV HPt
          go_wp2_with fail
          refine (H1.out _).mono ?_; rintro e w1 ⟨rfl, rfl⟩
          go_wp2_with fail
          go_roundw
          case rel => exact ⟨pos + 1, by omega, rfl, HN2⟩
          case measure => simp; omega
      · obtain ⟨r, p2, hnx, hr⟩ : ∃ (r : Int) (p2 : Nat), (∀ ty, (Instr.next (.pointer (some ⟨w.heap.size, 0, none⟩)) true ty).run Tryz.prog (w.iter s pos) = .ok (.tuple #[.bool true, .int .i64 pos, .int .i32 r]) (w.iter s p2)) ∧ 128 ≤ r :=
          ⟨_, _, fun ty => run_next_any w s pos ty hp, by have := (decode_high s pos hp (by omega)).1; omega⟩
        have h1 := HL.out r
        have h2 := HD.out r
        rw [show ltr r = false from by unfold ltr; rw [decide_eq_false (show ¬ r ≤ 122 by omega), Bool.and_false]] at h1
        rw [show dgt r = false from by unfold dgt; rw [decide_eq_false (show ¬ r ≤ 57 by omega), Bool.and_false]] at h2
        have H1 := Lib.hid h1
        have H2 := Lib.hid h2
        have b1 : (r != 95) = true := bne_iff_ne.2 (by omega)
        have HV2 : Hid (s.data.toList.takeWhile part = s.data.toList.take pos) := lead_at HK.out fun _ => by
          have : ¬ part s[pos] = true := fun h => by rw [part_iff] at h; omega
          simpa using this
        clear h1 h2 hr HL HD ha
        go_wp2_with fail
        refine (H1.out _).mono ?_; rintro e w1 ⟨rfl, rfl⟩
        go_wp2_with fail
        refine (H2.out _).mono ?_; rintro e w1 ⟨rfl, rfl⟩
        go_wp2_with fail
        go_ret
        exact ⟨ret_string (lead_ret HE.out HV2.out), HB.out _⟩
    · obtain rfl : pos = s.size := by omega
      have hnx : ∀ ty, (Instr.next (.pointer (some ⟨w.heap.size, 0, none⟩)) true ty).run Tryz.prog (w.iter s s.size) = _ := fun ty => run_next_end w s s.size ty hp
      have HV2 : Hid (s.data.toList.takeWhile part = s.data.toList.take s.size) := lead_at HK.out fun h => absurd h (Nat.lt_irrefl _)
      have HE : Hid (s.data.toList = s.data.toList.take s.size) := by show _ = _; rw [size_len, List.take_length]
      go_wp2_with fail
      go_ret
      exact ⟨ret_string (lead_ret HE.out HV2.out), HB.out _⟩
end Go.Proofs.YtnelpgeiioflmaaGreatDoor.L
namespace Go.Proofs.YtnelpgeiioflmaaGreatDoor.L
open Go.RowKit

theorem oclone_any (s : ByteArray) (hs : s.size ≤ 281474976710656) (w : World) :
    Calls Tryz.prog 57 #[.string s] w fun e w' => e = .returned (.string s) ∧ Below w.heap.size w w' := by
  go_enter Tryz.func57, Tryz.ntmps57
  go_wp2_with (go_at_call 76; refine (Tryz.stringslite_Clone _ _ hs).mono ?_; rintro e w' ⟨rfl, hb⟩)
  go_ret
  exact ⟨rfl, hb⟩
/-! ### the part ahead of a line feed -/

/-! ### gapSize -/

end Go.Proofs.YtnelpgeiioflmaaGreatDoor.L
