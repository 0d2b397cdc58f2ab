/-
  What the reference of layer 5 returns: Plain, Valid, Int, Str, less, Compare: contracts, one a function; what all texts of the layer use.
-/
import Derived.Test.YtcedndjpdgpdgaaDoorVCodes
import Derived.Test.YtcedndjpdgpdgaaDoorFormat
import Derived.Laws.EntriesVeiled
import Derived.WalkLawsBesides
namespace Go.Proofs.YtcedndjpdgpdgaaDoor.V
open Go.RowKit

theorem ret_bool {a b : Bool} (h : a = b) : Ending.returned (.bool a) = Ending.returned (.bool b) := by rw [h]
theorem ret_int {k : IntKind} {a b : Int} (h : a = b) : Ending.returned (.int k a) = .returned (.int k b) := by rw [h]
theorem ret_string {a b : ByteArray} (h : a = b) : Ending.returned (.string a) = Ending.returned (.string b) := by rw [h]
theorem size_len (s : ByteArray) : s.size = s.data.toList.length := by simp
theorem take_snoc (s : ByteArray) (k : Nat) (h : k < s.size) : s.data.toList.take (k + 1) = s.data.toList.take k ++ [s[k]] := by
  rw [List.take_succ_eq_append_getElem (by simpa using h)]; rfl
theorem take_all (s : ByteArray) : s.data.toList.take s.size = s.data.toList := List.take_of_length_le (by simp)
theorem byte_lt (c : UInt8) : c.toNat < 256 := c.toNat_lt
theorem below_2 {w w1 w2 : World} (h : Below w.heap.size w w1) (h2 : Below w1.heap.size w1 w2) : Below w.heap.size w w2 := h.trans (h2.mono h.size)
theorem bool_iff {x y : Bool} (h : x = true ↔ y = true) : x = y := by cases x <;> cases y <;> simp_all
theorem less_eq : ∀ (x y : List UInt8), Op.bytesLess x y = decide (x < y)
  | [], [] => by simp [Op.bytesLess]
  | _ :: _, [] => by simp [Op.bytesLess]
  | [], _ :: _ => by simp [Op.bytesLess]
  | a :: x, b :: y => by
    rw [Op.bytesLess, less_eq x y]
    simp only [List.cons_lt_cons_iff]
    by_cases h1 : a < b <;> by_cases h2 : a = b <;> by_cases h3 : x < y <;> simp [h1, h2, h3]
theorem lss_eq (a b : ByteArray) : Op.bytesLess a.toList b.toList = decide (a.data.toList < b.data.toList) := by rw [less_eq, Lib.toList_data, Lib.toList_data]
theorem eql_eq (a b : ByteArray) : (a.toList == b.toList) = decide (a.data.toList = b.data.toList) := by rw [Lib.toList_data, Lib.toList_data]; exact Bool.beq_eq_decide_eq _ _
theorem empty_iff (s : ByteArray) : s.toList.isEmpty = decide (s.data.toList = []) := by
  rw [Lib.toList_data]
  cases s.data.toList <;> simp

/-! ### a value in memory -/

/-- w holds a value at block b -/
structure Has (w : World) (b : Nat) (k n : Int) (s : ByteArray) : Prop where
  kind : w.cell? ⟨b, 0, none⟩ = some (.int .i64 k)
  num : w.cell? ⟨b, 1, none⟩ = some (.int .i64 n)
  str : w.cell? ⟨b, 2, none⟩ = some (.string s)
theorem Has.box (w : World) (k n : Int) (s : ByteArray) : Has (w.alloc (.cells #[.int .i64 k, .int .i64 n, .string s] 23)) w.heap.size k n s := ⟨by go_simp, by go_simp, by go_simp⟩
theorem Has.box2 (w : World) (o : Obj) (k n : Int) (s : ByteArray) : Has ((w.alloc o).alloc (.cells #[.int .i64 k, .int .i64 n, .string s] 23)) (w.heap.size + 1) k n s := ⟨by go_simp, by go_simp, by go_simp⟩
theorem Has.below {w w' : World} {b B : Nat} {k n : Int} {s : ByteArray} (h : Has w b k n s) (hb : Below B w w') (hB : b < B) : Has w' b k n s :=
  ⟨(hb.cell (by exact hB)).trans h.kind, (hb.cell (by exact hB)).trans h.num, (hb.cell (by exact hB)).trans h.str⟩
theorem Has.alloc {w : World} {b : Nat} {k n : Int} {s : ByteArray} (h : Has w b k n s) (hB : b < w.heap.size) (o : Obj) : Has (w.alloc o) b k n s :=
  h.below ((Below.refl w.heap.size w).alloc (Nat.le_refl _) o) hB
theorem Has.drew {w : World} {b : Nat} {k n : Int} {s : ByteArray} (h : Has w b k n s) : Has w.drew b k n s := ⟨h.kind, h.num, h.str⟩
theorem below_box (w : World) (o : Obj) : Below w.heap.size w (w.alloc o) := (Below.refl _ _).alloc (Nat.le_refl _) _
theorem below_box2 (w : World) (a b : Obj) : Below w.heap.size w ((w.alloc a).alloc b) := below_2 (below_box w a) (below_box _ b)
/-- block b is the call's own and may be written -/
structure Mine (w : World) (b : Nat) : Prop where
  cells : ∃ k n s, Has w b k n s
  free : w.frozen? ⟨b, 0, none⟩ = false ∧ w.frozen? ⟨b, 1, none⟩ = false ∧ w.frozen? ⟨b, 2, none⟩ = false
theorem Mine.below {w w' : World} {b B : Nat} (h : Mine w b) (hb : Below B w w') (hB : b < B) : Mine w' b := by
  obtain ⟨⟨k, n, s, h1⟩, h2, h3, h4⟩ := h
  exact ⟨⟨k, n, s, h1.below hb hB⟩, (hb.frozen (by exact hB)).trans h2, (hb.frozen (by exact hB)).trans h3, (hb.frozen (by exact hB)).trans h4⟩
theorem Mine.new (w : World) (k n : Int) (s : ByteArray) : Mine (w.alloc (.cells #[.int .i64 k, .int .i64 n, .string s] 23)) w.heap.size := ⟨⟨k, n, s, Has.box w k n s⟩, by go_simp, by go_simp, by go_simp⟩
theorem stored {w : World} {b : Nat} {k n : Int} {s : ByteArray} (h : Has w b k n s) (k' n' : Int) (s' : ByteArray) :
    Has (((w.setCell ⟨b, 0, none⟩ (.int .i64 k')).setCell ⟨b, 1, none⟩ (.int .i64 n')).setCell ⟨b, 2, none⟩ (.string s')) b k' n' s' := by
  obtain ⟨h1, h2, h3⟩ := h
  exact ⟨by go_simp, by go_simp, by go_simp⟩
theorem stored_below {w w1 : World} {b : Nat} (h : Below w.heap.size w w1) (hb : w.heap.size ≤ b) (x y z : Value) : Below w.heap.size w (((w1.setCell ⟨b, 0, none⟩ x).setCell ⟨b, 1, none⟩ y).setCell ⟨b, 2, none⟩ z) :=
  ((h.setCell hb _).setCell hb _).setCell hb _

/-! ### Plain -/

/-- all of the first k bytes are accepted -/
def upto (s : ByteArray) (k : Nat) : Prop := (s.data.toList.take k).all prt = true
theorem upto_next {s : ByteArray} {k : Nat} (h : upto s k) (hk : k < s.size) (hok : prt s[k] = true) : upto s (k + 1) := by
  unfold upto at *
  rw [take_snoc s k hk, List.all_append, h]
  simp [hok]
theorem upto_stop {s : ByteArray} {k : Nat} (hk : k < s.size) (hok : prt s[k] = false) : s.data.toList.all prt = false := by
  rw [← List.take_append_drop (k + 1) s.data.toList, take_snoc s k hk]
  simp [hok]
theorem prt_iff (c : UInt8) : prt c = true ↔ (32 : Int) ≤ (c.toNat : Int) ∧ (c.toNat : Int) ≤ 126 := by
  unfold prt
  rw [decide_eq_true_iff]
  omega
theorem plain_long {s : ByteArray} (h : ¬ s.size ≤ 64) : plain s.data.toList = false := by
  unfold plain
  rw [← size_len, decide_eq_false h]; rfl
theorem plain_bad {s : ByteArray} {k : Nat} (hk : k < s.size) (hok : prt s[k] = false) : plain s.data.toList = false := by unfold plain; rw [upto_stop hk hok, Bool.and_false]
theorem plain_good {s : ByteArray} (h : s.size ≤ 64) (hu : upto s s.size) : plain s.data.toList = true := by
  unfold plain upto at *
  rw [take_all] at hu
  rw [← size_len, decide_eq_true h, hu]; rfl
set_option maxRecDepth 100000 in
theorem rplain_any (s : ByteArray) (hs : s.size ≤ 9223372036854775807) (w : World) :
    Calls Tryd.prog 31 #[.string s] w fun e w' => e = .returned (.bool (plain s.data.toList)) ∧ w' = w := by
  by_cases h64 : s.size ≤ 64
  · have HL := Lib.hid (plain_good h64)
    go_enter Tryd.func31, Tryd.ntmps31
    go_wp2
    go_loop [3] (fun vi => ∃ k : Nat, k ≤ s.size ∧ vi = .int .i64 k ∧ Hid (upto s k)) (fun vi => s.size - (intOf vi).toNat)
    case atStart => exact ⟨0, Nat.zero_le _, rfl, rfl⟩
    case round =>
      obtain ⟨k, hk, rfl, HU⟩ := hrel
      by_cases hlt : k < s.size
      · by_cases hok : prt s[k] = true
        · have HN := Lib.hid (upto_next HU.out hlt hok)
          obtain ⟨g1, g2⟩ := (prt_iff _).1 hok
          clear hok
          go_wp2
          go_round
          case rel => exact ⟨k + 1, by omega, by go_num, HN⟩
          case measure => simp [intOf]; omega
        · rw [Bool.not_eq_true] at hok
          have HB := Lib.hid (plain_bad hlt hok)
          have HO := Lib.hid hok
          clear hok
          go_wp2
          all_goals first
            | (go_ret; exact ⟨ret_bool HB.out.symm, rfl⟩)
            | (exfalso; have h := (prt_iff s[k]).2 (by omega); rw [HO.out] at h; exact absurd h (by decide))
      · obtain rfl : s.size = k := by omega
        have HG := Lib.hid (HL.out HU.out)
        go_wp2_with fail
        go_ret
        exact ⟨ret_bool HG.out.symm, rfl⟩
  · have HB := Lib.hid (plain_long h64)
    go_enter Tryd.func31, Tryd.ntmps31
    go_wp2
    go_ret
    exact ⟨ret_bool HB.out.symm, rfl⟩

/-! ### Valid -/

theorem valid_nil {n : Int} {s : ByteArray} : valid ⟨0, n, s.data.toList⟩ = ((n == 0) && s.toList.isEmpty) := by
  rw [empty_iff]
  refine bool_iff ?_
  rw [valid_iff, Bool.and_eq_true, beq_iff_eq, decide_eq_true_iff]
  simp
theorem valid_int {n : Int} {s : ByteArray} : valid ⟨1, n, s.data.toList⟩ = s.toList.isEmpty := by
  rw [empty_iff]
  refine bool_iff ?_
  rw [valid_iff, decide_eq_true_iff]
  simp
theorem valid_str {n : Int} {s : ByteArray} : valid ⟨2, n, s.data.toList⟩ = ((n == 0) && plain s.data.toList) := by
  refine bool_iff ?_
  rw [valid_iff, Bool.and_eq_true, beq_iff_eq]
  simp
theorem valid_not {k n : Int} {s : ByteArray} (h0 : k ≠ 0) (h1 : k ≠ 1) (h2 : k ≠ 2) : valid ⟨k, n, s.data.toList⟩ = false := by
  cases h : valid ⟨k, n, s.data.toList⟩ with
  | false => rfl
  | true =>
    rcases valid_iff.1 h with ⟨hk, _⟩ | ⟨hk, _⟩ | ⟨hk, _⟩
    · exact absurd hk h0
    · exact absurd hk h1
    · exact absurd hk h2
set_option maxRecDepth 100000 in
theorem rvalid_any (k n : Int) (s : ByteArray) (hs : s.size ≤ 9223372036854775807) (w : World) :
    Calls Tryd.prog 15 #[.agg #[.int .i64 k, .int .i64 n, .string s]] w fun e w' => e = .returned (.bool (valid ⟨k, n, s.data.toList⟩)) ∧ Below w.heap.size w w' := by
  have HW := Lib.hid (below_box w (.cells #[.int .i64 k, .int .i64 n, .string s] 23))
  by_cases h0 : k = 0
  · subst h0
    have HV := Lib.hid (valid_nil (n := n) (s := s))
    cases hn : (n == 0)
    all_goals
      rw [hn] at HV
      go_enter Tryd.func15, Tryd.ntmps15
      go_wp2_with fail
      go_ret
      exact ⟨ret_bool (by rw [HV.out]; rfl), HW.out⟩
  · by_cases h1 : k = 1
    · subst h1
      have HV := Lib.hid (valid_int (n := n) (s := s))
      clear h0
      go_enter Tryd.func15, Tryd.ntmps15
      go_wp2_with fail
      go_ret
      exact ⟨ret_bool (by rw [HV.out]), HW.out⟩
    · by_cases h2 : k = 2
      · subst h2
        have HV := Lib.hid (valid_str (n := n) (s := s))
        have HP := Lib.hid (rplain_any s hs)
        generalize plain s.data.toList = P at HV HP
        clear h0 h1
        cases hn : (n == 0)
        · rw [hn] at HV
          go_enter Tryd.func15, Tryd.ntmps15
          go_wp2_with fail
          go_ret
          exact ⟨ret_bool (by rw [HV.out]; rfl), HW.out⟩
        · rw [hn] at HV
          go_enter Tryd.func15, Tryd.ntmps15
          go_wp2_with fail
          refine (HP.out _).mono ?_; rintro e w1 ⟨rfl, rfl⟩
          go_wp2_with fail
          go_ret
          exact ⟨ret_bool (by rw [HV.out]; rfl), HW.out⟩
      · have HV := Lib.hid (valid_not (n := n) (s := s) h0 h1 h2)
        have b0 : (k == 0) = false := beq_eq_false_iff_ne.2 h0
        have b1 : (k == 1) = false := beq_eq_false_iff_ne.2 h1
        have b2 : (k == 2) = false := beq_eq_false_iff_ne.2 h2
        clear h0 h1 h2
        go_enter Tryd.func15, Tryd.ntmps15
        go_wp2_with fail
        go_ret
        exact ⟨ret_bool HV.out.symm, HW.out⟩

/-! ### Int, Str -/

theorem rint_any (n : Int) (w : World) :
    Calls Tryd.prog 17 #[.int .i64 n] w fun e w' => e = .returned (.agg #[.int .i64 1, .int .i64 n, .string ⟨#[]⟩]) ∧ Below w.heap.size w w' := by
  have HW := Lib.hid (below_box w (.cells #[.int .i64 1, .int .i64 n, .string ⟨#[]⟩] 23))
  go_enter Tryd.func17, Tryd.ntmps17
  go_wp2_with fail
  refine bodyPost_ret (v := .agg #[.int .i64 1, .int .i64 n, .string ⟨#[]⟩]) (by simp [results, Tryd.results17, go_sem]) rfl ⟨rfl, HW.out⟩
/-- what Str returns -/
def strV (s : ByteArray) : Value :=
  if plain s.data.toList then .tuple #[.agg #[.int .i64 2, .int .i64 0, .string s], .int .i64 0] else .tuple #[.agg #[.int .i64 0, .int .i64 0, .string ⟨#[]⟩], .int .i64 1]
theorem strV_yes {s : ByteArray} (h : plain s.data.toList = true) : strV s = .tuple #[.agg #[.int .i64 2, .int .i64 0, .string s], .int .i64 0] := by unfold strV; rw [h]; rfl
theorem strV_no {s : ByteArray} (h : plain s.data.toList = false) : strV s = .tuple #[.agg #[.int .i64 0, .int .i64 0, .string ⟨#[]⟩], .int .i64 1] := by unfold strV; rw [h]; rfl
set_option maxRecDepth 100000 in
theorem rstr_any (s : ByteArray) (hs : s.size ≤ 9223372036854775807) (w : World) :
    Calls Tryd.prog 13 #[.string s] w fun e w' => e = .returned (strV s) ∧ Below w.heap.size w w' := by
  have HP := Lib.hid (rplain_any s hs)
  have HY := Lib.hid (strV_yes (s := s))
  have HN := Lib.hid (strV_no (s := s))
  have HW := Lib.hid (fun x y z => below_box w (.cells #[.int .i64 x, .int .i64 y, .string z] 23))
  generalize plain s.data.toList = P at HP HY HN
  cases P
  · go_enter Tryd.func13, Tryd.ntmps13
    go_wp2_with fail
    refine (HP.out _).mono ?_; rintro e w1 ⟨rfl, rfl⟩
    go_wp2_with fail
    refine bodyPost_ret (v := .tuple #[.agg #[.int .i64 0, .int .i64 0, .string ⟨#[]⟩], .int .i64 1]) (by simp [results, Tryd.results13, go_sem]) rfl ⟨?_, HW.out _ _ _⟩
    rw [HN.out trivial]
  · go_enter Tryd.func13, Tryd.ntmps13
    go_wp2_with fail
    refine (HP.out _).mono ?_; rintro e w1 ⟨rfl, rfl⟩
    go_wp2_with fail
    refine bodyPost_ret (v := .tuple #[.agg #[.int .i64 2, .int .i64 0, .string s], .int .i64 0]) (by simp [results, Tryd.results13, go_sem]) rfl ⟨?_, HW.out _ _ _⟩
    rw [HY.out trivial]

/-! ### Compare -/

theorem less_bool (k n : Int) (s : ByteArray) (l m : Int) (t : ByteArray) : less ⟨k, n, s.data.toList⟩ ⟨l, m, t.data.toList⟩ = if (k != l) = true then decide (k < l) else if (n != m) = true then decide (n < m) else Op.bytesLess s.toList t.toList := by
  rw [lss_eq]
  refine bool_iff ?_
  rw [less_iff]
  simp only
  by_cases h1 : k = l
  · subst h1
    rw [if_neg (by simp)]
    by_cases h2 : n = m
    · subst h2
      rw [if_neg (by simp), decide_eq_true_iff]
      constructor
      · rintro (h | ⟨_, h | ⟨_, h⟩⟩)
        · omega
        · omega
        · exact h
      · intro h; exact Or.inr ⟨rfl, Or.inr ⟨rfl, h⟩⟩
    · rw [if_pos (by simpa using h2), decide_eq_true_iff]
      constructor
      · rintro (h | ⟨_, h | ⟨h, _⟩⟩)
        · omega
        · exact h
        · exact absurd h h2
      · intro h; exact Or.inr ⟨rfl, Or.inl h⟩
  · rw [if_pos (by simpa using h1), decide_eq_true_iff]
    constructor
    · rintro (h | ⟨h, _⟩)
      · exact h
      · exact absurd h h1
    · intro h; exact Or.inl h
set_option maxRecDepth 100000 in
theorem rless_any (k n : Int) (s : ByteArray) (l m : Int) (t : ByteArray) (w : World) :
    Calls Tryd.prog 35 #[.agg #[.int .i64 k, .int .i64 n, .string s], .agg #[.int .i64 l, .int .i64 m, .string t]] w fun e w' => e = .returned (.bool (less ⟨k, n, s.data.toList⟩ ⟨l, m, t.data.toList⟩)) ∧ Below w.heap.size w w' := by
  have HV := Lib.hid (less_bool k n s l m t)
  have HW := Lib.hid (below_box2 w (.cells #[.int .i64 k, .int .i64 n, .string s] 23) (.cells #[.int .i64 l, .int .i64 m, .string t] 23))
  cases h1 : (k != l)
  · cases h2 : (n != m)
    all_goals
      rw [h1, h2] at HV
      go_enter Tryd.func35, Tryd.ntmps35
      go_wp2_with fail
      go_ret
      exact ⟨ret_bool (by rw [HV.out]; rfl), HW.out⟩
  · rw [h1] at HV
    go_enter Tryd.func35, Tryd.ntmps35
    go_wp2_with fail
    go_ret
    exact ⟨ret_bool (by rw [HV.out]; rfl), HW.out⟩
set_option maxRecDepth 100000 in
theorem rcompare_any (k n : Int) (s : ByteArray) (l m : Int) (t : ByteArray) (w : World) :
    Calls Tryd.prog 19 #[.agg #[.int .i64 k, .int .i64 n, .string s], .agg #[.int .i64 l, .int .i64 m, .string t]] w fun e w' => e = .returned (.int .i64 (cmp ⟨k, n, s.data.toList⟩ ⟨l, m, t.data.toList⟩)) ∧ Below w.heap.size w w' := by
  have h1 := rless_any k n s l m t
  have h2 := rless_any l m t k n s
  have HV : Hid (cmp ⟨k, n, s.data.toList⟩ ⟨l, m, t.data.toList⟩ = if less ⟨k, n, s.data.toList⟩ ⟨l, m, t.data.toList⟩ then -1 else if less ⟨l, m, t.data.toList⟩ ⟨k, n, s.data.toList⟩ then 1 else 0) := rfl
  have HA := Lib.hid ((Has.box w k n s).alloc (by simp) (.cells #[.int .i64 l, .int .i64 m, .string t] 23))
  have HB := Lib.hid (Has.box2 w (.cells #[.int .i64 k, .int .i64 n, .string s] 23) l m t)
  have HW := Lib.hid (below_box2 w (.cells #[.int .i64 k, .int .i64 n, .string s] 23) (.cells #[.int .i64 l, .int .i64 m, .string t] 23))
  generalize less ⟨k, n, s.data.toList⟩ ⟨l, m, t.data.toList⟩ = A at h1 HV
  generalize less ⟨l, m, t.data.toList⟩ ⟨k, n, s.data.toList⟩ = B at h2 HV
  have H1 := Lib.hid h1
  have H2 := Lib.hid h2
  clear h1 h2
  cases A
  · go_enter Tryd.func19, Tryd.ntmps19
    go_wp2_with fail
    refine (H1.out _).mono ?_; rintro e w1 ⟨rfl, hb1⟩
    obtain ⟨a0, a1, a2⟩ := HA.out.below hb1 (by simp <;> omega)
    obtain ⟨c0, c1, c2⟩ := HB.out.below hb1 (by simp <;> omega)
    go_wp2_with fail
    refine (H2.out _).mono ?_; rintro e w2 ⟨rfl, hb2⟩
    cases B
    all_goals
      go_wp2_with fail
      go_ret
      exact ⟨ret_int (by rw [HV.out]; rfl), below_2 (below_2 HW.out hb1) hb2⟩
  · go_enter Tryd.func19, Tryd.ntmps19
    go_wp2_with fail
    refine (H1.out _).mono ?_; rintro e w1 ⟨rfl, hb1⟩
    go_wp2_with fail
    go_ret
    exact ⟨ret_int (by rw [HV.out]; rfl), below_2 HW.out hb1⟩
end Go.Proofs.YtcedndjpdgpdgaaDoor.V
