/-
  What the program's own unquoted, parseString and Parse return: contracts, one a function.
-/
import Derived.Test.YtcedndjpdgpdgaaDoorVOwnB
import Derived.Test.YtcedndjpdgpdgaaDoorParse
namespace Go.Proofs.YtcedndjpdgpdgaaDoor.V
open Go.RowKit
open Go.Lib (byteCells)

/-! ### the text between the double quotes -/

/-- o is what was read of d, in front of k, and the rest decides -/
def Rd (d o : ByteArray) (k : Nat) : Prop := un (d.data.toList ++ [34]) = (un (d.data.toList.drop k ++ [34])).map (o.data.toList ++ ·)
theorem Rd.start (d : ByteArray) : Rd d ⟨#[]⟩ 0 := by
  unfold Rd
  show _ = (un (d.data.toList ++ [34])).map (([] : List UInt8) ++ ·)
  cases un (d.data.toList ++ [34]) <;> rfl
theorem Rd.done {d o : ByteArray} (h : Rd d o d.size) : un (d.data.toList ++ [34]) = some o.data.toList := by
  unfold Rd at h
  rw [h, drop_out (Nat.lt_irrefl _), List.nil_append, un_end]
  simp
theorem Rd.none {d o : ByteArray} {k : Nat} (h : Rd d o k) (hu : un (d.data.toList.drop k ++ [34]) = .none) : un (d.data.toList ++ [34]) = .none := by
  unfold Rd at h
  rw [h, hu]; rfl
theorem Rd.next {d o x : ByteArray} {c : UInt8} {k j : Nat} (h : Rd d o k) (hx : x.data.toList = [c]) (hu : un (d.data.toList.drop k ++ [34]) = (un (d.data.toList.drop j ++ [34])).map (c :: ·)) : Rd d (o ++ x) j := by
  unfold Rd at *
  rw [h, hu, map_more hx]
theorem not_spec {c : UInt8} (h : spec c = false) : ¬ (c = 34 ∨ c = 92) := by
  rintro (rfl | rfl) <;> exact absurd h (by decide)
theorem is_spec {c : UInt8} (h : spec c = true) : c = 34 ∨ c = 92 := by
  rcases (spec_iff c).1 h with h | h
  · exact Or.inl (UInt8.toNat_inj.1 h)
  · exact Or.inr (UInt8.toNat_inj.1 h)
theorem spec_prt {c : UInt8} (h : spec c = true) : prt c = true := by
  rcases is_spec h with rfl | rfl <;> rfl
/-- a byte without a backslash -/
theorem rd_char {d o x : ByteArray} {k : Nat} (h : Rd d o k) (hk : k < d.size) (h92 : ¬ (d[k].toNat : Int) = 92) :
    (spec d[k] = true → un (d.data.toList ++ [34]) = none) ∧ (spec d[k] = false → (prt d[k] = false → un (d.data.toList ++ [34]) = none) ∧ (prt d[k] = true → x.data.toList = [d[k]] → Rd d (o ++ x) (k + 1))) := by
  have n92 : d[k] ≠ 92 := fun e => h92 (by rw [e]; rfl)
  have hne : d.data.toList.drop (k + 1) ++ [34] ≠ [] := by simp
  constructor
  · intro hs
    refine h.none ?_
    have e34 : d[k] = 34 := (is_spec hs).resolve_right n92
    rw [drop_at hk, e34, List.cons_append]
    cases hr : d.data.toList.drop (k + 1) ++ [34] with
    | nil => exact absurd hr hne
    | cons a r => exact un_more
  · intro hs
    have hn := not_spec hs
    rw [not_or] at hn
    have hu := un_plain hn.1 hn.2 hne
    constructor
    · intro hp
      refine h.none ?_
      rw [drop_at hk, List.cons_append, hu, hp]; rfl
    · intro hp hx
      refine h.next hx ?_
      rw [drop_at hk, List.cons_append, hu, if_pos hp]
/-- a byte behind a backslash -/
theorem rd_esc {d o x : ByteArray} {k : Nat} (h : Rd d o k) (hk : k < d.size) (h92 : (d[k].toNat : Int) = 92) (hj : k + 1 < d.size) :
    (spec d[k + 1] = false → un (d.data.toList ++ [34]) = none) ∧ (spec d[k + 1] = true → x.data.toList = [d[k + 1]] → Rd d (o ++ x) (k + 2)) := by
  have e92 : d[k] = 92 := byte_is (m := 92) (by decide) h92
  constructor
  · intro hs
    refine h.none ?_
    rw [drop_at hk, e92, drop_at hj, List.cons_append, List.cons_append]
    exact un_esc_bad (not_spec hs)
  · intro hs hx
    refine h.next hx ?_
    rw [drop_at hk, e92, drop_at hj, List.cons_append, List.cons_append]
    exact un_esc (is_spec hs)
/-- a backslash at the end -/
theorem rd_cut {d o : ByteArray} {k : Nat} (h : Rd d o k) (hk : k < d.size) (h92 : (d[k].toNat : Int) = 92) (hj : k + 1 = d.size) : un (d.data.toList ++ [34]) = none := by
  have e92 : d[k] = 92 := byte_is (m := 92) (by decide) h92
  refine h.none ?_
  rw [drop_at hk, e92, drop_out (by omega)]
  show un [92, 34] = none
  rw [un_esc (Or.inl rfl)]
  rfl
/-- what unquoted returns for a text behind its first double quote -/
def unT (l : List UInt8) : Value := match un l with
  | none => .tuple #[.string ⟨#[]⟩, .bool false]
  | some t => .tuple #[.string ⟨t.toArray⟩, .bool true]
theorem unT_none {l : List UInt8} (h : un l = none) : unT l = .tuple #[.string ⟨#[]⟩, .bool false] := by unfold unT; rw [h]
theorem unT_some {l : List UInt8} {o : ByteArray} (h : un l = some o.data.toList) : unT l = .tuple #[.string o, .bool true] := by unfold unT; rw [h]
theorem un_last {l t : List UInt8} (h : un l = some t) : [34].isSuffixOf l = true := by
  have := (un_back _ l t (Nat.le_refl _) h).1
  rw [List.isSuffixOf_iff_suffix, this]
  exact List.suffix_append _ _
/-- the text without its first double quote -/
theorem cut_head {s : ByteArray} (hp : 0 < s.size) (h0 : (s[0].toNat : Int) = 34) (w : World) :
    Calls Tryd.prog 67 #[.string s, .string ⟨#[34]⟩] w fun e w' => e = .returned (.tuple #[.string ⟨(s.data.toList.drop 1).toArray⟩, .bool true]) ∧ w' = w := by
  have hl : s.data.toList = 34 :: s.data.toList.drop 1 := by
    have := drop_at (s := s) (i := 0) hp
    rw [byte_is (m := 34) (by decide) h0] at this
    exact this
  have h1 : Lib.hasPrefix s.data.toList [34] = true := by
    unfold Lib.hasPrefix
    rw [hl]; rfl
  have h2 : Lib.trimPrefix s.data.toList [34] = s.data.toList.drop 1 := by
    unfold Lib.trimPrefix
    rw [h1]; rfl
  refine (Tryd.strings_CutPrefix s ⟨#[34]⟩ w).mono fun e w' h => ⟨?_, h.2⟩
  rw [h.1]
  show Ending.returned (.tuple #[.string ⟨(Lib.trimPrefix s.data.toList [34]).toArray⟩, .bool (Lib.hasPrefix s.data.toList [34])]) = _
  rw [h1, h2]
/-- the text without its last double quote -/
theorem cut_tail {b : ByteArray} (hb : b.size ≤ 9223372036854775807) (w : World) :
    Calls Tryd.prog 81 #[.string b, .string ⟨#[34]⟩] w fun e w' => e = .returned (.tuple #[.string ⟨(Lib.trimSuffix b.data.toList [34]).toArray⟩, .bool (Lib.hasSuffix b.data.toList [34])]) ∧ w' = w :=
  Tryd.strings_CutSuffix b ⟨#[34]⟩ w hb
theorem tail_parts {l : List UInt8} (h : Lib.hasSuffix l [34] = true) : l = Lib.trimSuffix l [34] ++ [34] := by
  unfold Lib.trimSuffix
  rw [h, if_pos rfl]
  unfold Lib.hasSuffix at h
  rw [List.isSuffixOf_iff_suffix] at h
  obtain ⟨m, hm⟩ := h
  rw [← hm]
  simp
theorem nil_back (w : World) : (convert 64 9 (.slice none 0 0)).run Tryd.prog w = .ok (.string ⟨#[]⟩) w := by kernel_rfl
/-- a row that the call owns reads as a text, also where it is nil -/
theorem row_text {w : World} {B : Nat} {v : Value} {o : ByteArray} (h : w.ownsRow B 5 1 v o.size (byteCells o.data.toList)) :
    ((v = .slice none 0 0 ∧ o.size = 0) ∨ ∃ g cap, v = .slice (some ⟨g, 0, none⟩) o.size cap) ∧ (convert 64 9 v).run Tryd.prog w = .ok (.string o) w := by
  rcases Joins.ownsRow_forms h with ⟨rfl, h0⟩ | ⟨g, cap, rfl⟩
  · refine ⟨Or.inl ⟨rfl, h0⟩, ?_⟩
    have : o = ⟨#[]⟩ := by
      apply bytes_eq
      rw [size_len] at h0
      exact List.eq_nil_of_length_eq_zero h0
    rw [this]
    exact nil_back w
  · exact ⟨Or.inr ⟨g, cap, rfl⟩, W.bytes_back h (size_len o).symm⟩
theorem row_more {w : World} {B : Nat} {v : Value} {o d : ByteArray} {c : UInt8} {z : Int} (hd : d.data.toList = [c]) (hz : (c.toNat : Int) = z) (h : w.ownsRow B 5 1 v (o.size + 1) (byteCells o.data.toList ++ [.int .u8 z])) :
    w.ownsRow B 5 1 v (o ++ d).size (byteCells (o ++ d).data.toList) := by
  subst hz
  rw [size_len (o ++ d), append_list, hd, List.length_append, ← size_len]
  simpa [byteCells] using h
theorem ret_val {a b : Value} (h : a = b) : Ending.returned a = Ending.returned b := by rw [h]
set_option maxHeartbeats 4000000 in
set_option maxRecDepth 100000 in
/-- unquoted, of a text between double quotes -/
theorem ounq_in (s b d : ByteArray) (hd : d.size ≤ 1000000) (V : Value) (HV : Hid (unT (d.data.toList ++ [34]) = V)) (w : World)
    (h1 : ∀ w, Calls Tryd.prog 67 #[.string s, .string ⟨#[34]⟩] w fun e w' => e = .returned (.tuple #[.string b, .bool true]) ∧ w' = w)
    (h2 : ∀ w, Calls Tryd.prog 81 #[.string b, .string ⟨#[34]⟩] w fun e w' => e = .returned (.tuple #[.string d, .bool true]) ∧ w' = w) :
    Calls Tryd.prog 66 #[.string s] w fun e w' => e = .returned V ∧ Below w.heap.size w w' := by
  obtain ⟨i0, hi8, hz0, hz1, hz2⟩ := info_parts info8
  have HS := Lib.hid ospec_any
  have HP := Lib.hid opb_any
  have H1 := Lib.hid h1
  have H2 := Lib.hid h2
  clear h1 h2
  go_enter Tryd.func66, Tryd.ntmps66
  go_wp2_with (first
    | (go_at_call 67; refine (H1.out _).mono ?_; rintro e w1 ⟨rfl, rfl⟩)
    | (go_at_call 81; refine (H2.out _).mono ?_; rintro e w2 ⟨rfl, rfl⟩))
  go_loopw [7, 8] (fun vo vi wr => ∃ (k : Nat) (o : ByteArray), k ≤ d.size ∧ vi = .int .i64 k ∧ o.size ≤ k ∧ Hid (Rd d o k) ∧ Hid (wr.ownsRow w2.heap.size 5 1 vo o.size (byteCells o.data.toList)) ∧ Below w2.heap.size w2 wr) (fun _ vi _ => d.size - (intOf vi).toNat)
  case atStart => exact ⟨0, ⟨#[]⟩, Nat.zero_le _, rfl, Nat.le_refl _, Rd.start d, World.ownsRow_nil _ _ _ _, Below.refl _ _⟩
  case round =>
    obtain ⟨k, o, hk, rfl, hz, HR, HO, hb⟩ := hrel
    have hzr := hb.size
    by_cases hlt : k < d.size
    · by_cases h92 : (d[k].toNat : Int) = 92
      · by_cases hj : k + 1 < d.size
        · have bl : (((k : Int) + 1) == (d.size : Int)) = false := beq_eq_false_iff_ne.2 (by omega)
          have HX := Lib.hid (HS.out d[k + 1])
          have HY := Lib.hid (HP.out d[k + 1])
          obtain ⟨n1, n2⟩ := rd_esc (x := ⟨#[d[k + 1]]⟩) HR.out hlt h92 hj
          cases hs : spec d[k + 1]
          · have HE := Lib.hid (unT_none (n1 hs))
            rw [hs] at HX
            clear n1 n2 hs
            go_wp2_with fail
            refine (HX.out _).mono ?_; rintro e w3 ⟨rfl, he⟩; obtain rfl : wr = w3 := he.symm
            go_wp2_with fail
            go_ret2
            exact ⟨ret_val (HE.out.symm.trans HV.out), hb⟩
          · have HN := Lib.hid (n2 hs rfl)
            rw [hs] at HX
            rw [spec_prt hs] at HY
            clear n1 n2 hs
            go_wp2_with fail
            refine (HX.out _).mono ?_; rintro e w3 ⟨rfl, he⟩; obtain rfl : wr = w3 := he.symm
            go_wp2_with fail
            refine (HY.out _).mono ?_; rintro e w3 ⟨rfl, he⟩; obtain rfl : wr = w3 := he.symm
            go_wp2_with (at_builtin; refine wpList_append_own _ rfl _ _ 64 rfl w2.heap.size 5 i0 (.int .u8 0) 1 1 Tryd.underlying64 hi8 hz0 hz1 hz2 rfl (by decide) _ _ _ rfl (HO.out.alloc _) ⟨wr.heap.size, 0, none⟩ 1 1 [_] rfl rfl (cell_one_new _ _ _) (by intro u hu; simp at hu; subst hu; rfl) (by unfold maxLen; omega) (by omega) (by simp; omega) ?_; intro v1 w3 hown1 hgrow1 _; have hb2 := below_app hb (by omega) hgrow1 (own_ge HO.out))
            all_goals first
              | (exfalso; omega)
              | (go_roundw
                 case rel => exact ⟨k + 2, o ++ ⟨#[d[k + 1]]⟩, by omega, by go_num, (by rw [ByteArray.size_append]; show o.size + 1 ≤ _; omega), HN, row_more rfl rfl hown1, hb2⟩
                 case measure => simp [intOf]; omega)
        · have HE := Lib.hid (unT_none (rd_cut HR.out hlt h92 (by omega)))
          have bl : (((k : Int) + 1) == (d.size : Int)) = true := beq_iff_eq.2 (by omega)
          go_wp2_with fail
          go_ret2
          exact ⟨ret_val (HE.out.symm.trans HV.out), hb⟩
      · have b92 : ((d[k].toNat : Int) == 92) = false := beq_eq_false_iff_ne.2 h92
        have bl : ((k : Int) == (d.size : Int)) = false := beq_eq_false_iff_ne.2 (by omega)
        have HX := Lib.hid (HS.out d[k])
        have HY := Lib.hid (HP.out d[k])
        obtain ⟨n1, n2⟩ := rd_char (x := ⟨#[d[k]]⟩) HR.out hlt h92
        cases hs : spec d[k]
        · obtain ⟨n3, n4⟩ := n2 hs
          cases hp : prt d[k]
          · have HE := Lib.hid (unT_none (n3 hp))
            rw [hs] at HX
            rw [hp] at HY
            clear n1 n2 n3 n4 hs hp
            go_wp2_with fail
            refine (HX.out _).mono ?_; rintro e w3 ⟨rfl, he⟩; obtain rfl : wr = w3 := he.symm
            go_wp2_with fail
            refine (HY.out _).mono ?_; rintro e w3 ⟨rfl, he⟩; obtain rfl : wr = w3 := he.symm
            go_wp2_with fail
            go_ret2
            exact ⟨ret_val (HE.out.symm.trans HV.out), hb⟩
          · have HN := Lib.hid (n4 hp rfl)
            rw [hs] at HX
            rw [hp] at HY
            clear n1 n2 n3 n4 hs hp
            go_wp2_with fail
            refine (HX.out _).mono ?_; rintro e w3 ⟨rfl, he⟩; obtain rfl : wr = w3 := he.symm
            go_wp2_with fail
            refine (HY.out _).mono ?_; rintro e w3 ⟨rfl, he⟩; obtain rfl : wr = w3 := he.symm
            go_wp2_with (at_builtin; refine wpList_append_own _ rfl _ _ 64 rfl w2.heap.size 5 i0 (.int .u8 0) 1 1 Tryd.underlying64 hi8 hz0 hz1 hz2 rfl (by decide) _ _ _ rfl (HO.out.alloc _) ⟨wr.heap.size, 0, none⟩ 1 1 [_] rfl rfl (cell_one_new _ _ _) (by intro u hu; simp at hu; subst hu; rfl) (by unfold maxLen; omega) (by omega) (by simp; omega) ?_; intro v1 w3 hown1 hgrow1 _; have hb2 := below_app hb (by omega) hgrow1 (own_ge HO.out))
            all_goals first
              | (exfalso; omega)
              | (go_roundw
                 case rel => exact ⟨k + 1, o ++ ⟨#[d[k]]⟩, by omega, by go_num, (by rw [ByteArray.size_append]; show o.size + 1 ≤ _; omega), HN, row_more rfl rfl hown1, hb2⟩
                 case measure => simp [intOf]; omega)
        · have HE := Lib.hid (unT_none (n1 hs))
          rw [hs] at HX
          clear n1 n2 hs
          go_wp2_with fail
          refine (HX.out _).mono ?_; rintro e w3 ⟨rfl, he⟩; obtain rfl : wr = w3 := he.symm
          go_wp2_with fail
          go_ret2
          exact ⟨ret_val (HE.out.symm.trans HV.out), hb⟩
    · obtain rfl : d.size = k := by omega
      have HE := Lib.hid (unT_some HR.out.done)
      obtain ⟨hf, hconv⟩ := row_text HO.out
      rcases hf with ⟨rfl, _⟩ | ⟨g, cap, rfl⟩
      all_goals
        go_wp2_with fail
        go_ret2
        exact ⟨ret_val (HE.out.symm.trans HV.out), hb⟩
set_option maxHeartbeats 1000000 in
set_option maxRecDepth 100000 in
/-- unquoted, of a text without a last double quote -/
theorem ounq_out (s b d : ByteArray) (w : World)
    (h1 : ∀ w, Calls Tryd.prog 67 #[.string s, .string ⟨#[34]⟩] w fun e w' => e = .returned (.tuple #[.string b, .bool true]) ∧ w' = w)
    (h2 : ∀ w, Calls Tryd.prog 81 #[.string b, .string ⟨#[34]⟩] w fun e w' => e = .returned (.tuple #[.string d, .bool false]) ∧ w' = w) :
    Calls Tryd.prog 66 #[.string s] w fun e w' => e = .returned (.tuple #[.string ⟨#[]⟩, .bool false]) ∧ Below w.heap.size w w' := by
  have H1 := Lib.hid h1
  have H2 := Lib.hid h2
  clear h1 h2
  go_enter Tryd.func66, Tryd.ntmps66
  go_wp2_with (first
    | (go_at_call 67; refine (H1.out _).mono ?_; rintro e w1 ⟨rfl, rfl⟩)
    | (go_at_call 81; refine (H2.out _).mono ?_; rintro e w2 ⟨rfl, rfl⟩))
  go_ret2
  exact ⟨rfl, Below.refl _ _⟩
theorem ounq_any (s : ByteArray) (hs : s.size ≤ 1000000) (hp : 0 < s.size) (h0 : (s[0].toNat : Int) = 34) (w : World) :
    Calls Tryd.prog 66 #[.string s] w fun e w' => e = .returned (unT (s.data.toList.drop 1)) ∧ Below w.heap.size w w' := by
  have h1 := cut_head hp h0
  have hbs : (ByteArray.mk (s.data.toList.drop 1).toArray).size ≤ s.size := by
    rw [size_len, size_len]
    show (s.data.toList.drop 1).length ≤ _
    rw [List.length_drop]; omega
  have h2 := cut_tail (b := ⟨(s.data.toList.drop 1).toArray⟩) (by omega)
  have e2 : (ByteArray.mk (s.data.toList.drop 1).toArray).data.toList = s.data.toList.drop 1 := rfl
  rw [e2] at h2
  cases hq : Lib.hasSuffix (s.data.toList.drop 1) [34]
  · rw [hq] at h2
    have hn : un (s.data.toList.drop 1) = none := by
      cases hu : un (s.data.toList.drop 1) with
      | none => rfl
      | some t =>
        have := un_last hu
        unfold Lib.hasSuffix at hq
        rw [this] at hq; cases hq
    rw [unT_none hn]
    exact ounq_out s _ _ w h1 h2
  · rw [hq] at h2
    have hl := tail_parts hq
    refine ounq_in s _ ⟨(Lib.trimSuffix (s.data.toList.drop 1) [34]).toArray⟩ ?_ _ ?_ w h1 h2
    · have h3 : (s.data.toList.drop 1).length = (Lib.trimSuffix (s.data.toList.drop 1) [34]).length + 1 := by
        conv => lhs; rw [hl]
        simp
      rw [size_len] at hbs
      rw [size_len]
      show (Lib.trimSuffix (s.data.toList.drop 1) [34]).length ≤ _
      have h4 : (ByteArray.mk (s.data.toList.drop 1).toArray).data.toList.length = (s.data.toList.drop 1).length := rfl
      omega
    · show unT (Lib.trimSuffix (s.data.toList.drop 1) [34] ++ [34]) = _
      rw [← hl]

/-! ### parseString -/

theorem pair_unq {s : ByteArray} (hp : 0 < s.size) (h : (s[0].toNat : Int) = 34) :
    (un (s.data.toList.drop 1) = none → pairV (ps s.data.toList) = .tuple #[.agg #[.int .i64 0, .int .i64 0, .string ⟨#[]⟩], .int .i64 5]) ∧
    (∀ o : ByteArray, un (s.data.toList.drop 1) = some o.data.toList → (¬ o.size ≤ 64 → pairV (ps s.data.toList) = .tuple #[.agg #[.int .i64 0, .int .i64 0, .string ⟨#[]⟩], .int .i64 2]) ∧
      (o.size ≤ 64 → pairV (ps s.data.toList) = .tuple #[.agg #[.int .i64 2, .int .i64 0, .string o], .int .i64 0])) := by
  constructor
  · intro hu
    obtain ⟨h1, h2⟩ := unq_none hu
    rw [ps_unq hp h, h2]; rfl
  · intro o hu
    constructor
    · intro hl
      obtain ⟨h1, h2⟩ := unq_long hu hl
      rw [ps_unq hp h, h2]; rfl
    · intro hl
      obtain ⟨h1, h2⟩ := unq_some hu hl
      rw [ps_unq hp h, h2, h1]; rfl
set_option maxHeartbeats 1000000 in
set_option maxRecDepth 100000 in
theorem opstr_any (s : ByteArray) (hs : s.size ≤ 1000000) (hp : 0 < s.size) (h0 : (s[0].toNat : Int) = 34) (w : World) :
    Calls Tryd.prog 41 #[.string s] w fun e w' => e = .returned (pairV (ps s.data.toList)) ∧ Below w.heap.size w w' := by
  obtain ⟨p1, p2⟩ := pair_unq hp h0
  have hU := ounq_any s hs hp h0
  have HM := Lib.hid (Mine.new w 0 0 ⟨#[]⟩)
  have HW := Lib.hid (below_box w (.cells #[.int .i64 0, .int .i64 0, .string ⟨#[]⟩] 23))
  clear hp h0
  cases hu : un (s.data.toList.drop 1) with
  | none =>
    have HV := Lib.hid (p1 hu)
    rw [unT_none hu] at hU
    have HU := Lib.hid hU
    generalize pairV (ps s.data.toList) = V at HV
    clear hU hu p1 p2
    go_enter Tryd.func41, Tryd.ntmps41
    go_wp2_with fail
    refine (HU.out _).mono ?_; rintro e w1 ⟨rfl, hb1⟩
    obtain ⟨⟨x0, x1, x2, c0, c1, c2⟩, d0, d1, d2⟩ := HM.out.below hb1 (by simp)
    go_wp2_with fail
    obtain ⟨q0, q1, q2⟩ := stored ⟨c0, c1, c2⟩ 0 0 ⟨#[]⟩
    refine bodyPost_ret (v := .tuple #[.agg #[.int .i64 0, .int .i64 0, .string ⟨#[]⟩], .int .i64 5]) (by simp [results, Tryd.results41, go_sem, q0, q1, q2]) rfl ⟨?_, stored_below (below_2 HW.out hb1) (Nat.le_refl _) _ _ _⟩
    rw [HV.out]
  | some t =>
    obtain ⟨o, ho⟩ : ∃ o : ByteArray, o.data.toList = t := ⟨⟨t.toArray⟩, rfl⟩
    subst ho
    rw [unT_some hu] at hU
    have HU := Lib.hid hU
    obtain ⟨p3, p4⟩ := p2 o hu
    have HN := Lib.hid (onew_any o)
    by_cases hl : o.size ≤ 64
    · have HV := Lib.hid (p4 hl)
      generalize pairV (ps s.data.toList) = V at HV
      clear hU hu p1 p2 p3 p4
      go_enter Tryd.func41, Tryd.ntmps41
      go_wp2_with fail
      refine (HU.out _).mono ?_; rintro e w1 ⟨rfl, hb1⟩
      have hz1 := hb1.size
      simp at hz1
      go_wp2_with fail
      refine (HN.out _).mono ?_; rintro e w2 ⟨rfl, hb2⟩
      obtain ⟨⟨x0, x1, x2, c0, c1, c2⟩, d0, d1, d2⟩ := (HM.out.below hb1 (by simp)).below hb2 (by omega)
      go_wp2_with fail
      obtain ⟨q0, q1, q2⟩ := stored ⟨c0, c1, c2⟩ 2 0 o
      refine bodyPost_ret (v := .tuple #[.agg #[.int .i64 2, .int .i64 0, .string o], .int .i64 0]) (by simp [results, Tryd.results41, go_sem, q0, q1, q2]) rfl ⟨?_, stored_below (below_2 (below_2 HW.out hb1) hb2) (Nat.le_refl _) _ _ _⟩
      rw [HV.out]
    · have HV := Lib.hid (p3 hl)
      generalize pairV (ps s.data.toList) = V at HV
      clear hU hu p1 p2 p3 p4
      go_enter Tryd.func41, Tryd.ntmps41
      go_wp2_with fail
      refine (HU.out _).mono ?_; rintro e w1 ⟨rfl, hb1⟩
      obtain ⟨⟨x0, x1, x2, c0, c1, c2⟩, d0, d1, d2⟩ := HM.out.below hb1 (by simp)
      go_wp2_with fail
      obtain ⟨q0, q1, q2⟩ := stored ⟨c0, c1, c2⟩ 0 0 ⟨#[]⟩
      refine bodyPost_ret (v := .tuple #[.agg #[.int .i64 0, .int .i64 0, .string ⟨#[]⟩], .int .i64 2]) (by simp [results, Tryd.results41, go_sem, q0, q1, q2]) rfl ⟨?_, stored_below (below_2 HW.out hb1) (Nat.le_refl _) _ _ _⟩
      rw [HV.out]

/-! ### Parse -/

theorem has_quote {s : ByteArray} (w : World) :
    Calls Tryd.prog 40 #[.string s, .string ⟨#[34]⟩] w fun e w' => e = .returned (.bool (Lib.hasPrefix s.data.toList [34])) ∧ w' = w := Tryd.strings_HasPrefix s ⟨#[34]⟩ w
theorem quote_yes {s : ByteArray} (h : Lib.hasPrefix s.data.toList [34] = true) : ∃ hp : 0 < s.size, (s[0].toNat : Int) = 34 := by
  unfold Lib.hasPrefix at h
  rw [List.isPrefixOf_iff_prefix] at h
  obtain ⟨r, hr⟩ := h
  have hp : 0 < s.size := by rw [size_len, ← hr]; simp
  refine ⟨hp, ?_⟩
  have h1 := drop_at (s := s) (i := 0) hp
  rw [List.drop_zero, ← hr] at h1
  injection h1 with h1 _
  rw [← h1]; rfl
theorem quote_no {s : ByteArray} (h : Lib.hasPrefix s.data.toList [34] = false) (hp : 0 < s.size) : ¬ (s[0].toNat : Int) = 34 := by
  intro h0
  have hl : s.data.toList = 34 :: s.data.toList.drop 1 := by
    have := drop_at (s := s) (i := 0) hp
    rw [byte_is (m := 34) (by decide) h0] at this
    exact this
  have h1 : Lib.hasPrefix s.data.toList [34] = true := by
    unfold Lib.hasPrefix
    rw [hl]; rfl
  rw [h1] at h; cases h
set_option maxHeartbeats 1000000 in
set_option maxRecDepth 100000 in
theorem ops_any (s : ByteArray) (hs : s.size ≤ 1000000) (w : World) :
    Calls Tryd.prog 22 #[.string s] w fun e w' => e = .returned (pairV (ps s.data.toList)) ∧ Below w.heap.size w w' := by
  have HM := Lib.hid (Mine.new w 0 0 ⟨#[]⟩)
  have HW := Lib.hid (fun x y z => below_box w (.cells #[.int .i64 x, .int .i64 y, .string z] 23))
  by_cases hn : s.data.toList = nilText
  · have hq : (s.toList == [110, 105, 108]) = true := by rw [nil_eq]; exact decide_eq_true hn
    have HV := Lib.hid (ps_is_nil hn)
    generalize pairV (ps s.data.toList) = V at HV
    clear hn
    go_enter Tryd.func22, Tryd.ntmps22
    go_wp2_with fail
    refine bodyPost_ret (v := .tuple #[.agg #[.int .i64 0, .int .i64 0, .string ⟨#[]⟩], .int .i64 0]) (by simp [results, Tryd.results22, go_sem]) rfl ⟨?_, HW.out _ _ _⟩
    rw [HV.out]
  · have hq : (s.toList == [110, 105, 108]) = false := by rw [nil_eq]; exact decide_eq_false hn
    have hH := fun w => has_quote (s := s) w
    cases hqt : Lib.hasPrefix s.data.toList [34]
    · have HV := Lib.hid (ps_other hn (quote_no hqt))
      rw [hqt] at hH
      have HH := Lib.hid hH
      have HP := Lib.hid (fun w => parse_any s w (by omega))
      have HI := Lib.hid (oint_any (pV s.data.toList))
      generalize pairV (ps s.data.toList) = V at HV
      generalize pV s.data.toList = x at HV HP HI
      clear hn hqt hH
      by_cases he : pE s.data.toList = 0
      · generalize pE s.data.toList = E at HV HP he
        subst he
        go_enter Tryd.func22, Tryd.ntmps22
        go_wp2_with fail
        refine (HH.out _).mono ?_; rintro e w1 ⟨rfl, rfl⟩
        go_wp2_with fail
        refine (HP.out _).mono ?_; rintro e w1 ⟨rfl, rfl⟩
        go_wp2_with fail
        refine (HI.out _).mono ?_; rintro e w2 ⟨rfl, hb2⟩
        obtain ⟨⟨x0, x1, x2, c0, c1, c2⟩, d0, d1, d2⟩ := HM.out.below hb2 (by simp)
        go_wp2_with fail
        obtain ⟨q0, q1, q2⟩ := stored ⟨c0, c1, c2⟩ 1 x ⟨#[]⟩
        refine bodyPost_ret (v := .tuple #[.agg #[.int .i64 1, .int .i64 x, .string ⟨#[]⟩], .int .i64 0]) (by simp [results, Tryd.results22, go_sem, q0, q1, q2]) rfl ⟨?_, stored_below (below_2 (HW.out _ _ _) hb2) (Nat.le_refl _) _ _ _⟩
        rw [HV.out, if_pos trivial]
      · have HN := Lib.hid he
        have bE : (pE s.data.toList != 0) = true := bne_iff_ne.2 he
        clear he
        generalize pE s.data.toList = E at HV HP HN bE
        go_enter Tryd.func22, Tryd.ntmps22
        go_wp2_with fail
        refine (HH.out _).mono ?_; rintro e w1 ⟨rfl, rfl⟩
        go_wp2_with fail
        refine (HP.out _).mono ?_; rintro e w1 ⟨rfl, rfl⟩
        go_wp2_with fail
        refine bodyPost_ret (v := .tuple #[.agg #[.int .i64 0, .int .i64 0, .string ⟨#[]⟩], .int .i64 E]) (by simp [results, Tryd.results22, go_sem]) rfl ⟨?_, HW.out _ _ _⟩
        rw [HV.out, if_neg HN.out]
    · obtain ⟨hp, h34⟩ := quote_yes hqt
      rw [hqt] at hH
      have HH := Lib.hid hH
      have HU := Lib.hid (opstr_any s hs hp h34)
      have hV : ∃ k n t E, pairV (ps s.data.toList) = .tuple #[.agg #[.int .i64 k, .int .i64 n, .string t], .int .i64 E] := ⟨_, _, _, _, rfl⟩
      obtain ⟨k, n, t, E, hV⟩ := hV
      rw [hV] at HU
      have HV := Lib.hid hV
      generalize pairV (ps s.data.toList) = V at HV
      clear hn hqt hH h34 hV
      go_enter Tryd.func22, Tryd.ntmps22
      go_wp2_with fail
      refine (HH.out _).mono ?_; rintro e w1 ⟨rfl, rfl⟩
      go_wp2_with fail
      refine (HU.out _).mono ?_; rintro e w2 ⟨rfl, hb2⟩
      obtain ⟨⟨x0, x1, x2, c0, c1, c2⟩, d0, d1, d2⟩ := HM.out.below hb2 (by simp)
      go_wp2_with fail
      obtain ⟨q0, q1, q2⟩ := stored ⟨c0, c1, c2⟩ k n t
      refine bodyPost_ret (v := .tuple #[.agg #[.int .i64 k, .int .i64 n, .string t], .int .i64 E]) (by simp [results, Tryd.results22, go_sem, q0, q1, q2]) rfl ⟨?_, stored_below (below_2 (HW.out _ _ _) hb2) (Nat.le_refl _) _ _ _⟩
      rw [HV.out]
end Go.Proofs.YtcedndjpdgpdgaaDoor.V
