/-
  The law on round trips: what its calls return, put into the walk.
-/
import Derived.Test.YtigimnccclaiiaaRound
namespace Go.Proofs.Ytigimnccclaiiaa
open Go.RowKit
open Go.Lib (uvarint zigzag unzigzag)

/-- A truth value behind other bytes. -/
theorem bool_at (pre rest : List UInt8) (b : Bool) :
    bV (pre ++ (boolText b ++ rest)) pre.length = b ∧ bN (pre ++ (boolText b ++ rest)) pre.length = (pre.length : Int) + 1 ∧ bE (pre ++ (boolText b ++ rest)) pre.length = 0 := by
  have ho : outside (pre ++ (boolText b ++ rest)) pre.length = false := in_false (by simp)
  have hf : from_ (pre ++ (boolText b ++ rest)) pre.length = boolText b ++ rest := by
    unfold from_
    rw [Int.toNat_natCast, List.drop_left]
  have he : bE (pre ++ (boolText b ++ rest)) pre.length = 0 := by
    unfold bE
    rw [ho, hf]
    cases b <;> rfl
  refine ⟨?_, by unfold bN; rw [he]; rfl, he⟩
  unfold bV
  rw [ho, hf]
  cases b <;> rfl
theorem boolText_length (b : Bool) : (boolText b).length = 1 := by cases b <;> rfl
theorem tE_three (l : List UInt8) : tE l 0 = 0 ∨ tE l 0 = 5 ∨ tE l 0 = 6 := by
  rw [(t_zero l).2.1]
  have := du_errs l 0 0
  omega
theorem bE_three (l : List UInt8) : bE l 0 = 0 ∨ bE l 0 = 5 ∨ bE l 0 = 6 := by
  have ho : outside l 0 = false := in_false (a := 0) (Nat.zero_le _)
  unfold bE
  rw [ho]
  cases (from_ l 0).head? with
  | none => exact Or.inr (Or.inr rfl)
  | some b =>
    by_cases h : 1 < b.toNat
    · exact Or.inr (Or.inl (by simp [h]))
    · exact Or.inl (by simp [h])
theorem xE_four (l : List UInt8) (m : Int) : xE l 0 m = 0 ∨ xE l 0 m = 2 ∨ xE l 0 m = 5 ∨ xE l 0 m = 6 := by
  by_cases h : tE l 0 = 0
  · by_cases h2 : m < 0 ∨ m < tV l 0
    · exact Or.inr (Or.inl (xE_limit h h2))
    · by_cases h3 : (l.length : Int) - tN l 0 < tV l 0
      · exact Or.inr (Or.inr (Or.inr (xE_short h h2 h3)))
      · exact Or.inl (xE_ok h h2 h3)
  · rw [xE_t m h]
    have := tE_three l
    omega
/-- What TakeBool accepts at the start is the encoding of its value. -/
theorem accepted_bool {s : ByteArray} (h : bE s.data.toList 0 = 0) : bN s.data.toList 0 = 1 ∧ 0 < s.size ∧ boolText (bV s.data.toList 0) = s.data.toList.take 1 := by
  by_cases hs : 0 < s.size
  · by_cases hone : 1 < s[0].toNat
    · have := (b_bad hs hone).2.2
      change bE s.data.toList 0 = 5 at this
      omega
    · have hb := b_ok hs hone
      change bV s.data.toList 0 = _ ∧ bN s.data.toList 0 = _ ∧ bE s.data.toList 0 = 0 at hb
      refine ⟨hb.2.1, hs, ?_⟩
      have hl : s.data.toList.take 1 = [s[0]] := by
        have := drop_cons hs
        rw [List.drop_zero] at this
        rw [this]; rfl
      rw [hl, hb.1]
      cases hq : ((s[0].toNat : Int) == 1)
      · have h1 := beq_eq_false_iff_ne.1 hq
        show ([0] : List UInt8) = [s[0]]
        have : s[0] = 0 := UInt8.toNat_inj.1 (by show s[0].toNat = 0; omega)
        rw [this]
      · have h1 := beq_iff_eq.1 hq
        show ([1] : List UInt8) = [s[0]]
        have : s[0] = 1 := UInt8.toNat_inj.1 (by show s[0].toNat = 1; omega)
        rw [this]
  · have := b_end (l := s.data.toList) (a := 0) (by rw [← size_len]; omega)
    change _ ∧ _ ∧ bE s.data.toList 0 = 6 at this
    omega
theorem mk_upto {s : ByteArray} {l : List UInt8} {c : Nat} (h : l = s.data.toList.take c) : ByteArray.mk l.toArray = s.extract 0 c := by
  refine WideShapes.bytes_inj ?_
  rw [upto_list, h]
theorem slice_one (s : ByteArray) (h : 0 < s.size) {d : ByteArray} (hd : s.extract 0 1 = d) (W : World) :
    (Instr.slice 9 (.string s) none (some (.int .i64 1)) none).run Try.prog W = .ok (.string d) W :=
  slice_upto s 1 (by omega) hd W
set_option maxRecDepth 100000 in
theorem trips_walk (u : Nat) (hu : u < 18446744073709551616) (n : Int) (n0 : -9223372036854775808 ≤ n) (n1 : n ≤ 9223372036854775807) (s : ByteArray) (hs : s.size ≤ 9223372036854775807) (w : World) :
    Calls Try.prog 6 #[.int .u64 u, .int .i64 n, .string s] w fun e w' => e = .returned (.bool true) ∧ Below w.heap.size w w' := by
  by_cases hl : 300 < s.size
  · go_enter Try.func6, Try.ntmps6
    go_wp2_with (go_at_call 11; refine (lives_any _).mono ?_; rintro e w3 ⟨rfl, hb3⟩)
    go_ret
    exact ⟨rfl, hb3⟩
  · have hlen : s.data.toList.length ≤ 300 := by rw [← size_len]; omega
    have hz := Lib.zigzag_lt n0 n1
    have l1 := Lib.uvarint_length64 hu
    have l2 := Lib.uvarint_length64 hz
    have l3 := boolText_length (decide (n < 0))
    have l4 := text_length s.data.toList
    have l5 := Lib.uvarint_length64 (x := s.data.toList.length) (by omega)
    obtain ⟨t, ht⟩ : ∃ t, ByteArray.mk (uvarint u).toArray ++ ByteArray.mk (intText n).toArray ++ ByteArray.mk (boolText (decide (n < 0))).toArray ++ ByteArray.mk (text s.data.toList).toArray ++ s = t := ⟨_, rfl⟩
    have hT : t.data.toList = uvarint u ++ (uvarint (zigzag n) ++ (boolText (decide (n < 0)) ++ (text s.data.toList ++ s.data.toList))) := by
      rw [← ht, append_list, append_list, append_list, append_list, List.append_assoc, List.append_assoc, List.append_assoc]
      rfl
    have hTl : t.size = (uvarint u).length + (uvarint (zigzag n)).length + 1 + (text s.data.toList).length + s.size := by
      rw [size_len, hT]
      simp only [List.length_append, l3, size_len]
      omega
    rw [size_len s] at hTl
    have htz : t.size ≤ 2000 := by omega
    -- what the four encodings decode to
    have e1 := enc_at [] (uvarint (zigzag n) ++ (boolText (decide (n < 0)) ++ (text s.data.toList ++ s.data.toList))) hu
    rw [List.nil_append, ← hT] at e1
    have e2 := enc_at (uvarint u) (boolText (decide (n < 0)) ++ (text s.data.toList ++ s.data.toList)) hz
    rw [← hT] at e2
    have e3 := bool_at (uvarint u ++ uvarint (zigzag n)) (text s.data.toList ++ s.data.toList) (decide (n < 0))
    rw [List.append_assoc, ← hT] at e3
    have e4 := text_at (uvarint u ++ (uvarint (zigzag n) ++ boolText (decide (n < 0)))) s.data.toList s.data.toList (by omega) (m := s.size) (by rw [size_len]; omega)
    rw [List.append_assoc, List.append_assoc, ← hT] at e4
    have p3 : (uvarint u ++ uvarint (zigzag n)).length = (uvarint u).length + (uvarint (zigzag n)).length := List.length_append
    have p4 : (uvarint u ++ (uvarint (zigzag n) ++ boolText (decide (n < 0)))).length = (uvarint u).length + (uvarint (zigzag n)).length + 1 := by
      simp only [List.length_append, l3]; omega
    rw [p3] at e3
    rw [p4] at e4
    rw [List.length_nil, Nat.zero_add] at e1
    change tV t.data.toList 0 = _ ∧ tE t.data.toList 0 = _ ∧ tN t.data.toList 0 = _ at e1
    have h5 := take_any t 0 (by omega) (by omega) (by omega)
    rw [e1.1, e1.2.1, e1.2.2] at h5
    have h6 := takeInt_any t (uvarint u).length (by omega) (by omega) (by omega)
    have hi : iV t.data.toList (uvarint u).length = n := by unfold iV; rw [e2.1, Int.toNat_natCast]; exact unz_back
    rw [hi, e2.2.1, e2.2.2] at h6
    have h7 := takeBool_any t ((uvarint u).length + (uvarint (zigzag n)).length : Nat) (by omega) (by omega) (by omega)
    rw [e3.1, e3.2.1, e3.2.2] at h7
    have h8 := takeText_any t ((uvarint u).length + (uvarint (zigzag n)).length + 1 : Nat) s.size (by omega) (by omega) (by omega) (by omega) (by omega)
    have hx : (((uvarint u).length + (uvarint (zigzag n)).length + 1 + (text s.data.toList).length : Nat) : Int) = (t.size : Int) - s.size := by rw [size_len s]; omega
    rw [e4.1, e4.2.1, e4.2.2.1, hx] at h8
    -- what the text itself decodes to
    have g1 := take_any s 0 (by omega) (by omega) hs
    have g2 := takeInt_any s 0 (by omega) (by omega) (by omega)
    have g3 := takeBool_any s 0 (by omega) (by omega) (by omega)
    have g4 := takeText_any s 0 300 (by omega) (by omega) (by omega) (by omega) (by omega)
    refine round_core u n (decide (n < 0)) s t _ _ _ _ _ _ _ _ _ _ _ _ _ _ _ _ _ (by omega) htz (uv_size hu) (uv_size hz) (by rw [size_len]; exact Nat.le_trans (Nat.le_of_eq l3) (by decide)) (by rw [size_len]; show (text s.data.toList).length ≤ 310; omega) ht rfl w
      (uint_any u hu) (int_any n n0 n1) (bool_any _) (text_any s (by omega)) h5 h6 h7 h8 g1 g2 g3 g4 ?_ ?_ ?_
    · rcases tE_three s.data.toList with h | h | h
      · obtain ⟨y, c, hv, hn, hy, c1, c2, hp⟩ := accepted h
        have hq := mk_upto hp
        refine Or.inl ⟨h, c, s.extract 0 c, hn, by omega, by rw [size_len]; omega, slice_upto s c (by rw [size_len]; omega) rfl, ?_, ?_⟩
        · rw [hv, ← hq]
          exact uint_any y hy
        · have hb := unz_bd hy
          have e : intText (unzigzag y) = uvarint y := by unfold intText; rw [zigzag_back]
          unfold iV
          rw [hv, Int.toNat_natCast, ← hq, ← e]
          exact int_any _ hb.1 hb.2
      · exact Or.inr (Or.inl h)
      · exact Or.inr (Or.inr h)
    · rcases bE_three s.data.toList with h | h | h
      · obtain ⟨hn, hp, hq⟩ := accepted_bool h
        refine Or.inl ⟨h, s.extract 0 1, hn, slice_one s hp rfl, ?_⟩
        rw [← mk_upto hq]
        exact bool_any _
      · exact Or.inr (Or.inl h)
      · exact Or.inr (Or.inr h)
    · rcases xE_four s.data.toList 300 with h | h | h | h
      · obtain ⟨c, hn, c1, c2, hxl, hq⟩ := accepted_text h
        refine Or.inl ⟨h, c, s.extract 0 c, hn, by omega, by rw [size_len]; omega, slice_upto s c (by rw [size_len]; omega) rfl, ?_⟩
        rw [← mk_upto hq]
        exact text_any ⟨(xV s.data.toList 0 300).toArray⟩ (by rw [size_len]; exact Nat.le_trans hxl (by omega))
      · exact Or.inr (Or.inl h)
      · exact Or.inr (Or.inr (Or.inl h))
      · exact Or.inr (Or.inr (Or.inr h))
end Go.Proofs.Ytigimnccclaiiaa
