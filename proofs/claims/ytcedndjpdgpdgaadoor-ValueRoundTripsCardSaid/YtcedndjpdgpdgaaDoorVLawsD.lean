/-
  Laws of layer 5, walked over whatever the program's own functions return: round trips.
-/
import Derived.Test.YtcedndjpdgpdgaaDoorVLawsC
import Derived.Lib.ItoaLen
namespace Go.Proofs.YtcedndjpdgpdgaaDoor.V
open Go.RowKit

set_option maxHeartbeats 4000000 in
set_option maxRecDepth 100000 in
theorem trips_core (k n : Int) (s q F E : ByteArray) (X Y : Int) (Z : ByteArray) (e : Int) (A B : Int) (C : ByteArray) (N f : Int) (V : Bool) (hs : s.size ≤ 300) (hq : q.size ≤ 300) (hE : E.size ≤ 1000)
    (hN : f = 0 → ∃ c : Nat, N = c ∧ 1 ≤ c ∧ c ≤ q.size ∧ (∀ w, Tab w → Calls Tryd.prog 24 #[.agg #[.int .i64 A, .int .i64 B, .string C]] w fun e w' => e = .returned (.string (q.extract 0 c)) ∧ Below w.heap.size w w')) (O : Own) (w : World) (hT : Tab w)
    (g1 : ∀ w, Calls Tryd.prog 15 #[.agg #[.int .i64 k, .int .i64 n, .string s]] w fun e w' => e = .returned (.bool V) ∧ Below w.heap.size w w')
    (g2 : V = true → ∀ w, Tab w → Calls Tryd.prog 20 #[.agg #[.int .i64 k, .int .i64 n, .string s]] w fun e w' => e = .returned (.string F) ∧ Below w.heap.size w w')
    (g3 : V = true → ∀ w, Tab w → Calls Tryd.prog 22 #[.string F] w fun e w' => e = .returned (.tuple #[.agg #[.int .i64 k, .int .i64 n, .string s], .int .i64 0]) ∧ Below w.heap.size w w')
    (g4 : V = true → ∀ w, Tab w → Calls Tryd.prog 24 #[.agg #[.int .i64 k, .int .i64 n, .string s]] w fun e w' => e = .returned (.string E) ∧ Below w.heap.size w w')
    (g5 : V = true → ∀ w, Tab w → Calls Tryd.prog 26 #[.string (E ++ q), .int .i64 0] w fun e w' => e = .returned (.tuple #[.agg #[.int .i64 k, .int .i64 n, .string s], .int .i64 (E.size : Int), .int .i64 0]) ∧ Below w.heap.size w w')
    (g6 : ∀ w, Tab w → Calls Tryd.prog 22 #[.string q] w fun r w' => r = .returned (.tuple #[.agg #[.int .i64 X, .int .i64 Y, .string Z], .int .i64 e]) ∧ Below w.heap.size w w')
    (g7 : e = 0 → ∀ w, Calls Tryd.prog 15 #[.agg #[.int .i64 X, .int .i64 Y, .string Z]] w fun e w' => e = .returned (.bool true) ∧ Below w.heap.size w w')
    (g8 : e = 0 → ∀ w, Tab w → Calls Tryd.prog 20 #[.agg #[.int .i64 X, .int .i64 Y, .string Z]] w fun e w' => e = .returned (.string q) ∧ Below w.heap.size w w')
    (g9 : ∀ w, Tab w → Calls Tryd.prog 26 #[.string q, .int .i64 0] w fun r w' => r = .returned (.tuple #[.agg #[.int .i64 A, .int .i64 B, .string C], .int .i64 N, .int .i64 f]) ∧ Below w.heap.size w w')
    (g10 : f = 0 → ∀ w, Calls Tryd.prog 15 #[.agg #[.int .i64 A, .int .i64 B, .string C]] w fun e w' => e = .returned (.bool true) ∧ Below w.heap.size w w') :
    Calls Tryd.prog 9 #[.agg #[.int .i64 k, .int .i64 n, .string s], .string q] w fun e w' => e = .returned (.bool true) ∧ Below w.heap.size w w' := by
  have HW := Lib.hid (works_any O)
  have HT := Lib.hid hT
  have HV := Lib.hid (Has.box w k n s)
  have H0 := Lib.hid (below_box w (.cells #[.int .i64 k, .int .i64 n, .string s] 23))
  have G1 := Lib.hid g1
  have G2 := Lib.hid g2
  have G3 := Lib.hid g3
  have G4 := Lib.hid g4
  have G5 := Lib.hid g5
  have G6 := Lib.hid g6
  have G7 := Lib.hid g7
  have G8 := Lib.hid g8
  have G9 := Lib.hid g9
  have G10 := Lib.hid g10
  have HN := Lib.hid hN
  clear O hT g1 g2 g3 g4 g5 g6 g7 g8 g9 g10 hN
  cases V
  case' false =>
    clear G2 G3 G4 G5
    go_enter Tryd.func9, Tryd.ntmps9
    go_wp2_with fail
    refine (G1.out _).mono ?_; rintro r w2 ⟨rfl, hb2⟩
    have HB := Lib.hid (below_2 H0.out hb2)
    go_wp2_with fail
    clear hb2
  case' true =>
    have C2 := Lib.hid (G2.out rfl)
    have C3 := Lib.hid (G3.out rfl)
    have C4 := Lib.hid (G4.out rfl)
    have C5 := Lib.hid (G5.out rfl)
    clear G2 G3 G4 G5
    go_enter Tryd.func9, Tryd.ntmps9
    go_wp2_with fail
    refine (G1.out _).mono ?_; rintro r w2 ⟨rfl, hb2⟩
    have HB2 := Lib.hid (below_2 H0.out hb2)
    have HV2 := Lib.hid (HV.out.below hb2 (by simp))
    obtain ⟨a0, a1, a2⟩ := HV2.out
    go_wp2_with fail
    refine (C2.out _ (HT.out.below HB2.out)).mono ?_; rintro r w3 ⟨rfl, hb3⟩
    have hz2 := hb2.size
    have hz3 := hb3.size
    simp at hz2
    have HB3 := Lib.hid (below_2 HB2.out hb3)
    have HV3 := Lib.hid (HV2.out.below hb3 (by omega))
    go_wp2_with fail
    refine (C3.out _ (HT.out.below HB3.out)).mono ?_; rintro r w4 ⟨rfl, hb4⟩
    have hz4 := hb4.size
    have HB4 := Lib.hid (below_2 (below_2 HB3.out hb4) (below_box w4 (.cells #[.int .i64 k, .int .i64 n, .string s] 23)))
    have HV4 := Lib.hid ((HV3.out.below hb4 (by omega)).alloc (by omega) (.cells #[.int .i64 k, .int .i64 n, .string s] 23))
    have HP4 := Lib.hid (Has.box w4 k n s)
    clear a0 a1 a2
    obtain ⟨a0, a1, a2⟩ := HV4.out
    go_wp2_with fail
    refine (C4.out _ (HT.out.below HB4.out)).mono ?_; rintro r w5 ⟨rfl, hb5⟩
    have hz5 := hb5.size
    simp at hz5
    have HB5 := Lib.hid (below_2 HB4.out hb5)
    have HV5 := Lib.hid (HV4.out.below hb5 (by simp; omega))
    have HP5 := Lib.hid (HP4.out.below hb5 (by simp))
    go_wp2_with fail
    refine (C5.out _ (HT.out.below HB5.out)).mono ?_; rintro r w6 ⟨rfl, hb6⟩
    have hz6 := hb6.size
    have HB := Lib.hid (below_2 (below_2 HB5.out hb6) (below_box w6 (.cells #[.int .i64 k, .int .i64 n, .string s] 23)))
    clear a0 a1 a2
    obtain ⟨a0, a1, a2⟩ := (HV5.out.below hb6 (by omega)).alloc (by omega) (.cells #[.int .i64 k, .int .i64 n, .string s] 23)
    obtain ⟨b0, b1, b2⟩ := (HP5.out.below hb6 (by omega)).alloc (by omega) (.cells #[.int .i64 k, .int .i64 n, .string s] 23)
    obtain ⟨c0, c1, c2⟩ := Has.box w6 k n s
    go_wp2_with fail
    clear a0 a1 a2 b0 b1 b2 c0 c1 c2 hz2 hz3 hz4 hz5 hz6 hb2 hb3 hb4 hb5 hb6 HB2 HB3 HB4 HB5 HV2 HV3 HV4 HV5 HP4 HP5 C2 C3 C4 C5
  all_goals
    clear HV H0 G1
    refine (G6.out _ (HT.out.below HB.out)).mono ?_; rintro r w8 ⟨rfl, hb8⟩
    have HB8 := Lib.hid (below_2 (below_2 HB.out hb8) (below_box w8 (.cells #[.int .i64 X, .int .i64 Y, .string Z] 23)))
    have HX8 := Lib.hid (Has.box w8 X Y Z)
    by_cases he : e = 0
    case' pos =>
      have D7 := Lib.hid (G7.out he)
      have D8 := Lib.hid (G8.out he)
      subst he
      obtain ⟨a0, a1, a2⟩ := HX8.out
      go_wp2_with fail
      refine (D7.out _).mono ?_; rintro r w9 ⟨rfl, hb9⟩
      have HX9 := Lib.hid (HX8.out.below hb9 (by simp))
      have HB9 := Lib.hid (below_2 HB8.out hb9)
      clear a0 a1 a2
      obtain ⟨a0, a1, a2⟩ := HX9.out
      go_wp2_with fail
      refine (D8.out _ (HT.out.below HB9.out)).mono ?_; rintro r w10 ⟨rfl, hb10⟩
      have HC := Lib.hid (below_2 HB9.out hb10)
      clear a0 a1 a2 hb10 hb9 HX9 HB9 D7 D8
      go_wp2_with fail
    case' neg =>
      have he2 : (e == 0) = false := beq_false_of_ne he
      have HC := Lib.hid HB8.out
      go_wp2_with fail
    all_goals
      clear hb8 HB8 HX8 G6 G7 G8
      refine (G9.out _ (HT.out.below HC.out)).mono ?_; rintro r w12 ⟨rfl, hb12⟩
      have HD := Lib.hid (below_2 (below_2 HC.out hb12) (below_box w12 (.cells #[.int .i64 A, .int .i64 B, .string C] 23)))
      by_cases hf : f = 0
      · obtain ⟨c, hc0, hc1, hc2, g11⟩ := HN.out hf
        have g10 := G10.out hf
        subst hf
        obtain ⟨r0, r1, r2⟩ := grown_has (Has.box w12 A B C)
        have HT12 := Lib.hid (HT.out.below HD.out)
        have E1 := Lib.hid (grown' (W := w12.alloc (.cells #[.int .i64 A, .int .i64 B, .string C] 23)) g10)
        have E2 := Lib.hid (grown HT12.out g11)
        have E3 := Lib.hid (grown HT12.out HW.out)
        have q1 := slice_first q c hc2 rfl
        rw [← hc0] at q1
        have b1 : decide (N ≥ 1) = true := decide_eq_true (by omega)
        have b2 : decide (N ≤ (q.size : Int)) = true := decide_eq_true (by omega)
        have b3 : decide (1 ≤ N) = true := b1
        have b4 : 1 ≤ N := by omega
        have b5 : N ≤ (q.size : Int) := by omega
        generalize q.extract 0 c = d at q1 E2
        clear hc0 hc1 hc2 g10 g11 G9 G10 HN hb12
        go_wp2_with fail
        refine wp_region_quiet_below (by kernel_rfl) (by kernel_rfl) ?_
        repeat (go_big_quiet_step (first | with_reducible exact E1.out _ _ | with_reducible exact E2.out _ _ | with_reducible exact E3.out _ _))
        refine wpQuiet_nil ?_
        intro _ hw'
        obtain ⟨⟨dq, osq⟩, hw''⟩ := hw'
        subst hw''
        go_wp2_with fail
        go_ret
        exact ⟨rfl, below_2 HD.out (below_regrown _ _ _)⟩
      · have hf2 : (f == 0) = false := beq_false_of_ne hf
        have hf3 : (f != 0) = true := bne_iff_ne.2 hf
        clear hb12 G9 G10 HN
        go_wp2_with (go_at_call 11; refine (HW.out _ (HT.out.below HD.out)).mono ?_; rintro e w9 ⟨rfl, hb9⟩)
        go_ret
        exact ⟨rfl, below_2 HD.out hb9⟩
theorem ps_bd (l : List UInt8) : -9223372036854775808 ≤ (ps l).1.n ∧ (ps l).1.n ≤ 9223372036854775807 := by
  have hz : (-9223372036854775808 : Int) ≤ 0 ∧ (0 : Int) ≤ 9223372036854775807 := by omega
  unfold ps
  split
  · exact hz
  · split
    · split
      · exact hz
      · split <;> exact hz
    · split
      · exact pV_bd l
      · exact hz
theorem iV_bd (l : List UInt8) (a : Int) : -9223372036854775808 ≤ W.iV l a ∧ W.iV l a ≤ 9223372036854775807 := by
  have h := W.tV_bd l a
  unfold W.iV
  exact W.unz_bd (by omega)
theorem ds_bd (l : List UInt8) (a : Int) : -9223372036854775808 ≤ (ds l a).1.n ∧ (ds l a).1.n ≤ 9223372036854775807 := by
  have hz : (-9223372036854775808 : Int) ≤ 0 ∧ (0 : Int) ≤ 9223372036854775807 := by omega
  unfold ds
  split
  · exact hz
  · split
    · exact hz
    · split
      · split
        · exact hz
        · exact iV_bd _ _
      · split
        · split
          · exact hz
          · split <;> exact hz
        · exact hz
theorem esc_length (l : List UInt8) : (l.flatMap esc).length ≤ 2 * l.length := by
  induction l with
  | nil => exact Nat.le_refl _
  | cons c r ih =>
    rw [List.flatMap_cons, List.length_append, List.length_cons]
    have : (esc c).length ≤ 2 := by unfold esc; split <;> simp
    omega
theorem fmt_size {v : Val} (h0 : -9223372036854775808 ≤ v.n) (h1 : v.n ≤ 9223372036854775807) : (ByteArray.mk (fmt v).toArray).size ≤ 1000 := by
  have hs : (ByteArray.mk (fmt v).toArray).size = (fmt v).length := by rw [size_len]
  rw [hs]
  unfold fmt
  split
  case isTrue hv =>
    split
    · decide
    · split
      · have := Lib.itoa_length_le v.n h0 h1
        omega
      · rcases valid_iff.1 hv with ⟨_, _, h3⟩ | ⟨_, h3⟩ | ⟨_, _, h3⟩
        · rw [h3]; decide
        · rw [h3]; decide
        · have h4 := (plain_iff.1 h3).1
          have h5 := esc_length v.s
          unfold quote
          rw [List.length_cons, List.length_append]
          simp only [List.length_cons, List.length_nil]
          omega
  · exact Nat.zero_le _
theorem enc_size {v : Val} (hv : v.s.length ≤ 300) (h0 : -9223372036854775808 ≤ v.n) (h1 : v.n ≤ 9223372036854775807) : (enc v).length ≤ 1000 := by
  have key : ∀ x : Nat, x < 18446744073709551616 → (Lib.uvarint x).length ≤ 10 := fun x hx => Lib.uvarint_length64 hx
  have k0 := key 0 (by decide)
  have k1 := key 1 (by decide)
  have k2 := key 2 (by decide)
  unfold enc
  split
  · have k3 := key _ (Lib.zigzag_lt h0 h1)
    rw [List.length_append]
    unfold W.intText
    omega
  · split
    · rw [List.length_append, W.text_length]
      have k3 := key v.s.length (by omega)
      omega
    · omega
set_option maxHeartbeats 1000000 in
set_option maxRecDepth 100000 in
theorem trips_walk (O : Own) (k n : Int) (h0 : -9223372036854775808 ≤ n) (h1 : n ≤ 9223372036854775807) (s q : ByteArray) (w : World) (hT : Tab w) :
    Calls Tryd.prog 9 #[.agg #[.int .i64 k, .int .i64 n, .string s], .string q] w fun e w' => e = .returned (.bool true) ∧ Below w.heap.size w w' := by
  by_cases h : s.size ≤ 300 ∧ q.size ≤ 300
  · obtain ⟨hs, hq⟩ := h
    have fz := fmt_size (v := ⟨k, n, s.data.toList⟩) h0 h1
    have ez : (ByteArray.mk (enc ⟨k, n, s.data.toList⟩).toArray).size ≤ 1000 := by
      have := enc_size (v := ⟨k, n, s.data.toList⟩) (by have := size_len s; simp only; omega) h0 h1
      rw [size_len]
      exact this
    have pb := ps_bd q.data.toList
    have db := ds_bd q.data.toList 0
    refine trips_core k n s q ⟨(fmt ⟨k, n, s.data.toList⟩).toArray⟩ ⟨(enc ⟨k, n, s.data.toList⟩).toArray⟩ (ps q.data.toList).1.k (ps q.data.toList).1.n ⟨(ps q.data.toList).1.s.toArray⟩ (ps q.data.toList).2
      (ds q.data.toList 0).1.k (ds q.data.toList 0).1.n ⟨(ds q.data.toList 0).1.s.toArray⟩ (ds q.data.toList 0).2.1 (ds q.data.toList 0).2.2 (valid ⟨k, n, s.data.toList⟩) hs hq ez ?_ O w hT
      (rvalid_any k n s (by omega)) (fun _ => O.fmt k n s h0 h1 (by omega)) (fun hv => ?_) (fun _ => O.enc k n s h0 h1 (by omega)) (fun hv => ?_)
      (O.ps q (by omega)) (fun he => ?_) (fun he => ?_) (O.ds q (by omega) 0 (by omega) (by omega)) (fun hf => ?_)
    · intro hf
      obtain ⟨hv, c, e1, e2, e3, e4⟩ := enc_ds hf
      refine ⟨c, e1, e2, by have := size_len q; omega, ?_⟩
      have hz := valid_small (k := (ds q.data.toList 0).1.k) (n := (ds q.data.toList 0).1.n) (s := ⟨(ds q.data.toList 0).1.s.toArray⟩) hv
      have he := O.enc (ds q.data.toList 0).1.k (ds q.data.toList 0).1.n ⟨(ds q.data.toList 0).1.s.toArray⟩ db.1 db.2 (by omega)
      have hx : (⟨(enc ⟨(ds q.data.toList 0).1.k, (ds q.data.toList 0).1.n, (ByteArray.mk (ds q.data.toList 0).1.s.toArray).data.toList⟩).toArray⟩ : ByteArray) = q.extract 0 c := by
        apply bytes_eq
        rw [← Lib.toList_data (q.extract 0 c), first_list]
        exact e4
      rw [hx] at he
      exact he
    · have hp := O.ps ⟨(fmt ⟨k, n, s.data.toList⟩).toArray⟩ (by omega)
      have e := ps_fmt hv h0 h1
      rw [show ps (ByteArray.mk (fmt ⟨k, n, s.data.toList⟩).toArray).data.toList = (⟨k, n, s.data.toList⟩, 0) from e] at hp
      exact hp
    · have hz : ((⟨(enc ⟨k, n, s.data.toList⟩).toArray⟩ : ByteArray) ++ q).size ≤ 1000000 := by rw [ByteArray.size_append]; omega
      have hd := O.ds (⟨(enc ⟨k, n, s.data.toList⟩).toArray⟩ ++ q) hz 0 (by omega) (by omega)
      rw [append_list, show (ByteArray.mk (enc ⟨k, n, s.data.toList⟩).toArray).data.toList = enc ⟨k, n, s.data.toList⟩ from rfl, ds_enc hv h0 h1 q.data.toList] at hd
      exact hd
    · obtain ⟨hv, _⟩ := fmt_ps he
      have hz := valid_small (k := (ps q.data.toList).1.k) (n := (ps q.data.toList).1.n) (s := ⟨(ps q.data.toList).1.s.toArray⟩) hv
      have hr := rvalid_any (ps q.data.toList).1.k (ps q.data.toList).1.n ⟨(ps q.data.toList).1.s.toArray⟩ (by omega)
      rw [show valid ⟨(ps q.data.toList).1.k, (ps q.data.toList).1.n, (ByteArray.mk (ps q.data.toList).1.s.toArray).data.toList⟩ = true from hv] at hr
      exact hr
    · obtain ⟨hv, hf⟩ := fmt_ps he
      have hz := valid_small (k := (ps q.data.toList).1.k) (n := (ps q.data.toList).1.n) (s := ⟨(ps q.data.toList).1.s.toArray⟩) hv
      have hr := O.fmt (ps q.data.toList).1.k (ps q.data.toList).1.n ⟨(ps q.data.toList).1.s.toArray⟩ pb.1 pb.2 (by omega)
      rw [show fmt ⟨(ps q.data.toList).1.k, (ps q.data.toList).1.n, (ByteArray.mk (ps q.data.toList).1.s.toArray).data.toList⟩ = q.data.toList from hf] at hr
      exact hr
    · obtain ⟨hv, _⟩ := enc_ds hf
      have hz := valid_small (k := (ds q.data.toList 0).1.k) (n := (ds q.data.toList 0).1.n) (s := ⟨(ds q.data.toList 0).1.s.toArray⟩) hv
      have hr := rvalid_any (ds q.data.toList 0).1.k (ds q.data.toList 0).1.n ⟨(ds q.data.toList 0).1.s.toArray⟩ (by omega)
      rw [show valid ⟨(ds q.data.toList 0).1.k, (ds q.data.toList 0).1.n, (ByteArray.mk (ds q.data.toList 0).1.s.toArray).data.toList⟩ = true from hv] at hr
      exact hr
  · have hb := below_box w (.cells #[.int .i64 k, .int .i64 n, .string s] 23)
    have HW := Lib.hid (works_any O _ (hT.below hb))
    have HB := Lib.hid hb
    clear O hT hb
    by_cases hs : s.size ≤ 300
    · have ht : ¬ q.size ≤ 300 := fun x => h ⟨hs, x⟩
      clear h
      go_enter Tryd.func9, Tryd.ntmps9
      go_wp2_with (go_at_call 11; refine HW.out.mono ?_; rintro e w9 ⟨rfl, hb9⟩)
      go_ret
      exact ⟨rfl, below_2 HB.out hb9⟩
    · clear h
      go_enter Tryd.func9, Tryd.ntmps9
      go_wp2_with (go_at_call 11; refine HW.out.mono ?_; rintro e w9 ⟨rfl, hb9⟩)
      go_ret
      exact ⟨rfl, below_2 HB.out hb9⟩
end Go.Proofs.YtcedndjpdgpdgaaDoor.V
