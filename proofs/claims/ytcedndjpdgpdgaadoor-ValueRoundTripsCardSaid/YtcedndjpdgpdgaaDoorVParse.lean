/-
  What the reference of layer 5 returns: Parse, Encode, Decode: contracts, one a function.
-/
import Derived.Test.YtcedndjpdgpdgaaDoorVTexts
import Derived.Deep.QuietTactic
import Derived.BigQuiet
import Derived.Lib.QuietBelow
namespace Go.Proofs.YtcedndjpdgpdgaaDoor.V
open Go.RowKit

/-! ### Parse -/

/-- a value and an error, as the program returns them -/
def pairV (p : Val × Int) : Value := .tuple #[.agg #[.int .i64 p.1.k, .int .i64 p.1.n, .string ⟨p.1.s.toArray⟩], .int .i64 p.2]
theorem ps_unq {s : ByteArray} (hp : 0 < s.size) (h : (s[0].toNat : Int) = 34) : pairV (ps s.data.toList) = if unqE s = 0 then .tuple #[.agg #[.int .i64 2, .int .i64 0, .string (unqS s)], .int .i64 0] else .tuple #[.agg #[.int .i64 0, .int .i64 0, .string ⟨#[]⟩], .int .i64 (unqE s)] := by
  have hl : s.data.toList = 34 :: s.data.toList.drop 1 := by
    have := drop_at (s := s) (i := 0) hp
    rw [byte_is (m := 34) (by decide) h] at this
    exact this
  rw [hl]
  cases hu : un (s.data.toList.drop 1) with
  | none =>
    obtain ⟨h1, h2⟩ := unq_none hu
    rw [ps_none hu, h2]; rfl
  | some t =>
    rw [ps_some hu]
    by_cases ht : t.length ≤ 64
    · obtain ⟨h1, h2⟩ := unq_some (s := s) (o := ⟨t.toArray⟩) hu (by rw [size_len]; exact ht)
      rw [if_pos ht, h1, h2]; rfl
    · obtain ⟨h1, h2⟩ := unq_long (s := s) (o := ⟨t.toArray⟩) hu (by rw [size_len]; exact ht)
      rw [if_neg ht, h2]; rfl
theorem ps_other {s : ByteArray} (h1 : s.data.toList ≠ nilText) (h : ∀ hp : 0 < s.size, ¬ (s[0].toNat : Int) = 34) : pairV (ps s.data.toList) = if pE s.data.toList = 0 then .tuple #[.agg #[.int .i64 1, .int .i64 (pV s.data.toList), .string ⟨#[]⟩], .int .i64 0] else .tuple #[.agg #[.int .i64 0, .int .i64 0, .string ⟨#[]⟩], .int .i64 (pE s.data.toList)] := by
  have h2 : s.data.toList.head? ≠ some 34 := by
    intro e
    by_cases hp : 0 < s.size
    · have := drop_at (s := s) (i := 0) hp
      rw [List.drop_zero] at this
      rw [this] at e
      injection e with e
      exact h hp (by rw [e]; rfl)
    · have := drop_out (s := s) (i := 0) hp
      rw [List.drop_zero] at this
      rw [this] at e
      cases e
  rw [ps_num h1 h2]
  split <;> rfl
theorem ps_is_nil {s : ByteArray} (h : s.data.toList = nilText) : pairV (ps s.data.toList) = .tuple #[.agg #[.int .i64 0, .int .i64 0, .string ⟨#[]⟩], .int .i64 0] := by rw [h, ps_nil]; rfl
theorem nil_eq (s : ByteArray) : (s.toList == [110, 105, 108]) = decide (s.data.toList = nilText) := by rw [Lib.toList_data]; exact Bool.beq_eq_decide_eq _ _
theorem unqE_bne (s : ByteArray) : unqE s = 0 ∨ (unqE s != 0) = true := by
  by_cases h : unqE s = 0
  · exact Or.inl h
  · exact Or.inr (bne_iff_ne.2 h)
set_option maxHeartbeats 1000000 in
set_option maxRecDepth 100000 in
theorem rps_any (s : ByteArray) (hs : s.size ≤ 1000000) (w : World) :
    Calls Tryd.prog 23 #[.string s] w fun e w' => e = .returned (pairV (ps s.data.toList)) ∧ Below w.heap.size w w' := by
  have HM := Lib.hid (Mine.new w 0 0 ⟨#[]⟩)
  have HW := Lib.hid (fun x y z => below_box w (.cells #[.int .i64 x, .int .i64 y, .string z] 23))
  by_cases hn : s.data.toList = nilText
  · have hq : (s.toList == [110, 105, 108]) = true := by rw [nil_eq]; exact decide_eq_true hn
    have HV := Lib.hid (ps_is_nil hn)
    generalize pairV (ps s.data.toList) = V at HV
    clear hn
    go_enter Tryd.func23, Tryd.ntmps23
    go_wp2_with fail
    refine bodyPost_ret (v := .tuple #[.agg #[.int .i64 0, .int .i64 0, .string ⟨#[]⟩], .int .i64 0]) (by simp [results, Tryd.results23, go_sem]) rfl ⟨?_, HW.out _ _ _⟩
    rw [HV.out]
  · have hq : (s.toList == [110, 105, 108]) = false := by rw [nil_eq]; exact decide_eq_false hn
    by_cases hq34 : ∃ hp : 0 < s.size, (s[0].toNat : Int) = 34
    · obtain ⟨hp, h34⟩ := hq34
      have HV := Lib.hid (ps_unq hp h34)
      have HU := Lib.hid (runquote_any s hs hp)
      generalize pairV (ps s.data.toList) = V at HV
      clear hn
      rcases unqE_bne s with hu | hu
      · generalize unqE s = E at HV HU hu
        subst hu
        generalize unqS s = t at HV HU
        go_enter Tryd.func23, Tryd.ntmps23
        go_wp2_with fail
        refine (HU.out _).mono ?_; rintro e w1 ⟨rfl, rfl⟩
        go_wp2_with fail
        refine bodyPost_ret (v := .tuple #[.agg #[.int .i64 2, .int .i64 0, .string t], .int .i64 0]) (by simp [results, Tryd.results23, go_sem]) rfl ⟨?_, HW.out _ _ _⟩
        rw [HV.out, if_pos trivial]
      · have HN := Lib.hid (bne_iff_ne.1 hu)
        generalize unqE s = E at HV HU hu HN
        generalize unqS s = t at HV HU
        go_enter Tryd.func23, Tryd.ntmps23
        go_wp2_with fail
        refine (HU.out _).mono ?_; rintro e w1 ⟨rfl, rfl⟩
        go_wp2_with fail
        refine bodyPost_ret (v := .tuple #[.agg #[.int .i64 0, .int .i64 0, .string ⟨#[]⟩], .int .i64 E]) (by simp [results, Tryd.results23, go_sem]) rfl ⟨?_, HW.out _ _ _⟩
        rw [HV.out, if_neg HN.out]
    · have h34 : ∀ hp : 0 < s.size, ¬ (s[0].toNat : Int) = 34 := fun hp h => hq34 ⟨hp, h⟩
      have HV := Lib.hid (ps_other hn h34)
      have HP := Lib.hid (fun w => rparse_any s w (by omega))
      have HI := Lib.hid (rint_any (pV s.data.toList))
      generalize pairV (ps s.data.toList) = V at HV
      generalize pV s.data.toList = x at HV HP HI
      clear hn hq34
      by_cases hp : 0 < s.size
      · have b34 : ((s[0].toNat : Int) == 34) = false := beq_eq_false_iff_ne.2 (h34 hp)
        clear h34
        by_cases he : pE s.data.toList = 0
        · generalize pE s.data.toList = E at HV HP he
          subst he
          go_enter Tryd.func23, Tryd.ntmps23
          go_wp2_with fail
          refine (HP.out _).mono ?_; rintro e w1 ⟨rfl, rfl⟩
          go_wp2_with fail
          refine (HI.out _).mono ?_; rintro e w2 ⟨rfl, hb2⟩
          obtain ⟨⟨x0, x1, x2, c0, c1, c2⟩, d0, d1, d2⟩ := HM.out.below hb2 (by simp)
          go_wp2_with fail
          obtain ⟨q0, q1, q2⟩ := stored ⟨c0, c1, c2⟩ 1 x ⟨#[]⟩
          refine bodyPost_ret (v := .tuple #[.agg #[.int .i64 1, .int .i64 x, .string ⟨#[]⟩], .int .i64 0]) (by simp [results, Tryd.results23, go_sem, q0, q1, q2]) rfl ⟨?_, stored_below (below_2 (HW.out _ _ _) hb2) (Nat.le_refl _) _ _ _⟩
          rw [HV.out, if_pos trivial]
        · have HN := Lib.hid he
          have bE : (pE s.data.toList != 0) = true := bne_iff_ne.2 he
          clear he
          generalize pE s.data.toList = E at HV HP HN bE
          go_enter Tryd.func23, Tryd.ntmps23
          go_wp2_with fail
          refine (HP.out _).mono ?_; rintro e w1 ⟨rfl, rfl⟩
          go_wp2_with fail
          refine bodyPost_ret (v := .tuple #[.agg #[.int .i64 0, .int .i64 0, .string ⟨#[]⟩], .int .i64 E]) (by simp [results, Tryd.results23, go_sem]) rfl ⟨?_, HW.out _ _ _⟩
          rw [HV.out, if_neg HN.out]
      · clear h34
        have he : pE s.data.toList = 5 := by
          have := drop_out (s := s) (i := 0) hp
          rw [List.drop_zero] at this
          rw [this]; rfl
        rw [he] at HV HP
        have HN : Hid (¬ (5 : Int) = 0) := by show ¬ (5 : Int) = 0; omega
        clear he
        go_enter Tryd.func23, Tryd.ntmps23
        go_wp2_with fail
        refine (HP.out _).mono ?_; rintro e w1 ⟨rfl, rfl⟩
        go_wp2_with fail
        refine bodyPost_ret (v := .tuple #[.agg #[.int .i64 0, .int .i64 0, .string ⟨#[]⟩], .int .i64 5]) (by simp [results, Tryd.results23, go_sem]) rfl ⟨?_, HW.out _ _ _⟩
        rw [HV.out, if_neg HN.out]

/-! ### Encode -/

theorem enc_1 (n : Int) (s : ByteArray) : (⟨(enc ⟨1, n, s.data.toList⟩).toArray⟩ : ByteArray) = ⟨(Lib.uvarint 1).toArray⟩ ++ ⟨(W.intText n).toArray⟩ := by
  refine bytes_eq ?_
  rw [append_list]; rfl
theorem enc_2 (n : Int) (s : ByteArray) : (⟨(enc ⟨2, n, s.data.toList⟩).toArray⟩ : ByteArray) = ⟨(Lib.uvarint 2).toArray⟩ ++ ⟨(W.text s.data.toList).toArray⟩ := by
  refine bytes_eq ?_
  rw [append_list]; rfl
theorem enc_0 {k : Int} (n : Int) (s : ByteArray) (h1 : k ≠ 1) (h2 : k ≠ 2) : (⟨(enc ⟨k, n, s.data.toList⟩).toArray⟩ : ByteArray) = ⟨(Lib.uvarint 0).toArray⟩ := by
  unfold enc; rw [if_neg h1, if_neg h2]
theorem int_size {n : Int} (h0 : -9223372036854775808 ≤ n) (h1 : n ≤ 9223372036854775807) : (ByteArray.mk (W.intText n).toArray).size ≤ 10 := W.uv_size (Lib.zigzag_lt h0 h1)
theorem text_size {s : ByteArray} (hs : s.size ≤ 1000000) : (ByteArray.mk (W.text s.data.toList).toArray).size ≤ 1000010 := by
  rw [← W.text_eq]
  have := W.uv_size (x := s.size) (by omega)
  simp
  omega
set_option maxHeartbeats 1000000 in
set_option maxRecDepth 100000 in
theorem renc_any (k n : Int) (h0 : -9223372036854775808 ≤ n) (h1 : n ≤ 9223372036854775807) (s : ByteArray) (hs : s.size ≤ 1000000) (w : World) :
    Calls Tryd.prog 25 #[.agg #[.int .i64 k, .int .i64 n, .string s]] w fun e w' => e = .returned (.string ⟨(enc ⟨k, n, s.data.toList⟩).toArray⟩) ∧ Below w.heap.size w w' := by
  obtain ⟨a0, a1, a2⟩ := Has.box w k n s
  have r0 := fun d os => cell_regrown a0 d os
  have r1 := fun d os => cell_regrown a1 d os
  have r2 := fun d os => cell_regrown a2 d os
  clear a0 a1 a2
  have HW := Lib.hid (below_box w (.cells #[.int .i64 k, .int .i64 n, .string s] 23))
  by_cases k1 : k = 1
  · subst k1
    have HE := Lib.hid (enc_1 n s)
    have g1 : ∀ w, Calls Tryd.prog 48 #[.int .u64 1] w fun e w' => e = .returned (.string ⟨(Lib.uvarint 1).toArray⟩) ∧ Below w.heap.size w w' := W.ruint_any 1 (by decide)
    have g2 := W.rint_any n h0 h1
    have z1 := W.uv_size (x := 1) (by decide)
    have z2 := int_size h0 h1
    generalize ByteArray.mk (Lib.uvarint 1).toArray = a at g1 HE z1
    generalize ByteArray.mk (W.intText n).toArray = b at g2 HE z2
    have C1 := Lib.hid (fun W d os => Calls.regrown_of (w := W) (d := d) (os := os) (g1 _))
    have C2 := Lib.hid (fun W d os => Calls.regrown_of (w := W) (d := d) (os := os) (g2 _))
    clear g1 g2
    go_enter Tryd.func25, Tryd.ntmps25
    go_wp2_with fail
    refine wp_region_quiet_below (by kernel_rfl) (by kernel_rfl) ?_
    repeat (go_big_quiet_step (first | with_reducible exact C1.out _ _ _ | with_reducible exact C2.out _ _ _))
    refine wpQuiet_nil ?_
    intro _ hw'
    obtain ⟨⟨dq, osq⟩, hw''⟩ := hw'
    subst hw''
    go_wp2_with fail
    go_ret
    exact ⟨ret_string HE.out.symm, below_2 HW.out (below_regrown _ _ _)⟩
  · by_cases k2 : k = 2
    · subst k2
      have HE := Lib.hid (enc_2 n s)
      have g1 : ∀ w, Calls Tryd.prog 48 #[.int .u64 2] w fun e w' => e = .returned (.string ⟨(Lib.uvarint 2).toArray⟩) ∧ Below w.heap.size w w' := W.ruint_any 2 (by decide)
      have g2 := W.rtext_any s hs
      have z1 := W.uv_size (x := 2) (by decide)
      have z2 := text_size hs
      generalize ByteArray.mk (Lib.uvarint 2).toArray = a at g1 HE z1
      generalize ByteArray.mk (W.text s.data.toList).toArray = b at g2 HE z2
      have C1 := Lib.hid (fun W d os => Calls.regrown_of (w := W) (d := d) (os := os) (g1 _))
      have C2 := Lib.hid (fun W d os => Calls.regrown_of (w := W) (d := d) (os := os) (g2 _))
      clear g1 g2 k1
      go_enter Tryd.func25, Tryd.ntmps25
      go_wp2_with fail
      refine wp_region_quiet_below (by kernel_rfl) (by kernel_rfl) ?_
      repeat (go_big_quiet_step (first | with_reducible exact C1.out _ _ _ | with_reducible exact C2.out _ _ _))
      refine wpQuiet_nil ?_
      intro _ hw'
      obtain ⟨⟨dq, osq⟩, hw''⟩ := hw'
      subst hw''
      go_wp2_with fail
      go_ret
      exact ⟨ret_string HE.out.symm, below_2 HW.out (below_regrown _ _ _)⟩
    · have HE := Lib.hid (enc_0 n s k1 k2)
      have b1 : (k == 1) = false := beq_eq_false_iff_ne.2 k1
      have b2 : (k == 2) = false := beq_eq_false_iff_ne.2 k2
      have g1 : ∀ w, Calls Tryd.prog 48 #[.int .u64 0] w fun e w' => e = .returned (.string ⟨(Lib.uvarint 0).toArray⟩) ∧ Below w.heap.size w w' := W.ruint_any 0 (by decide)
      have G1 := Lib.hid g1
      clear g1 k1 k2 r0 r1 r2
      go_enter Tryd.func25, Tryd.ntmps25
      go_wp2_with fail
      refine (G1.out _).mono ?_; rintro e w1 ⟨rfl, hb1⟩
      go_wp2_with fail
      go_ret
      exact ⟨ret_string HE.out.symm, below_2 HW.out hb1⟩
end Go.Proofs.YtcedndjpdgpdgaaDoor.V
