/-
  What the parser's methods return: not, neg: contracts.
  What the parser's methods return: unit: contracts.
  What the parser's methods return: unit: contracts.
  What the parser's methods return: unit: contracts.
  What the parser's methods return: unit: contracts.
  What the parser's methods return: or, for all tokens: contracts.
-/
import Derived.Test.YteglaeopaocilaaGreatDoorM23
namespace Go.Proofs.YteglaeopaocilaaGreatDoor.P
open Go.RowKit
open L (Str Tok Tks toks At below_2 below_box ret_bool ret_int ret_string)
open A

theorem to_ok {q : R Ex} : (q.to fun e r => R.ok e r) = q := by cases q <;> rfl
theorem gX_same {lev n : Nat} {l : T} (h : lev = 3 ∨ lev = 8) (h0 : P.pre l lev = 0) : gX lev n l = gX (lev + 1) n l := by
  rw [gX_down (by omega) h0]
  have : gL lev n = fun e r => R.ok e r := by
    funext e r
    rw [gL_step (by omega), bin_ops r lev (by rcases h with rfl | rfl <;> decide)]
    have : opsL lev = [] := by rcases h with rfl | rfl <;> rfl
    rw [this]
    exact if_pos rfl
  rw [this, to_ok]
set_option maxHeartbeats 8000000 in
set_option maxRecDepth 100000 in
theorem onot_any (g : Nat) (XS : List L.T) (k ne bl : Nat) (hn : ne ≤ 24) (H0 : CF 185 g XS k ne bl (gX 4 ne (dr XS k))) (H : k < XS.length → ne < 24 → CF 142 g XS (k + 1) (ne + 1) bl (gX 3 (ne + 1) (dr XS (k + 1)))) (w : World) (h : Psr g XS k ne bl w) :
    Calls Tryz.prog 142 #[ptr g] w fun e w' => PRdX g XS ne bl w w' (gX 3 ne (dr XS k)) e := by
  have hx1 := below_box w (.cells #[.int .i64 0, .int .i64 0, .string ⟨#[]⟩, .slice none 0 0] 38)
  have hx2 := below_box (w.alloc (.cells #[.int .i64 0, .int .i64 0, .string ⟨#[]⟩, .slice none 0 0] 38)) (.cells #[.int .i64 18] 3)
  have hx3 := below_2 hx1 hx2
  have HM := Lib.hid ((Bk.new w #[.int .i64 0, .int .i64 0, .string ⟨#[]⟩, .slice none 0 0] 38).below hx2)
  have hlt0 := h.lt
  have hk := h.le
  have HP := Lib.hid (h.below hx3)
  have HB := Lib.hid hx3
  have hO : Bk ((w.alloc (.cells #[.int .i64 0, .int .i64 0, .string ⟨#[]⟩, .slice none 0 0] 38)).alloc (.cells #[.int .i64 18] 3)) (w.heap.size + 1) #[.int .i64 18] 3 := by
    have := Bk.new (w.alloc (.cells #[.int .i64 0, .int .i64 0, .string ⟨#[]⟩, .slice none 0 0] 38)) #[.int .i64 18] 3
    simpa using this
  have hI : Ints ((w.alloc (.cells #[.int .i64 0, .int .i64 0, .string ⟨#[]⟩, .slice none 0 0] 38)).alloc (.cells #[.int .i64 18] 3)) (w.heap.size + 1) [18] := ints_of hO (fun j hj => by
    obtain rfl : j = 0 := by simpa using hj
    rfl)
  have HOp := Lib.hid (ooperator_any g XS k ne bl [18] (by decide) (by decide) (w.heap.size + 1) (by omega) _ HP.out hI hO.lt)
  change Hid (Calls _ _ #[ptr g, .slice (some ⟨w.heap.size + 1, 0, none⟩) 1 1] _ _) at HOp
  have hpre := pre_3 (dr XS k)
  by_cases h0 : oper [18] (dr XS k) = 0
  · rw [h0] at HOp hpre
    rw [gX_same (by decide) hpre]
    have HX := Lib.hid (fun w' h' => H0 w' h')
    have hsf : Sf (dr XS k) (gX 4 ne (dr XS k)) := (gX_is (by decide)).2
    change Calls _ _ _ _ fun e w' => PRdX g XS ne bl w w' (gX 4 ne (dr XS k)) e
    generalize gX 4 ne (dr XS k) = q2 at HX hsf ⊢
    clear hx1 hx2 hx3 h H H0 hO hI h0 hpre hn hk
    go_enter Tryz.func142, Tryz.ntmps142
    go_wp2_with fail
    generalize ((w.alloc (.cells #[.int .i64 0, .int .i64 0, .string ⟨#[]⟩, .slice none 0 0] 38)).alloc (.cells #[.int .i64 18] 3)) = W0 at *
    generalize hB0 : w.heap.size = B at *
    refine HOp.out.mono ?_; rintro e w1 ⟨rfl, hb, hP1⟩
    have HP1 : Hid (Psr g XS k ne bl w1) := hP1
    have HB1 := Lib.hid ((Kp.of HB.out).on hB0 hb)
    have hgB : Hid (g < B) := by show g < B; omega
    have HM1 := Lib.hid (HM.out.kp (by omega) hb)
    clear hb hP1 HOp
    go_wp2_with fail
    refine (HX.out _ HP1.out).mono ?_; intro e w2 hm
    cases q2 with
    | no r x =>
      obtain ⟨j, hj, rfl⟩ := sf_no hsf
      obtain ⟨hb, he⟩ := PRd.no_dr hm hj
      have HB2 := Lib.hid (HB1.out.on hB0 hb)
      unfold fails at he
      subst he
      have HJ := Lib.hid hj
      clear hb hm hj hsf
      go_wp2_with fail
      exact ⟨rfl, PRd.mk_no HJ.out (hB0.symm ▸ HB2.out)⟩
    | ok t r =>
      obtain ⟨j, hkj, hj, rfl⟩ := sf_ok hsf
      obtain ⟨hb, v, rfl, hP, a0, c0, rfl, hK⟩ := PRd.ok_dr hm hj
      have HBW := Lib.hid (HM1.out.lt)
      have HB2 := Lib.hid (HB1.out.on hB0 hb)
      have HM2 := Lib.hid (HM1.out.kp (Nat.ne_of_gt hgB.out) hb)
      have HP2 := Lib.hid hP
      have HK2 := Lib.hid hK
      have HJ := Lib.hid hj
      obtain ⟨r0, r1, r2, r3⟩ := cells4 HM2.out
      obtain ⟨f0, f1, f2, f3⟩ := free4 HM2.out
      unfold exV
      clear hb hm hP hK hkj hj hsf hlt0
      go_wp2_with fail
      obtain ⟨q0, q1, q2, q3⟩ := stored4 HM2.out (.int .i64 t.op) (.int .i64 t.n) (.string t.s) (.slice a0 t.args.length c0)
      refine bodyPost_ret (v := .agg #[.int .i64 t.op, .int .i64 t.n, .string t.s, .slice a0 t.args.length c0]) (by simp [results, Tryz.results142, go_sem, q0, q1, q2, q3]) rfl ?_
      have hBW' := HBW.out
      exact PRd.mk_ok HJ.out (kp_wset (hB0.symm ▸ HB2.out) (by omega)) (HP2.out.wset hgB.out) ⟨a0, c0, rfl, kids_less (kids_wset (kids_less HK2.out (by omega))) (by omega)⟩
  · have hm1 := (oper_mem (dr XS k) [18] h0).1
    have hop : oper [18] (dr XS k) = 18 := by simpa using hm1
    rw [hop] at HOp hpre
    have hlt : k < XS.length := by
      rcases Nat.lt_or_ge k XS.length with h | h
      · exact h
      · rw [dr_end h] at hop; exact absurd hop (by decide)
    rw [gX_pre (by decide) (by rw [hpre]; decide), hpre, dr_tail]
    have HN := Lib.hid (fun w' h' => onested_any 142 g (fun _ => by kernel_rfl) XS k ne bl hn hlt (gX 3 (ne + 1) (dr XS (k + 1))) (gX_is (by decide)).2 (H hlt) w' h')
    have hsf : Sf (dr XS (k + 1)) (gX 3 (ne + 1) (dr XS (k + 1))) := (gX_is (by decide)).2
    generalize gX 3 (ne + 1) (dr XS (k + 1)) = q2 at HN hsf ⊢
    have HQ : Hid ((if ne = 24 then R.no (dr XS k) 2 else q2.to fun e r => R.ok (ap 18 [e]) r) = (if ne = 24 then R.no (dr XS k) 2 else q2).to fun e r => R.ok (ap 18 [e]) r) := by
      show _ = _
      split <;> rfl
    generalize (if ne = 24 then R.no (dr XS k) 2 else q2.to fun e r => R.ok (ap 18 [e]) r) = QF at HQ ⊢
    have hsf3 : ∀ r x, (if ne = 24 then R.no (dr XS k) 2 else q2) = .no r x → ∃ j, j ≤ XS.length ∧ r = dr XS j := by
      intro r x hq
      split at hq
      · cases hq; exact ⟨k, hk, rfl⟩
      · subst hq; exact sf_no hsf
    have hsf4 : ∀ t r, (if ne = 24 then R.no (dr XS k) 2 else q2) = .ok t r → ∃ j, k + 1 < j ∧ j ≤ XS.length ∧ r = dr XS j := by
      intro t r hq
      split at hq
      · cases hq
      · subst hq; exact sf_ok hsf
    generalize (if ne = 24 then R.no (dr XS k) 2 else q2) = q3 at *
    have HLT := Lib.hid hlt
    have hmf := hmf
    clear hx1 hx2 hx3 h H H0 hO hI h0 hpre hn hk hop hm1 hsf hlt
    go_enter Tryz.func142, Tryz.ntmps142
    go_wp2_with fail
    generalize ((w.alloc (.cells #[.int .i64 0, .int .i64 0, .string ⟨#[]⟩, .slice none 0 0] 38)).alloc (.cells #[.int .i64 18] 3)) = W0 at *
    generalize hB0 : w.heap.size = B at *
    refine HOp.out.mono ?_; rintro e w1 ⟨rfl, hb, hP1⟩
    have HP1 : Hid (Psr g XS (k + 1) ne bl w1) := hP1
    have HB1 := Lib.hid ((Kp.of HB.out).on hB0 hb)
    have hgB : Hid (g < B) := by show g < B; omega
    have HM1 := Lib.hid (HM.out.kp (by omega) hb)
    clear hb hP1 HOp
    go_wp2_with fail
    refine (HN.out _ HP1.out).mono ?_; intro e w2 hm
    cases q3 with
    | no r x =>
      obtain ⟨j, hj, rfl⟩ := hsf3 r x rfl
      obtain ⟨hb, he⟩ := PRd.no_dr hm hj
      have HB2 := Lib.hid (HB1.out.on hB0 hb)
      unfold fails at he
      subst he
      have HJ := Lib.hid hj
      clear hb hm hj hsf3 hsf4
      go_wp2_with fail
      refine ⟨rfl, ?_⟩
      rw [HQ.out]
      exact PRd.mk_no HJ.out (hB0.symm ▸ HB2.out)
    | ok t r =>
      obtain ⟨j, hkj, hj, rfl⟩ := hsf4 t r rfl
      obtain ⟨hb, v, rfl, hP, a0, c0, rfl, hK⟩ := PRd.ok_dr hm hj
      have hzB : B < w1.heap.size := HM1.out.lt
      have hx1 := below_box w2 (.cells #[.int .i64 t.op, .int .i64 t.n, .string t.s, .slice a0 t.args.length c0] 38)
      have HB2 := Lib.hid ((HB1.out.on hB0 hb).on hB0 (Kp.of hx1))
      have HM2 := Lib.hid ((HM1.out.kp (Nat.ne_of_gt hgB.out) hb).below hx1)
      have HX2 := Lib.hid (Bk.new w2 #[.int .i64 t.op, .int .i64 t.n, .string t.s, .slice a0 t.args.length c0] 38)
      have HP2 := Lib.hid (hP.below hx1)
      have hzg : g < w1.heap.size := HP1.out.lt
      have HK2 := Lib.hid (kidsK hK hzg (Kp.of hx1))
      have HBW := Lib.hid hzB
      have HB2W := Lib.hid hb.size
      have HJ := Lib.hid hj
      have HA := Lib.hid (fun w' => oapply_any 18 (some ⟨w2.heap.size, 0, none⟩) 1 1 w')
      unfold exV
      clear hb hm hP hK hkj hj hsf3 hsf4 hlt0 hzB hx1 hzg
      go_wp2_with fail
      generalize (w2.alloc (.cells #[.int .i64 t.op, .int .i64 t.n, .string t.s, .slice a0 t.args.length c0] 38)) = W2 at *
      generalize w2.heap.size = G at *
      refine (HA.out _).mono ?_; rintro e w4 ⟨rfl, hb4⟩
      have HB4 := Lib.hid (HB2.out.on hB0 (Kp.of hb4))
      have HM4 := Lib.hid (HM2.out.below hb4)
      have HX4 := Lib.hid (HX2.out.below hb4)
      have HP4 := Lib.hid (HP2.out.below hb4)
      have HK4 := Lib.hid (kids_more HK2.out hb4)
      clear hb4
      obtain ⟨r0, r1, r2, r3⟩ := cells4 HM4.out
      obtain ⟨f0, f1, f2, f3⟩ := free4 HM4.out
      go_wp2_with fail
      obtain ⟨q0, q1, q2', q3⟩ := stored4 HM4.out (.int .i64 18) (.int .i64 0) (.string ⟨#[]⟩) (.slice (some ⟨G, 0, none⟩) 1 1)
      refine bodyPost_ret (v := .agg #[.int .i64 18, .int .i64 0, .string ⟨#[]⟩, .slice (some ⟨G, 0, none⟩) 1 1]) (by simp [results, Tryz.results142, go_sem, q0, q1, q2', q3]) rfl ?_
      rw [HQ.out]
      have hBW' := HBW.out
      have hBW2 := HB2W.out
      exact PRd.mk_ok HJ.out (kp_wset (hB0.symm ▸ HB4.out) (by omega)) (HP4.out.wset hgB.out) ⟨some ⟨G, 0, none⟩, 1, rfl, kids_less (kids_wset (kz_1 HX4.out (by omega) (kids_less HK4.out (by omega)))) (by omega)⟩
set_option maxHeartbeats 8000000 in
set_option maxRecDepth 100000 in
theorem oneg_any (g : Nat) (XS : List L.T) (k ne bl : Nat) (hn : ne ≤ 24) (H0 : CF 244 g XS k ne bl (gX 9 ne (dr XS k))) (H : k < XS.length → ne < 24 → CF 243 g XS (k + 1) (ne + 1) bl (gX 8 (ne + 1) (dr XS (k + 1)))) (w : World) (h : Psr g XS k ne bl w) :
    Calls Tryz.prog 243 #[ptr g] w fun e w' => PRdX g XS ne bl w w' (gX 8 ne (dr XS k)) e := by
  have hx1 := below_box w (.cells #[.int .i64 0, .int .i64 0, .string ⟨#[]⟩, .slice none 0 0] 38)
  have hx2 := below_box (w.alloc (.cells #[.int .i64 0, .int .i64 0, .string ⟨#[]⟩, .slice none 0 0] 38)) (.cells #[.int .i64 9] 3)
  have hx3 := below_2 hx1 hx2
  have HM := Lib.hid ((Bk.new w #[.int .i64 0, .int .i64 0, .string ⟨#[]⟩, .slice none 0 0] 38).below hx2)
  have hlt0 := h.lt
  have hk := h.le
  have HP := Lib.hid (h.below hx3)
  have HB := Lib.hid hx3
  have hO : Bk ((w.alloc (.cells #[.int .i64 0, .int .i64 0, .string ⟨#[]⟩, .slice none 0 0] 38)).alloc (.cells #[.int .i64 9] 3)) (w.heap.size + 1) #[.int .i64 9] 3 := by
    have := Bk.new (w.alloc (.cells #[.int .i64 0, .int .i64 0, .string ⟨#[]⟩, .slice none 0 0] 38)) #[.int .i64 9] 3
    simpa using this
  have hI : Ints ((w.alloc (.cells #[.int .i64 0, .int .i64 0, .string ⟨#[]⟩, .slice none 0 0] 38)).alloc (.cells #[.int .i64 9] 3)) (w.heap.size + 1) [9] := ints_of hO (fun j hj => by
    obtain rfl : j = 0 := by simpa using hj
    rfl)
  have HOp := Lib.hid (ooperator_any g XS k ne bl [9] (by decide) (by decide) (w.heap.size + 1) (by omega) _ HP.out hI hO.lt)
  change Hid (Calls _ _ #[ptr g, .slice (some ⟨w.heap.size + 1, 0, none⟩) 1 1] _ _) at HOp
  have hpre := pre_8 (dr XS k)
  by_cases h0 : oper [9] (dr XS k) = 0
  · rw [h0] at HOp hpre
    rw [gX_same (by decide) hpre]
    have HX := Lib.hid (fun w' h' => H0 w' h')
    have hsf : Sf (dr XS k) (gX 9 ne (dr XS k)) := (gX_is (by decide)).2
    change Calls _ _ _ _ fun e w' => PRdX g XS ne bl w w' (gX 9 ne (dr XS k)) e
    generalize gX 9 ne (dr XS k) = q2 at HX hsf ⊢
    clear hx1 hx2 hx3 h H H0 hO hI h0 hpre hn hk
    go_enter Tryz.func243, Tryz.ntmps243
    go_wp2_with fail
    generalize ((w.alloc (.cells #[.int .i64 0, .int .i64 0, .string ⟨#[]⟩, .slice none 0 0] 38)).alloc (.cells #[.int .i64 9] 3)) = W0 at *
    generalize hB0 : w.heap.size = B at *
    refine HOp.out.mono ?_; rintro e w1 ⟨rfl, hb, hP1⟩
    have HP1 : Hid (Psr g XS k ne bl w1) := hP1
    have HB1 := Lib.hid ((Kp.of HB.out).on hB0 hb)
    have hgB : Hid (g < B) := by show g < B; omega
    have HM1 := Lib.hid (HM.out.kp (by omega) hb)
    clear hb hP1 HOp
    go_wp2_with fail
    refine (HX.out _ HP1.out).mono ?_; intro e w2 hm
    cases q2 with
    | no r x =>
      obtain ⟨j, hj, rfl⟩ := sf_no hsf
      obtain ⟨hb, he⟩ := PRd.no_dr hm hj
      have HB2 := Lib.hid (HB1.out.on hB0 hb)
      unfold fails at he
      subst he
      have HJ := Lib.hid hj
      clear hb hm hj hsf
      go_wp2_with fail
      exact ⟨rfl, PRd.mk_no HJ.out (hB0.symm ▸ HB2.out)⟩
    | ok t r =>
      obtain ⟨j, hkj, hj, rfl⟩ := sf_ok hsf
      obtain ⟨hb, v, rfl, hP, a0, c0, rfl, hK⟩ := PRd.ok_dr hm hj
      have HBW := Lib.hid (HM1.out.lt)
      have HB2 := Lib.hid (HB1.out.on hB0 hb)
      have HM2 := Lib.hid (HM1.out.kp (Nat.ne_of_gt hgB.out) hb)
      have HP2 := Lib.hid hP
      have HK2 := Lib.hid hK
      have HJ := Lib.hid hj
      obtain ⟨r0, r1, r2, r3⟩ := cells4 HM2.out
      obtain ⟨f0, f1, f2, f3⟩ := free4 HM2.out
      unfold exV
      clear hb hm hP hK hkj hj hsf hlt0
      go_wp2_with fail
      obtain ⟨q0, q1, q2, q3⟩ := stored4 HM2.out (.int .i64 t.op) (.int .i64 t.n) (.string t.s) (.slice a0 t.args.length c0)
      refine bodyPost_ret (v := .agg #[.int .i64 t.op, .int .i64 t.n, .string t.s, .slice a0 t.args.length c0]) (by simp [results, Tryz.results243, go_sem, q0, q1, q2, q3]) rfl ?_
      have hBW' := HBW.out
      exact PRd.mk_ok HJ.out (kp_wset (hB0.symm ▸ HB2.out) (by omega)) (HP2.out.wset hgB.out) ⟨a0, c0, rfl, kids_less (kids_wset (kids_less HK2.out (by omega))) (by omega)⟩
  · have hm1 := (oper_mem (dr XS k) [9] h0).1
    have hop : oper [9] (dr XS k) = 9 := by simpa using hm1
    rw [hop] at HOp hpre
    have hlt : k < XS.length := by
      rcases Nat.lt_or_ge k XS.length with h | h
      · exact h
      · rw [dr_end h] at hop; exact absurd hop (by decide)
    rw [gX_pre (by decide) (by rw [hpre]; decide), hpre, dr_tail]
    have HN := Lib.hid (fun w' h' => onested_any 243 g (fun _ => by kernel_rfl) XS k ne bl hn hlt (gX 8 (ne + 1) (dr XS (k + 1))) (gX_is (by decide)).2 (H hlt) w' h')
    have hsf : Sf (dr XS (k + 1)) (gX 8 (ne + 1) (dr XS (k + 1))) := (gX_is (by decide)).2
    generalize gX 8 (ne + 1) (dr XS (k + 1)) = q2 at HN hsf ⊢
    have HQ : Hid ((if ne = 24 then R.no (dr XS k) 2 else q2.to fun e r => R.ok (ap 9 [e]) r) = (if ne = 24 then R.no (dr XS k) 2 else q2).to fun e r => R.ok (ap 9 [e]) r) := by
      show _ = _
      split <;> rfl
    generalize (if ne = 24 then R.no (dr XS k) 2 else q2.to fun e r => R.ok (ap 9 [e]) r) = QF at HQ ⊢
    have hsf3 : ∀ r x, (if ne = 24 then R.no (dr XS k) 2 else q2) = .no r x → ∃ j, j ≤ XS.length ∧ r = dr XS j := by
      intro r x hq
      split at hq
      · cases hq; exact ⟨k, hk, rfl⟩
      · subst hq; exact sf_no hsf
    have hsf4 : ∀ t r, (if ne = 24 then R.no (dr XS k) 2 else q2) = .ok t r → ∃ j, k + 1 < j ∧ j ≤ XS.length ∧ r = dr XS j := by
      intro t r hq
      split at hq
      · cases hq
      · subst hq; exact sf_ok hsf
    generalize (if ne = 24 then R.no (dr XS k) 2 else q2) = q3 at *
    have HLT := Lib.hid hlt
    have hmf := hmf
    clear hx1 hx2 hx3 h H H0 hO hI h0 hpre hn hk hop hm1 hsf hlt
    go_enter Tryz.func243, Tryz.ntmps243
    go_wp2_with fail
    generalize ((w.alloc (.cells #[.int .i64 0, .int .i64 0, .string ⟨#[]⟩, .slice none 0 0] 38)).alloc (.cells #[.int .i64 9] 3)) = W0 at *
    generalize hB0 : w.heap.size = B at *
    refine HOp.out.mono ?_; rintro e w1 ⟨rfl, hb, hP1⟩
    have HP1 : Hid (Psr g XS (k + 1) ne bl w1) := hP1
    have HB1 := Lib.hid ((Kp.of HB.out).on hB0 hb)
    have hgB : Hid (g < B) := by show g < B; omega
    have HM1 := Lib.hid (HM.out.kp (by omega) hb)
    clear hb hP1 HOp
    go_wp2_with fail
    refine (HN.out _ HP1.out).mono ?_; intro e w2 hm
    cases q3 with
    | no r x =>
      obtain ⟨j, hj, rfl⟩ := hsf3 r x rfl
      obtain ⟨hb, he⟩ := PRd.no_dr hm hj
      have HB2 := Lib.hid (HB1.out.on hB0 hb)
      unfold fails at he
      subst he
      have HJ := Lib.hid hj
      clear hb hm hj hsf3 hsf4
      go_wp2_with fail
      refine ⟨rfl, ?_⟩
      rw [HQ.out]
      exact PRd.mk_no HJ.out (hB0.symm ▸ HB2.out)
    | ok t r =>
      obtain ⟨j, hkj, hj, rfl⟩ := hsf4 t r rfl
      obtain ⟨hb, v, rfl, hP, a0, c0, rfl, hK⟩ := PRd.ok_dr hm hj
      have hzB : B < w1.heap.size := HM1.out.lt
      have hx1 := below_box w2 (.cells #[.int .i64 t.op, .int .i64 t.n, .string t.s, .slice a0 t.args.length c0] 38)
      have HB2 := Lib.hid ((HB1.out.on hB0 hb).on hB0 (Kp.of hx1))
      have HM2 := Lib.hid ((HM1.out.kp (Nat.ne_of_gt hgB.out) hb).below hx1)
      have HX2 := Lib.hid (Bk.new w2 #[.int .i64 t.op, .int .i64 t.n, .string t.s, .slice a0 t.args.length c0] 38)
      have HP2 := Lib.hid (hP.below hx1)
      have hzg : g < w1.heap.size := HP1.out.lt
      have HK2 := Lib.hid (kidsK hK hzg (Kp.of hx1))
      have HBW := Lib.hid hzB
      have HB2W := Lib.hid hb.size
      have HJ := Lib.hid hj
      have HA := Lib.hid (fun w' => oapply_any 9 (some ⟨w2.heap.size, 0, none⟩) 1 1 w')
      unfold exV
      clear hb hm hP hK hkj hj hsf3 hsf4 hlt0 hzB hx1 hzg
      go_wp2_with fail
      generalize (w2.alloc (.cells #[.int .i64 t.op, .int .i64 t.n, .string t.s, .slice a0 t.args.length c0] 38)) = W2 at *
      generalize w2.heap.size = G at *
      refine (HA.out _).mono ?_; rintro e w4 ⟨rfl, hb4⟩
      have HB4 := Lib.hid (HB2.out.on hB0 (Kp.of hb4))
      have HM4 := Lib.hid (HM2.out.below hb4)
      have HX4 := Lib.hid (HX2.out.below hb4)
      have HP4 := Lib.hid (HP2.out.below hb4)
      have HK4 := Lib.hid (kids_more HK2.out hb4)
      clear hb4
      obtain ⟨r0, r1, r2, r3⟩ := cells4 HM4.out
      obtain ⟨f0, f1, f2, f3⟩ := free4 HM4.out
      go_wp2_with fail
      obtain ⟨q0, q1, q2', q3⟩ := stored4 HM4.out (.int .i64 9) (.int .i64 0) (.string ⟨#[]⟩) (.slice (some ⟨G, 0, none⟩) 1 1)
      refine bodyPost_ret (v := .agg #[.int .i64 9, .int .i64 0, .string ⟨#[]⟩, .slice (some ⟨G, 0, none⟩) 1 1]) (by simp [results, Tryz.results243, go_sem, q0, q1, q2', q3]) rfl ?_
      rw [HQ.out]
      have hBW' := HBW.out
      have hBW2 := HB2W.out
      exact PRd.mk_ok HJ.out (kp_wset (hB0.symm ▸ HB4.out) (by omega)) (HP4.out.wset hgB.out) ⟨some ⟨G, 0, none⟩, 1, rfl, kids_less (kids_wset (kz_1 HX4.out (by omega) (kids_less HK4.out (by omega)))) (by omega)⟩
end Go.Proofs.YteglaeopaocilaaGreatDoor.P
namespace Go.Proofs.YteglaeopaocilaaGreatDoor.P
open Go.RowKit
open L (Str Tok Tks toks At below_2 below_box ret_bool ret_int ret_string)
open A

theorem leaf_nxt {XS : List L.T} {k : Nat} : P.leaf (dr XS k) = if (nxt XS k).k = 3 then some (.mk 1 (nxt XS k).n none8 []) else if (nxt XS k).k = 4 then some (.mk 2 0 (nxt XS k).t []) else if (nxt XS k).k = 1 then some (.mk 3 0 (nxt XS k).t []) else none := by
  rcases Nat.lt_or_ge k XS.length with h | h
  · rw [nxt_in h, dr_cons h]
    unfold P.leaf L.T.tok
    simp only
  · rw [nxt_out h, dr_end h]; rfl
theorem par_call {l : T} (h : isW l [40] = true) : callOp l = 0 ∧ oper [20, 21, 22, 23, 24] l = 0 ∧ oper [25, 26, 27] l = 0 := by
  have hx : tkw l = some [40] := by rw [isW_tkw] at h; exact of_decide_eq_true h
  unfold callOp
  rw [findW_tkw, oper_tkw, oper_tkw, hx]
  decide
set_option maxHeartbeats 8000000 in
set_option maxRecDepth 100000 in
theorem ounit_3 (g : Nat) (XS : List L.T) (k ne bl : Nat) (hkd : (nxt XS k).k = 3) (w : World) (h : Psr g XS k ne bl w) :
    Calls Tryz.prog 244 #[ptr g] w fun e w' => PRdX g XS ne bl w w' (gU ne (dr XS k)) e := by
  have hx1 := below_box w (.cells #[.int .i64 0, .int .i64 0, .string ⟨#[]⟩, .slice none 0 0] 38)
  have HM := Lib.hid (Bk.new w #[.int .i64 0, .int .i64 0, .string ⟨#[]⟩, .slice none 0 0] 38)
  have hlt0 := h.lt
  have hk := h.le
  have HP := Lib.hid (h.below hx1)
  have HB := Lib.hid hx1
  have HN := Lib.hid (onext_any g XS k ne bl _ HP.out)
  have hleaf := leaf_nxt (XS := XS) (k := k)
  have hlt : k < XS.length := by
    rcases Nat.lt_or_ge k XS.length with h | h
    · exact h
    · rw [nxt_out h] at hkd; exact absurd hkd (by decide)
  rw [gU_step, hleaf, hkd]
  have HT := Lib.hid (fun w' h' => otoken_any g XS k ne bl w' h' 3 (by decide))
  unfold tQ at HT
  simp only [if_pos (And.intro hlt hkd)] at HT
  show Calls _ _ _ _ fun e w' => PRdX g XS ne bl w w' (.ok (.mk 1 (nxt XS k).n none8 []) (dr XS k).tail) e
  rw [dr_tail]
  have HLT : Hid (k + 1 ≤ XS.length) := hlt
  generalize nxt XS k = p at *
  unfold L.T.val at HN
  have hfld0 : ∀ w : World, (Instr.field 101 (.agg #[.int .i64 p.k, .string p.t, .int .i64 p.n, .int .i64 p.line]) 0).run Tryz.prog w = .ok (.int .i64 p.k) w := fun _ => by kernel_rfl
  have hfld2 : ∀ w : World, (Instr.field 101 (.agg #[.int .i64 p.k, .string p.t, .int .i64 p.n, .int .i64 p.line]) 2).run Tryz.prog w = .ok (.int .i64 p.n) w := fun _ => by kernel_rfl
  have b3 : (p.k == 3) = true := by rw [hkd]; rfl
  have b4 : (p.k == 4) = false := by rw [hkd]; rfl
  have b1 : (p.k == 1) = false := by rw [hkd]; rfl
  clear hx1 h hk hleaf hkd hlt
  go_enter Tryz.func244, Tryz.ntmps244
  go_wp2_with fail
  generalize (w.alloc (.cells #[.int .i64 0, .int .i64 0, .string ⟨#[]⟩, .slice none 0 0] 38)) = W0 at *
  generalize hB0 : w.heap.size = B at *
  refine HN.out.mono ?_; rintro e w1 ⟨rfl, hb1⟩
  have HB1 := Lib.hid (below_on HB.out hB0 hb1)
  have HM1 := Lib.hid (HM.out.below hb1)
  have HP1 := Lib.hid (HP.out.below hb1)
  have hgB : Hid (g < B) := by show g < B; omega
  clear hb1
  go_wp2_with fail
  refine (HT.out _ HP1.out).mono ?_; intro e w2 hm
  obtain ⟨hb, v, rfl, hP, hv⟩ := PRd.ok_dr hm HLT.out
  unfold okT L.T.val at hv
  subst hv
  have HB2 := Lib.hid ((Kp.of HB1.out).on hB0 hb)
  have HM2 := Lib.hid (HM1.out.kp (Nat.ne_of_gt hgB.out) hb)
  have HP2 := Lib.hid hP
  obtain ⟨r0, r1, r2, r3⟩ := cells4 HM2.out
  obtain ⟨f0, f1, f2, f3⟩ := free4 HM2.out
  clear hb hm hP
  go_wp2_with fail
  obtain ⟨q0, q1, q2, q3⟩ := stored4 HM2.out (.int .i64 1) (.int .i64 p.n) (.string ⟨#[]⟩) (.slice none 0 0)
  refine bodyPost_ret (v := .agg #[.int .i64 1, .int .i64 p.n, .string ⟨#[]⟩, .slice none 0 0]) (by simp [results, Tryz.results244, go_sem, q0, q1, q2, q3]) rfl ?_
  exact PRd.mk_ok HLT.out (kp_wset (hB0.symm ▸ HB2.out) (by omega)) (HP2.out.wset hgB.out) ⟨none, 0, rfl, Or.inl rfl⟩
set_option maxHeartbeats 8000000 in
set_option maxRecDepth 100000 in
theorem ounit_4 (g : Nat) (XS : List L.T) (k ne bl : Nat) (hkd : (nxt XS k).k = 4) (w : World) (h : Psr g XS k ne bl w) :
    Calls Tryz.prog 244 #[ptr g] w fun e w' => PRdX g XS ne bl w w' (gU ne (dr XS k)) e := by
  have hx1 := below_box w (.cells #[.int .i64 0, .int .i64 0, .string ⟨#[]⟩, .slice none 0 0] 38)
  have HM := Lib.hid (Bk.new w #[.int .i64 0, .int .i64 0, .string ⟨#[]⟩, .slice none 0 0] 38)
  have hlt0 := h.lt
  have hk := h.le
  have HP := Lib.hid (h.below hx1)
  have HB := Lib.hid hx1
  have HN := Lib.hid (onext_any g XS k ne bl _ HP.out)
  have hleaf := leaf_nxt (XS := XS) (k := k)
  have hlt : k < XS.length := by
    rcases Nat.lt_or_ge k XS.length with h | h
    · exact h
    · rw [nxt_out h] at hkd; exact absurd hkd (by decide)
  rw [gU_step, hleaf, hkd]
  have HT := Lib.hid (fun w' h' => otoken_any g XS k ne bl w' h' 4 (by decide))
  unfold tQ at HT
  simp only [if_pos (And.intro hlt hkd)] at HT
  show Calls _ _ _ _ fun e w' => PRdX g XS ne bl w w' (.ok (.mk 2 0 (nxt XS k).t []) (dr XS k).tail) e
  rw [dr_tail]
  have HLT : Hid (k + 1 ≤ XS.length) := hlt
  generalize nxt XS k = p at *
  unfold L.T.val at HN
  have hfld0 : ∀ w : World, (Instr.field 101 (.agg #[.int .i64 p.k, .string p.t, .int .i64 p.n, .int .i64 p.line]) 0).run Tryz.prog w = .ok (.int .i64 p.k) w := fun _ => by kernel_rfl
  have hfld1 : ∀ w : World, (Instr.field 101 (.agg #[.int .i64 p.k, .string p.t, .int .i64 p.n, .int .i64 p.line]) 1).run Tryz.prog w = .ok (.string p.t) w := fun _ => by kernel_rfl
  have b3 : (p.k == 3) = false := by rw [hkd]; rfl
  have b4 : (p.k == 4) = true := by rw [hkd]; rfl
  have b1 : (p.k == 1) = false := by rw [hkd]; rfl
  clear hx1 h hk hleaf hkd hlt
  go_enter Tryz.func244, Tryz.ntmps244
  go_wp2_with fail
  generalize (w.alloc (.cells #[.int .i64 0, .int .i64 0, .string ⟨#[]⟩, .slice none 0 0] 38)) = W0 at *
  generalize hB0 : w.heap.size = B at *
  refine HN.out.mono ?_; rintro e w1 ⟨rfl, hb1⟩
  have HB1 := Lib.hid (below_on HB.out hB0 hb1)
  have HM1 := Lib.hid (HM.out.below hb1)
  have HP1 := Lib.hid (HP.out.below hb1)
  have hgB : Hid (g < B) := by show g < B; omega
  clear hb1
  go_wp2_with fail
  refine (HT.out _ HP1.out).mono ?_; intro e w2 hm
  obtain ⟨hb, v, rfl, hP, hv⟩ := PRd.ok_dr hm HLT.out
  unfold okT L.T.val at hv
  subst hv
  have HB2 := Lib.hid ((Kp.of HB1.out).on hB0 hb)
  have HM2 := Lib.hid (HM1.out.kp (Nat.ne_of_gt hgB.out) hb)
  have HP2 := Lib.hid hP
  obtain ⟨r0, r1, r2, r3⟩ := cells4 HM2.out
  obtain ⟨f0, f1, f2, f3⟩ := free4 HM2.out
  clear hb hm hP
  go_wp2_with fail
  obtain ⟨q0, q1, q2, q3⟩ := stored4 HM2.out (.int .i64 2) (.int .i64 0) (.string p.t) (.slice none 0 0)
  refine bodyPost_ret (v := .agg #[.int .i64 2, .int .i64 0, .string p.t, .slice none 0 0]) (by simp [results, Tryz.results244, go_sem, q0, q1, q2, q3]) rfl ?_
  exact PRd.mk_ok HLT.out (kp_wset (hB0.symm ▸ HB2.out) (by omega)) (HP2.out.wset hgB.out) ⟨none, 0, rfl, Or.inl rfl⟩
set_option maxHeartbeats 8000000 in
set_option maxRecDepth 100000 in
theorem ounit_1 (g : Nat) (XS : List L.T) (k ne bl : Nat) (hkd : (nxt XS k).k = 1) (w : World) (h : Psr g XS k ne bl w) :
    Calls Tryz.prog 244 #[ptr g] w fun e w' => PRdX g XS ne bl w w' (gU ne (dr XS k)) e := by
  have hx1 := below_box w (.cells #[.int .i64 0, .int .i64 0, .string ⟨#[]⟩, .slice none 0 0] 38)
  have HM := Lib.hid (Bk.new w #[.int .i64 0, .int .i64 0, .string ⟨#[]⟩, .slice none 0 0] 38)
  have hlt0 := h.lt
  have hk := h.le
  have HP := Lib.hid (h.below hx1)
  have HB := Lib.hid hx1
  have HN := Lib.hid (onext_any g XS k ne bl _ HP.out)
  have hleaf := leaf_nxt (XS := XS) (k := k)
  have hlt : k < XS.length := by
    rcases Nat.lt_or_ge k XS.length with h | h
    · exact h
    · rw [nxt_out h] at hkd; exact absurd hkd (by decide)
  rw [gU_step, hleaf, hkd]
  have HT := Lib.hid (fun w' h' => oname_any g XS k ne bl w' h')
  have hnq : nQ XS k = .ok (nxt XS k).t (dr XS (k + 1)) := by
    rw [nQ_t]; unfold tQ; rw [if_pos ⟨hlt, hkd⟩]; rfl
  rw [hnq] at HT
  show Calls _ _ _ _ fun e w' => PRdX g XS ne bl w w' (.ok (.mk 3 0 (nxt XS k).t []) (dr XS k).tail) e
  rw [dr_tail]
  have HLT : Hid (k + 1 ≤ XS.length) := hlt
  generalize nxt XS k = p at *
  unfold L.T.val at HN
  have hfld0 : ∀ w : World, (Instr.field 101 (.agg #[.int .i64 p.k, .string p.t, .int .i64 p.n, .int .i64 p.line]) 0).run Tryz.prog w = .ok (.int .i64 p.k) w := fun _ => by kernel_rfl
  
  have b3 : (p.k == 3) = false := by rw [hkd]; rfl
  have b4 : (p.k == 4) = false := by rw [hkd]; rfl
  have b1 : (p.k == 1) = true := by rw [hkd]; rfl
  clear hx1 h hk hleaf hkd hlt
  go_enter Tryz.func244, Tryz.ntmps244
  go_wp2_with fail
  generalize (w.alloc (.cells #[.int .i64 0, .int .i64 0, .string ⟨#[]⟩, .slice none 0 0] 38)) = W0 at *
  generalize hB0 : w.heap.size = B at *
  refine HN.out.mono ?_; rintro e w1 ⟨rfl, hb1⟩
  have HB1 := Lib.hid (below_on HB.out hB0 hb1)
  have HM1 := Lib.hid (HM.out.below hb1)
  have HP1 := Lib.hid (HP.out.below hb1)
  have hgB : Hid (g < B) := by show g < B; omega
  clear hb1
  go_wp2_with fail
  refine (HT.out _ HP1.out).mono ?_; intro e w2 hm
  obtain ⟨hb, v, rfl, hP, hv⟩ := PRd.ok_dr hm HLT.out
  unfold okN at hv
  subst hv
  have HB2 := Lib.hid ((Kp.of HB1.out).on hB0 hb)
  have HM2 := Lib.hid (HM1.out.kp (Nat.ne_of_gt hgB.out) hb)
  have HP2 := Lib.hid hP
  obtain ⟨r0, r1, r2, r3⟩ := cells4 HM2.out
  obtain ⟨f0, f1, f2, f3⟩ := free4 HM2.out
  clear hb hm hP
  go_wp2_with fail
  obtain ⟨q0, q1, q2, q3⟩ := stored4 HM2.out (.int .i64 3) (.int .i64 0) (.string p.t) (.slice none 0 0)
  refine bodyPost_ret (v := .agg #[.int .i64 3, .int .i64 0, .string p.t, .slice none 0 0]) (by simp [results, Tryz.results244, go_sem, q0, q1, q2, q3]) rfl ?_
  exact PRd.mk_ok HLT.out (kp_wset (hB0.symm ▸ HB2.out) (by omega)) (HP2.out.wset hgB.out) ⟨none, 0, rfl, Or.inl rfl⟩
end Go.Proofs.YteglaeopaocilaaGreatDoor.P
namespace Go.Proofs.YteglaeopaocilaaGreatDoor.P
open Go.RowKit
open L (Str Tok Tks toks At below_2 below_box ret_bool ret_int ret_string)
open A

set_option maxHeartbeats 8000000 in
set_option maxRecDepth 100000 in
theorem ounit_par (g : Nat) (XS : List L.T) (k ne bl : Nat) (hn : ne ≤ 24) (hno : (nxt XS k).k ≠ 3 ∧ (nxt XS k).k ≠ 4 ∧ (nxt XS k).k ≠ 1) (h4 : isW (dr XS k) [40] = true) (H : k < XS.length → ne < 24 → CF 44 g XS (k + 1) (ne + 1) bl (gX 1 (ne + 1) (dr XS (k + 1)))) (w : World) (h : Psr g XS k ne bl w) :
    Calls Tryz.prog 244 #[ptr g] w fun e w' => PRdX g XS ne bl w w' (gU ne (dr XS k)) e := by
  have hx1 := below_box w (.cells #[.int .i64 0, .int .i64 0, .string ⟨#[]⟩, .slice none 0 0] 38)
  have HM := Lib.hid (Bk.new w #[.int .i64 0, .int .i64 0, .string ⟨#[]⟩, .slice none 0 0] 38)
  have hlt0 := h.lt
  have hk := h.le
  have HP := Lib.hid (h.below hx1)
  have HB := Lib.hid hx1
  have HN := Lib.hid (onext_any g XS k ne bl _ HP.out)
  have hleaf := leaf_nxt (XS := XS) (k := k)
  rw [if_neg hno.1, if_neg hno.2.1, if_neg hno.2.2] at hleaf
  have HT := Lib.hid (fun w' h' => otake_any g XS k ne bl w' h' ⟨#[40]⟩)
  change Hid (∀ w' (h' : Psr g XS k ne bl w'), Calls _ _ _ _ fun e w'' => e = .returned (.bool (isW (dr XS k) [40])) ∧ Kp w'.heap.size g w' w'' ∧ Psr g XS (adv (isW (dr XS k) [40]) k) ne bl w'') at HT
  have h40 := h4
  rw [h40] at HT
  have hlt : k < XS.length := by
    rcases Nat.lt_or_ge k XS.length with h | h
    · exact h
    · rw [is_none h] at h40; cases h40
  have hsf0 : Sf (dr XS (k + 1)) (gX 1 (ne + 1) (dr XS (k + 1))) := (gX_is (by decide)).2
  have HN2 := Lib.hid (fun w' h' => onested_any 245 g (fun _ => by kernel_rfl) XS k ne bl hn hlt ((gX 1 (ne + 1) (dr XS (k + 1))).to closeE) (sf_close hsf0 [41]) (fun hl w' h' => oenclosed_any g XS (k + 1) (ne + 1) bl _ hsf0 (H hlt hl) w' h') w' h')
  have hsf : Sf (dr XS (k + 1)) ((gX 1 (ne + 1) (dr XS (k + 1))).to closeE) := sf_close hsf0 [41]
  have hQ : gU ne (dr XS k) = (if ne = 24 then R.no (dr XS k) 2 else (gX 1 (ne + 1) (dr XS (k + 1))).to closeE) := by
    rw [gU_step, hleaf]
    show (if 25 ≤ callOp (dr XS k) then _ else _) = _
    rw [(par_call h40).1, if_neg (by decide), if_neg (fun e => by rw [h40] at e; exact absurd e.2 (by decide)), if_pos rfl, gI_step, if_pos h40, dr_tail]
  generalize (gX 1 (ne + 1) (dr XS (k + 1))).to closeE = q2 at HN2 hsf hQ
  have hsf3 : ∀ r x, (if ne = 24 then R.no (dr XS k) 2 else q2) = .no r x → ∃ j, j ≤ XS.length ∧ r = dr XS j := by
    intro r x hq
    split at hq
    · cases hq; exact ⟨k, hk, rfl⟩
    · subst hq; exact sf_no hsf
  have hsf4 : ∀ t r, (if ne = 24 then R.no (dr XS k) 2 else q2) = .ok t r → ∃ j, k + 1 < j ∧ j ≤ XS.length ∧ r = dr XS j := by
    intro t r hq
    split at hq
    · cases hq
    · subst hq; exact sf_ok hsf
  generalize (if ne = 24 then R.no (dr XS k) 2 else q2) = q3 at *
  rw [hQ]
  obtain ⟨QF, hQF⟩ : ∃ QF, QF = q3 := ⟨_, rfl⟩
  have HQ := Lib.hid hQF
  rw [← hQF]
  clear hQF h4 h40 hlt hsf0 hsf hQ hn H hk
  have hmf := hmf
  have b3 : ((nxt XS k).k == 3) = false := beq_eq_false_iff_ne.2 hno.1
  have b4 : ((nxt XS k).k == 4) = false := beq_eq_false_iff_ne.2 hno.2.1
  have b1 : ((nxt XS k).k == 1) = false := beq_eq_false_iff_ne.2 hno.2.2
  generalize nxt XS k = p at *
  unfold L.T.val at HN
  have hfld0 : ∀ w : World, (Instr.field 101 (.agg #[.int .i64 p.k, .string p.t, .int .i64 p.n, .int .i64 p.line]) 0).run Tryz.prog w = .ok (.int .i64 p.k) w := fun _ => by kernel_rfl
  clear hx1 h hleaf hno
  go_enter Tryz.func244, Tryz.ntmps244
  go_wp2_with fail
  generalize (w.alloc (.cells #[.int .i64 0, .int .i64 0, .string ⟨#[]⟩, .slice none 0 0] 38)) = W0 at *
  generalize hB0 : w.heap.size = B at *
  refine HN.out.mono ?_; rintro e w1 ⟨rfl, hb1⟩
  have HB1 := Lib.hid (below_on HB.out hB0 hb1)
  have HM1 := Lib.hid (HM.out.below hb1)
  have HP1 := Lib.hid (HP.out.below hb1)
  have hgB : Hid (g < B) := by show g < B; omega
  clear hb1
  go_wp2_with fail
  refine (HT.out _ HP1.out).mono ?_; rintro e w2 ⟨rfl, hb, hP2⟩
  have HP2 : Hid (Psr g XS (k + 1) ne bl w2) := hP2
  have HB2 := Lib.hid ((Kp.of HB1.out).on hB0 hb)
  have HM2 := Lib.hid (HM1.out.kp (Nat.ne_of_gt hgB.out) hb)
  clear hb hP2 HT
  go_wp2_with fail
  refine (HN2.out _ HP2.out).mono ?_; intro e w3 hm
  cases q3 with
  | no r x =>
    obtain ⟨j, hj, rfl⟩ := hsf3 r x rfl
    obtain ⟨hb, he⟩ := PRd.no_dr hm hj
    have HBp := Lib.hid (HB2.out.on hB0 hb)
    unfold fails at he
    subst he
    have HJ := Lib.hid hj
    clear hb hm hj
    go_wp2_with fail
    refine ⟨rfl, ?_⟩
    rw [HQ.out]
    exact PRd.mk_no HJ.out (hB0.symm ▸ HBp.out)
  | ok t r =>
    obtain ⟨j, hkj, hj, rfl⟩ := hsf4 t r rfl
    obtain ⟨hb, v, rfl, hP, a0, c0, rfl, hK⟩ := PRd.ok_dr hm hj
    have HBWz := Lib.hid (HM2.out.lt)
    have HB3 := Lib.hid (HB2.out.on hB0 hb)
    have HM3 := Lib.hid (HM2.out.kp (Nat.ne_of_gt hgB.out) hb)
    have HP3 := Lib.hid hP
    have HK3 := Lib.hid hK
    have HJ := Lib.hid hj
    obtain ⟨r0, r1, r2, r3⟩ := cells4 HM3.out
    obtain ⟨f0, f1, f2, f3⟩ := free4 HM3.out
    unfold exV
    clear hb hm hP hK hkj hj hsf3 hsf4 hlt0
    go_wp2_with fail
    obtain ⟨q0, q1, q2, q3⟩ := stored4 HM3.out (.int .i64 t.op) (.int .i64 t.n) (.string t.s) (.slice a0 t.args.length c0)
    refine bodyPost_ret (v := .agg #[.int .i64 t.op, .int .i64 t.n, .string t.s, .slice a0 t.args.length c0]) (by simp [results, Tryz.results244, go_sem, q0, q1, q2, q3]) rfl ?_
    have hBW' := HBWz.out
    rw [HQ.out]
    exact PRd.mk_ok HJ.out (kp_wset (hB0.symm ▸ HB3.out) (by omega)) (HP3.out.wset hgB.out) ⟨a0, c0, rfl, kids_less (kids_wset (kids_less HK3.out (by omega))) (by omega)⟩
end Go.Proofs.YteglaeopaocilaaGreatDoor.P
namespace Go.Proofs.YteglaeopaocilaaGreatDoor.P
open Go.RowKit
open L (Str Tok Tks toks At below_2 below_box ret_bool ret_int ret_string)
open A

set_option maxHeartbeats 8000000 in
set_option maxRecDepth 100000 in
theorem qunit_call (g : Nat) (XS : List L.T) (k ne bl : Nat) (hn : ne ≤ 24) (hno : (nxt XS k).k ≠ 3 ∧ (nxt XS k).k ≠ 4 ∧ (nxt XS k).k ≠ 1) (h4 : isW (dr XS k) [40] = false) (h5 : oper [20, 21, 22, 23, 24] (dr XS k) ≠ 0) (H : k + 1 < XS.length → ne < 24 → CF 44 g XS (k + 1 + 1) (ne + 1) bl (gX 1 (ne + 1) (dr XS (k + 1 + 1)))) (w : World) (h : Psr g XS k ne bl w) :
    Calls Tryz.prog 244 #[ptr g] w fun e w' => PRdX g XS ne bl w w' (gU ne (dr XS k)) e := by
  have hx1 := below_box w (.cells #[.int .i64 0, .int .i64 0, .string ⟨#[]⟩, .slice none 0 0] 38)
  have HM := Lib.hid (Bk.new w #[.int .i64 0, .int .i64 0, .string ⟨#[]⟩, .slice none 0 0] 38)
  have hlt0 := h.lt
  have hk := h.le
  have HP := Lib.hid (h.below hx1)
  have HB := Lib.hid hx1
  have HN := Lib.hid (onext_any g XS k ne bl _ HP.out)
  have hleaf := leaf_nxt (XS := XS) (k := k)
  rw [if_neg hno.1, if_neg hno.2.1, if_neg hno.2.2] at hleaf
  have HT := Lib.hid (fun w' h' => otake_any g XS k ne bl w' h' ⟨#[40]⟩)
  change Hid (∀ w' (h' : Psr g XS k ne bl w'), Calls _ _ _ _ fun e w'' => e = .returned (.bool (isW (dr XS k) [40])) ∧ Kp w'.heap.size g w' w'' ∧ Psr g XS (adv (isW (dr XS k) [40]) k) ne bl w'') at HT
  have h40 := h4
  rw [h40] at HT
  have hI5 := fun (w' : World) (h' : Psr g XS k ne bl w') (b : Nat) (hb : b ≠ g) (hO : Bk w' b #[.int .i64 20, .int .i64 21, .int .i64 22, .int .i64 23, .int .i64 24] 3) => ooperator_any g XS k ne bl [20, 21, 22, 23, 24] (by decide) (by decide) b hb w' h' (ints_of hO (fun j hj => by
      have hj' : j < 5 := hj
      have : j = 0 ∨ j = 1 ∨ j = 2 ∨ j = 3 ∨ j = 4 := by omega
      rcases this with rfl | rfl | rfl | rfl | rfl <;> rfl)) hO.lt
  have HO5 := Lib.hid hI5
  have hm1 := (oper_mem (dr XS k) [20, 21, 22, 23, 24] h5).1
  have hlt : k < XS.length := by
    rcases Nat.lt_or_ge k XS.length with h | h
    · exact h
    · rw [dr_end h] at h5; exact absurd rfl h5
  have hcall : callOp (dr XS k) = (oper [20, 21, 22, 23, 24] (dr XS k) : Nat) := by rw [call_ops, if_neg h5]
  obtain ⟨op, hop⟩ : ∃ op, oper [20, 21, 22, 23, 24] (dr XS k) = op := ⟨_, rfl⟩
  rw [hop] at hm1 hcall h5
  have hop24 : 20 ≤ op ∧ op ≤ 24 := by
    simp only [List.mem_cons, List.not_mem_nil, or_false] at hm1
    omega
  have HOP := Lib.hid hop
  have hbne : ((op : Int) != 0) = true := bne_iff_ne.2 (by omega)
  have H5 := Lib.hid h5
  have HN2 := Lib.hid (fun w' h' => onested_any 246 g (fun _ => by kernel_rfl) XS k ne bl hn hlt (gI (ne + 1) (dr XS (k + 1))) (gI_is _ _).2 (fun hl w' h' => oargument_any g XS (k + 1) (ne + 1) bl (fun h2 => H h2 hl) w' h') w' h')
  have hsf : Sf (dr XS (k + 1)) (gI (ne + 1) (dr XS (k + 1))) := (gI_is _ _).2
  have hQ : gU ne (dr XS k) = (if ne = 24 then R.no (dr XS k) 2 else gI (ne + 1) (dr XS (k + 1))).to fun e r => R.ok (ap op [e]) r := by
    rw [gU_step, hleaf]
    show (if 25 ≤ callOp (dr XS k) then _ else _) = _
    rw [hcall, if_neg (by omega), if_neg (fun e => by have := e.1; omega), dr_tail]
    split
    · rfl
    · rw [if_neg (by omega)]
  generalize gI (ne + 1) (dr XS (k + 1)) = q2 at HN2 hsf hQ
  have hsf3 : ∀ r x, (if ne = 24 then R.no (dr XS k) 2 else q2) = .no r x → ∃ j, j ≤ XS.length ∧ r = dr XS j := by
    intro r x hq
    split at hq
    · cases hq; exact ⟨k, hk, rfl⟩
    · subst hq; exact sf_no hsf
  have hsf4 : ∀ t r, (if ne = 24 then R.no (dr XS k) 2 else q2) = .ok t r → ∃ j, k + 1 < j ∧ j ≤ XS.length ∧ r = dr XS j := by
    intro t r hq
    split at hq
    · cases hq
    · subst hq; exact sf_ok hsf
  generalize (if ne = 24 then R.no (dr XS k) 2 else q2) = q3 at *
  have HQ := Lib.hid hQ
  generalize gU ne (dr XS k) = QF at HQ ⊢
  clear h4 h40 hlt hsf hQ hn H hk hI5 hm1 hcall hop h5 hop24
  have hmf := hmf
  have b3 : ((nxt XS k).k == 3) = false := beq_eq_false_iff_ne.2 hno.1
  have b4 : ((nxt XS k).k == 4) = false := beq_eq_false_iff_ne.2 hno.2.1
  have b1 : ((nxt XS k).k == 1) = false := beq_eq_false_iff_ne.2 hno.2.2
  generalize nxt XS k = p at *
  unfold L.T.val at HN
  have hfld0 : ∀ w : World, (Instr.field 101 (.agg #[.int .i64 p.k, .string p.t, .int .i64 p.n, .int .i64 p.line]) 0).run Tryz.prog w = .ok (.int .i64 p.k) w := fun _ => by kernel_rfl
  clear hx1 h hleaf hno
  go_enter Tryz.func244, Tryz.ntmps244
  go_wp2_with fail
  generalize (w.alloc (.cells #[.int .i64 0, .int .i64 0, .string ⟨#[]⟩, .slice none 0 0] 38)) = W0 at *
  generalize hB0 : w.heap.size = B at *
  refine HN.out.mono ?_; rintro e w1 ⟨rfl, hb1⟩
  have HB1 := Lib.hid (below_on HB.out hB0 hb1)
  have HM1 := Lib.hid (HM.out.below hb1)
  have HP1 := Lib.hid (HP.out.below hb1)
  have hgB : Hid (g < B) := by show g < B; omega
  clear hb1
  go_wp2_with fail
  refine (HT.out _ HP1.out).mono ?_; rintro e w2 ⟨rfl, hb, hP2⟩
  have HP2 : Hid (Psr g XS k ne bl w2) := hP2
  have HB2 := Lib.hid ((Kp.of HB1.out).on hB0 hb)
  have HM2 := Lib.hid (HM1.out.kp (Nat.ne_of_gt hgB.out) hb)
  clear hb hP2 HT
  have hx5 := below_box w2 (.cells #[.int .i64 20, .int .i64 21, .int .i64 22, .int .i64 23, .int .i64 24] 3)
  have hgl := HP2.out.lt
  have HC5 := Lib.hid (HO5.out _ (HP2.out.below hx5) w2.heap.size (by omega) (Bk.new w2 #[.int .i64 20, .int .i64 21, .int .i64 22, .int .i64 23, .int .i64 24] 3))
  change Hid (Calls _ _ #[ptr g, .slice (some ⟨w2.heap.size, 0, none⟩) 5 5] _ _) at HC5
  have HB3 := Lib.hid (HB2.out.on hB0 (Kp.of hx5))
  have HM3 := Lib.hid (HM2.out.below hx5)
  clear hx5 hgl
  rw [HOP.out] at HC5
  go_wp2_with fail
  generalize (w2.alloc (.cells #[.int .i64 20, .int .i64 21, .int .i64 22, .int .i64 23, .int .i64 24] 3)) = W2 at *
  refine HC5.out.mono ?_; rintro e w3 ⟨rfl, hb, hP3⟩
  rw [decide_eq_true H5.out] at hP3
  have HP3 : Hid (Psr g XS (k + 1) ne bl w3) := hP3
  have HB4 := Lib.hid (HB3.out.on hB0 hb)
  have HM4 := Lib.hid (HM3.out.kp (Nat.ne_of_gt hgB.out) hb)
  clear hb hP3 HC5 HO5
  go_wp2_with fail
  refine (HN2.out _ HP3.out).mono ?_; intro e w4 hm
  cases q3 with
  | no r x =>
    obtain ⟨j, hj, rfl⟩ := hsf3 r x rfl
    obtain ⟨hb, he⟩ := PRd.no_dr hm hj
    have HBp := Lib.hid (HB4.out.on hB0 hb)
    unfold fails at he
    subst he
    have HJ := Lib.hid hj
    clear hb hm hj
    go_wp2_with fail
    refine ⟨rfl, ?_⟩
    rw [HQ.out]
    exact PRd.mk_no HJ.out (hB0.symm ▸ HBp.out)
  | ok t r =>
    obtain ⟨j, hkj, hj, rfl⟩ := hsf4 t r rfl
    obtain ⟨hb, v, rfl, hP, a0, c0, rfl, hK⟩ := PRd.ok_dr hm hj
    have hzB : B < w3.heap.size := HM4.out.lt
    have hx1 := below_box w4 (.cells #[.int .i64 t.op, .int .i64 t.n, .string t.s, .slice a0 t.args.length c0] 38)
    have HB5 := Lib.hid ((HB4.out.on hB0 hb).on hB0 (Kp.of hx1))
    have HM5 := Lib.hid ((HM4.out.kp (Nat.ne_of_gt hgB.out) hb).below hx1)
    have HX5 := Lib.hid (Bk.new w4 #[.int .i64 t.op, .int .i64 t.n, .string t.s, .slice a0 t.args.length c0] 38)
    have HP5 := Lib.hid (hP.below hx1)
    have hzg : g < w3.heap.size := HP3.out.lt
    have HK5 := Lib.hid (kidsK hK hzg (Kp.of hx1))
    have HBW := Lib.hid hzB
    have HB2W := Lib.hid hb.size
    have HJ := Lib.hid hj
    have HA := Lib.hid (fun w' => oapply_any op (some ⟨w4.heap.size, 0, none⟩) 1 1 w')
    unfold exV
    clear hb hm hP hK hkj hj hsf3 hsf4 hlt0 hzB hx1 hzg
    go_wp2_with fail
    generalize (w4.alloc (.cells #[.int .i64 t.op, .int .i64 t.n, .string t.s, .slice a0 t.args.length c0] 38)) = W5 at *
    generalize w4.heap.size = G at *
    refine (HA.out _).mono ?_; rintro e w6 ⟨rfl, hb6⟩
    have HB6 := Lib.hid (HB5.out.on hB0 (Kp.of hb6))
    have HM6 := Lib.hid (HM5.out.below hb6)
    have HX6 := Lib.hid (HX5.out.below hb6)
    have HP6 := Lib.hid (HP5.out.below hb6)
    have HK6 := Lib.hid (kids_more HK5.out hb6)
    clear hb6
    obtain ⟨r0, r1, r2, r3⟩ := cells4 HM6.out
    obtain ⟨f0, f1, f2, f3⟩ := free4 HM6.out
    go_wp2_with fail
    obtain ⟨q0, q1, q2', q3⟩ := stored4 HM6.out (.int .i64 op) (.int .i64 0) (.string ⟨#[]⟩) (.slice (some ⟨G, 0, none⟩) 1 1)
    refine bodyPost_ret (v := .agg #[.int .i64 op, .int .i64 0, .string ⟨#[]⟩, .slice (some ⟨G, 0, none⟩) 1 1]) (by simp [results, Tryz.results244, go_sem, q0, q1, q2', q3]) rfl ?_
    rw [HQ.out]
    have hBW' := HBW.out
    have hBW2 := HB2W.out
    exact PRd.mk_ok HJ.out (kp_wset (hB0.symm ▸ HB6.out) (by omega)) (HP6.out.wset hgB.out) ⟨some ⟨G, 0, none⟩, 1, rfl, kids_less (kids_wset (kz_1 HX6.out (by omega) (kids_less HK6.out (by omega)))) (by omega)⟩
end Go.Proofs.YteglaeopaocilaaGreatDoor.P
namespace Go.Proofs.YteglaeopaocilaaGreatDoor.P
open Go.RowKit
open L (Str Tok Tks toks At below_2 below_box ret_bool ret_int ret_string)
open A

set_option maxHeartbeats 8000000 in
set_option maxRecDepth 100000 in
theorem ounit_null (g : Nat) (XS : List L.T) (k ne bl : Nat) (_hn : ne ≤ 24) (hno : (nxt XS k).k ≠ 3 ∧ (nxt XS k).k ≠ 4 ∧ (nxt XS k).k ≠ 1) (h4 : isW (dr XS k) [40] = false) (h5 : oper [20, 21, 22, 23, 24] (dr XS k) = 0) (h6 : oper [25, 26, 27] (dr XS k) ≠ 0) (w : World) (h : Psr g XS k ne bl w) :
    Calls Tryz.prog 244 #[ptr g] w fun e w' => PRdX g XS ne bl w w' (gU ne (dr XS k)) e := by
  have hx1 := below_box w (.cells #[.int .i64 0, .int .i64 0, .string ⟨#[]⟩, .slice none 0 0] 38)
  have HM := Lib.hid (Bk.new w #[.int .i64 0, .int .i64 0, .string ⟨#[]⟩, .slice none 0 0] 38)
  have hlt0 := h.lt
  have hk := h.le
  have HP := Lib.hid (h.below hx1)
  have HB := Lib.hid hx1
  have HN := Lib.hid (onext_any g XS k ne bl _ HP.out)
  have hleaf := leaf_nxt (XS := XS) (k := k)
  rw [if_neg hno.1, if_neg hno.2.1, if_neg hno.2.2] at hleaf
  have HT := Lib.hid (fun w' h' => otake_any g XS k ne bl w' h' ⟨#[40]⟩)
  change Hid (∀ w' (h' : Psr g XS k ne bl w'), Calls _ _ _ _ fun e w'' => e = .returned (.bool (isW (dr XS k) [40])) ∧ Kp w'.heap.size g w' w'' ∧ Psr g XS (adv (isW (dr XS k) [40]) k) ne bl w'') at HT
  have h40 := h4
  rw [h40] at HT
  have hI5 := fun (w' : World) (h' : Psr g XS k ne bl w') (b : Nat) (hb : b ≠ g) (hO : Bk w' b #[.int .i64 20, .int .i64 21, .int .i64 22, .int .i64 23, .int .i64 24] 3) => ooperator_any g XS k ne bl [20, 21, 22, 23, 24] (by decide) (by decide) b hb w' h' (ints_of hO (fun j hj => by
      have hj' : j < 5 := hj
      have : j = 0 ∨ j = 1 ∨ j = 2 ∨ j = 3 ∨ j = 4 := by omega
      rcases this with rfl | rfl | rfl | rfl | rfl <;> rfl)) hO.lt
  have HO5 := Lib.hid hI5
  have h50 : oper [20, 21, 22, 23, 24] (dr XS k) = 0 := h5
  have HOP := Lib.hid h50
  have HO3 := Lib.hid (fun (w' : World) (h' : Psr g XS k ne bl w') (b : Nat) (hb : b ≠ g) (hO : Bk w' b #[.int .i64 25, .int .i64 26, .int .i64 27] 3) => ooperator_any g XS k ne bl [25, 26, 27] (by decide) (by decide) b hb w' h' (ints_of hO (fun j hj => by
      have hj' : j < 3 := hj
      have : j = 0 ∨ j = 1 ∨ j = 2 := by omega
      rcases this with rfl | rfl | rfl <;> rfl)) hO.lt)
  have hm1 := (oper_mem (dr XS k) [25, 26, 27] h6).1
  have hlt : k < XS.length := by
    rcases Nat.lt_or_ge k XS.length with h | h
    · exact h
    · rw [dr_end h] at h6; exact absurd rfl h6
  have hcall : callOp (dr XS k) = (oper [25, 26, 27] (dr XS k) : Nat) := by rw [call_ops, if_pos h50]
  obtain ⟨op, hop⟩ : ∃ op, oper [25, 26, 27] (dr XS k) = op := ⟨_, rfl⟩
  rw [hop] at hm1 hcall h6
  have hop27 : 25 ≤ op ∧ op ≤ 27 := by
    simp only [List.mem_cons, List.not_mem_nil, or_false] at hm1
    omega
  have HOP3 := Lib.hid hop
  have hbne : ((op : Int) != 0) = true := bne_iff_ne.2 (by omega)
  have H6 := Lib.hid h6
  have hQ : gU ne (dr XS k) = nullE op (dr XS (k + 1)) := by
    rw [gU_step, hleaf]
    show (if 25 ≤ callOp (dr XS k) then _ else _) = _
    rw [hcall, if_pos (by omega), dr_tail]
  have HQ := Lib.hid hQ
  generalize gU ne (dr XS k) = QF at HQ ⊢
  have HLT := Lib.hid hlt
  clear h4 h40 hlt hQ hk hI5 hm1 hcall hop h5 h50 h6 hop27
  have hmf := hmf
  have b3 : ((nxt XS k).k == 3) = false := beq_eq_false_iff_ne.2 hno.1
  have b4 : ((nxt XS k).k == 4) = false := beq_eq_false_iff_ne.2 hno.2.1
  have b1 : ((nxt XS k).k == 1) = false := beq_eq_false_iff_ne.2 hno.2.2
  generalize nxt XS k = p at *
  unfold L.T.val at HN
  have hfld0 : ∀ w : World, (Instr.field 101 (.agg #[.int .i64 p.k, .string p.t, .int .i64 p.n, .int .i64 p.line]) 0).run Tryz.prog w = .ok (.int .i64 p.k) w := fun _ => by kernel_rfl
  clear hx1 h hleaf hno
  go_enter Tryz.func244, Tryz.ntmps244
  go_wp2_with fail
  generalize (w.alloc (.cells #[.int .i64 0, .int .i64 0, .string ⟨#[]⟩, .slice none 0 0] 38)) = W0 at *
  generalize hB0 : w.heap.size = B at *
  refine HN.out.mono ?_; rintro e w1 ⟨rfl, hb1⟩
  have HB1 := Lib.hid (below_on HB.out hB0 hb1)
  have HM1 := Lib.hid (HM.out.below hb1)
  have HP1 := Lib.hid (HP.out.below hb1)
  have hgB : Hid (g < B) := by show g < B; omega
  clear hb1
  go_wp2_with fail
  refine (HT.out _ HP1.out).mono ?_; rintro e w2 ⟨rfl, hb, hP2⟩
  have HP2 : Hid (Psr g XS k ne bl w2) := hP2
  have HB2 := Lib.hid ((Kp.of HB1.out).on hB0 hb)
  have HM2 := Lib.hid (HM1.out.kp (Nat.ne_of_gt hgB.out) hb)
  clear hb hP2 HT
  have hx5 := below_box w2 (.cells #[.int .i64 20, .int .i64 21, .int .i64 22, .int .i64 23, .int .i64 24] 3)
  have hgl := HP2.out.lt
  have HC5 := Lib.hid (HO5.out _ (HP2.out.below hx5) w2.heap.size (by omega) (Bk.new w2 #[.int .i64 20, .int .i64 21, .int .i64 22, .int .i64 23, .int .i64 24] 3))
  change Hid (Calls _ _ #[ptr g, .slice (some ⟨w2.heap.size, 0, none⟩) 5 5] _ _) at HC5
  have HB3 := Lib.hid (HB2.out.on hB0 (Kp.of hx5))
  have HM3 := Lib.hid (HM2.out.below hx5)
  clear hx5 hgl
  rw [HOP.out] at HC5
  go_wp2_with fail
  generalize (w2.alloc (.cells #[.int .i64 20, .int .i64 21, .int .i64 22, .int .i64 23, .int .i64 24] 3)) = W2 at *
  refine HC5.out.mono ?_; rintro e w3 ⟨rfl, hb, hP3⟩
  have HP3 : Hid (Psr g XS k ne bl w3) := hP3
  have HB4 := Lib.hid (HB3.out.on hB0 hb)
  have HM4 := Lib.hid (HM3.out.kp (Nat.ne_of_gt hgB.out) hb)
  have hx3 := below_box w3 (.cells #[.int .i64 25, .int .i64 26, .int .i64 27] 3)
  have hgl := HP3.out.lt
  have HC3 := Lib.hid (HO3.out _ (HP3.out.below hx3) w3.heap.size (by omega) (Bk.new w3 #[.int .i64 25, .int .i64 26, .int .i64 27] 3))
  change Hid (Calls _ _ #[ptr g, .slice (some ⟨w3.heap.size, 0, none⟩) 3 3] _ _) at HC3
  have HB5 := Lib.hid (HB4.out.on hB0 (Kp.of hx3))
  have HM5 := Lib.hid (HM4.out.below hx3)
  clear hx3 hgl hb hP3 HC5 HO5
  rw [HOP3.out] at HC3
  go_wp2_with fail
  generalize (w3.alloc (.cells #[.int .i64 25, .int .i64 26, .int .i64 27] 3)) = W3 at *
  refine HC3.out.mono ?_; rintro e w4 ⟨rfl, hb, hP4⟩
  rw [decide_eq_true H6.out] at hP4
  have HP4 : Hid (Psr g XS (k + 1) ne bl w4) := hP4
  have HB6 := Lib.hid (HB5.out.on hB0 hb)
  have HM6 := Lib.hid (HM5.out.kp (Nat.ne_of_gt hgB.out) hb)
  have HE1 := Lib.hid (oexpect_any g XS (k + 1) ne bl w4 HP4.out ⟨#[40]⟩)
  clear hb hP4 HC3 HO3
  go_wp2_with fail
  refine HE1.out.mono ?_; intro e w5 hm
  change PRd g XS ne bl w4 w5 (if isW (dr XS (k + 1)) [40] = true then .ok () (dr XS (k + 1 + 1)) else .no (dr XS (k + 1)) (wrong (dr XS (k + 1)))) okU e at hm
  cases h7 : isW (dr XS (k + 1)) [40]
  · rw [h7, if_neg (by decide)] at hm
    obtain ⟨hb, he⟩ := PRd.no_dr hm HLT.out
    have HBp := Lib.hid (HB6.out.on hB0 hb)
    unfold fails at he
    subst he
    have HQ2 : Hid (QF = .no (dr XS (k + 1)) (wrong (dr XS (k + 1)))) := by
      show _ = _
      rw [HQ.out]
      unfold nullE
      rw [h7, if_neg (by decide)]
    clear hb hm h7 HQ
    go_wp2_with fail
    refine ⟨rfl, ?_⟩
    rw [HQ2.out]
    exact PRd.mk_no HLT.out (hB0.symm ▸ HBp.out)
  · rw [h7, if_pos rfl] at hm
    have hlt : k + 1 < XS.length := by
      rcases Nat.lt_or_ge (k + 1) XS.length with h | h
      · exact h
      · rw [is_none h] at h7; cases h7
    obtain ⟨hb, v, rfl, hP5, rfl⟩ := PRd.ok_dr hm hlt
    have HP5 := Lib.hid hP5
    have HB7 := Lib.hid (HB6.out.on hB0 hb)
    have HM7 := Lib.hid (HM6.out.kp (Nat.ne_of_gt hgB.out) hb)
    have HE2 := Lib.hid (oexpect_any g XS (k + 1 + 1) ne bl w5 HP5.out ⟨#[41]⟩)
    have HQ2 : Hid (QF = if isW (dr XS (k + 1 + 1)) [41] = true then .ok (ap op []) (dr XS (k + 1 + 1 + 1)) else .no (dr XS (k + 1 + 1)) (wrong (dr XS (k + 1 + 1)))) := by
      show _ = _
      rw [HQ.out]
      unfold nullE
      rw [h7, if_pos rfl, dr_tail, dr_tail]
    have HLT2 : Hid (k + 1 + 1 ≤ XS.length) := hlt
    clear hb hm hP5 h7 HQ hlt HE1
    go_wp2_with fail
    refine HE2.out.mono ?_; intro e w6 hm
    change PRd g XS ne bl w5 w6 (if isW (dr XS (k + 1 + 1)) [41] = true then .ok () (dr XS (k + 1 + 1 + 1)) else .no (dr XS (k + 1 + 1)) (wrong (dr XS (k + 1 + 1)))) okU e at hm
    cases h8 : isW (dr XS (k + 1 + 1)) [41]
    · rw [h8, if_neg (by decide)] at hm HQ2
      obtain ⟨hb, he⟩ := PRd.no_dr hm HLT2.out
      have HBp := Lib.hid (HB7.out.on hB0 hb)
      unfold fails at he
      subst he
      clear hb hm h8
      go_wp2_with fail
      refine ⟨rfl, ?_⟩
      rw [HQ2.out]
      exact PRd.mk_no HLT2.out (hB0.symm ▸ HBp.out)
    · rw [h8, if_pos rfl] at hm HQ2
      have hlt : k + 1 + 1 < XS.length := by
        rcases Nat.lt_or_ge (k + 1 + 1) XS.length with h | h
        · exact h
        · rw [is_none h] at h8; cases h8
      obtain ⟨hb, v, rfl, hP6, rfl⟩ := PRd.ok_dr hm hlt
      have HP6 := Lib.hid hP6
      have HB8 := Lib.hid (HB7.out.on hB0 hb)
      have HM8 := Lib.hid (HM7.out.kp (Nat.ne_of_gt hgB.out) hb)
      have HLT3 : Hid (k + 1 + 1 + 1 ≤ XS.length) := hlt
      have HA := Lib.hid (fun w' => oapply_any op none 0 0 w')
      clear hb hm hP6 h8 hlt HE2
      go_wp2_with fail
      refine (HA.out _).mono ?_; rintro e w7 ⟨rfl, hb7⟩
      have HB9 := Lib.hid (HB8.out.on hB0 (Kp.of hb7))
      have HM9 := Lib.hid (HM8.out.below hb7)
      have HP9 := Lib.hid (HP6.out.below hb7)
      clear hb7
      obtain ⟨r0, r1, r2, r3⟩ := cells4 HM9.out
      obtain ⟨f0, f1, f2, f3⟩ := free4 HM9.out
      go_wp2_with fail
      obtain ⟨q0, q1, q2', q3⟩ := stored4 HM9.out (.int .i64 op) (.int .i64 0) (.string ⟨#[]⟩) (.slice none 0 0)
      refine bodyPost_ret (v := .agg #[.int .i64 op, .int .i64 0, .string ⟨#[]⟩, .slice none 0 0]) (by simp [results, Tryz.results244, go_sem, q0, q1, q2', q3]) rfl ?_
      rw [HQ2.out]
      exact PRd.mk_ok HLT3.out (kp_wset (hB0.symm ▸ HB9.out) (by omega)) (HP9.out.wset hgB.out) ⟨none, 0, rfl, Or.inl rfl⟩
set_option maxHeartbeats 8000000 in
set_option maxRecDepth 100000 in
theorem ounit_bad (g : Nat) (XS : List L.T) (k ne bl : Nat) (_hn : ne ≤ 24) (hno : (nxt XS k).k ≠ 3 ∧ (nxt XS k).k ≠ 4 ∧ (nxt XS k).k ≠ 1) (h4 : isW (dr XS k) [40] = false) (h5 : oper [20, 21, 22, 23, 24] (dr XS k) = 0) (h6 : oper [25, 26, 27] (dr XS k) = 0) (w : World) (h : Psr g XS k ne bl w) :
    Calls Tryz.prog 244 #[ptr g] w fun e w' => PRdX g XS ne bl w w' (gU ne (dr XS k)) e := by
  have hx1 := below_box w (.cells #[.int .i64 0, .int .i64 0, .string ⟨#[]⟩, .slice none 0 0] 38)
  have HM := Lib.hid (Bk.new w #[.int .i64 0, .int .i64 0, .string ⟨#[]⟩, .slice none 0 0] 38)
  have hlt0 := h.lt
  have hk := h.le
  have HP := Lib.hid (h.below hx1)
  have HB := Lib.hid hx1
  have HN := Lib.hid (onext_any g XS k ne bl _ HP.out)
  have hleaf := leaf_nxt (XS := XS) (k := k)
  rw [if_neg hno.1, if_neg hno.2.1, if_neg hno.2.2] at hleaf
  have HT := Lib.hid (fun w' h' => otake_any g XS k ne bl w' h' ⟨#[40]⟩)
  change Hid (∀ w' (h' : Psr g XS k ne bl w'), Calls _ _ _ _ fun e w'' => e = .returned (.bool (isW (dr XS k) [40])) ∧ Kp w'.heap.size g w' w'' ∧ Psr g XS (adv (isW (dr XS k) [40]) k) ne bl w'') at HT
  have h40 := h4
  rw [h40] at HT
  have hI5 := fun (w' : World) (h' : Psr g XS k ne bl w') (b : Nat) (hb : b ≠ g) (hO : Bk w' b #[.int .i64 20, .int .i64 21, .int .i64 22, .int .i64 23, .int .i64 24] 3) => ooperator_any g XS k ne bl [20, 21, 22, 23, 24] (by decide) (by decide) b hb w' h' (ints_of hO (fun j hj => by
      have hj' : j < 5 := hj
      have : j = 0 ∨ j = 1 ∨ j = 2 ∨ j = 3 ∨ j = 4 := by omega
      rcases this with rfl | rfl | rfl | rfl | rfl <;> rfl)) hO.lt
  have HO5 := Lib.hid hI5
  have h50 : oper [20, 21, 22, 23, 24] (dr XS k) = 0 := h5
  have HOP := Lib.hid h50
  have HO3 := Lib.hid (fun (w' : World) (h' : Psr g XS k ne bl w') (b : Nat) (hb : b ≠ g) (hO : Bk w' b #[.int .i64 25, .int .i64 26, .int .i64 27] 3) => ooperator_any g XS k ne bl [25, 26, 27] (by decide) (by decide) b hb w' h' (ints_of hO (fun j hj => by
      have hj' : j < 3 := hj
      have : j = 0 ∨ j = 1 ∨ j = 2 := by omega
      rcases this with rfl | rfl | rfl <;> rfl)) hO.lt)
  have HOP3 := Lib.hid h6
  have hcall : callOp (dr XS k) = 0 := by rw [call_ops, if_pos h50, h6]; rfl
  have hQ : gU ne (dr XS k) = .no (dr XS k) (wrong (dr XS k)) := by
    rw [gU_step, hleaf]
    show (if 25 ≤ callOp (dr XS k) then _ else _) = _
    rw [hcall, if_neg (by decide), if_pos ⟨rfl, h40⟩]
  have HQ := Lib.hid hQ
  generalize gU ne (dr XS k) = QF at HQ ⊢
  have HU := Lib.hid (fun w' h' => ounexpected_any g XS k ne bl w' h')
  unfold failV at HU
  obtain ⟨l, hl⟩ : ∃ l, lineAt XS k = l := ⟨_, rfl⟩
  rw [hl] at HU
  generalize hW : wrong (dr XS k) = x at HU HQ
  have HF := Lib.hid (fails_of (x := x) hl)
  have HJ := Lib.hid hk
  clear h4 h40 hQ hk hI5 hcall h5 h50 h6 hl hW
  have hmf := hmf
  have b3 : ((nxt XS k).k == 3) = false := beq_eq_false_iff_ne.2 hno.1
  have b4 : ((nxt XS k).k == 4) = false := beq_eq_false_iff_ne.2 hno.2.1
  have b1 : ((nxt XS k).k == 1) = false := beq_eq_false_iff_ne.2 hno.2.2
  generalize nxt XS k = p at *
  unfold L.T.val at HN
  have hfld0 : ∀ w : World, (Instr.field 101 (.agg #[.int .i64 p.k, .string p.t, .int .i64 p.n, .int .i64 p.line]) 0).run Tryz.prog w = .ok (.int .i64 p.k) w := fun _ => by kernel_rfl
  clear hx1 h hleaf hno
  go_enter Tryz.func244, Tryz.ntmps244
  go_wp2_with fail
  generalize (w.alloc (.cells #[.int .i64 0, .int .i64 0, .string ⟨#[]⟩, .slice none 0 0] 38)) = W0 at *
  generalize hB0 : w.heap.size = B at *
  refine HN.out.mono ?_; rintro e w1 ⟨rfl, hb1⟩
  have HB1 := Lib.hid (below_on HB.out hB0 hb1)
  have HM1 := Lib.hid (HM.out.below hb1)
  have HP1 := Lib.hid (HP.out.below hb1)
  have hgB : Hid (g < B) := by show g < B; omega
  clear hb1
  go_wp2_with fail
  refine (HT.out _ HP1.out).mono ?_; rintro e w2 ⟨rfl, hb, hP2⟩
  have HP2 : Hid (Psr g XS k ne bl w2) := hP2
  have HB2 := Lib.hid ((Kp.of HB1.out).on hB0 hb)
  have HM2 := Lib.hid (HM1.out.kp (Nat.ne_of_gt hgB.out) hb)
  clear hb hP2 HT
  have hx5 := below_box w2 (.cells #[.int .i64 20, .int .i64 21, .int .i64 22, .int .i64 23, .int .i64 24] 3)
  have hgl := HP2.out.lt
  have HC5 := Lib.hid (HO5.out _ (HP2.out.below hx5) w2.heap.size (by omega) (Bk.new w2 #[.int .i64 20, .int .i64 21, .int .i64 22, .int .i64 23, .int .i64 24] 3))
  change Hid (Calls _ _ #[ptr g, .slice (some ⟨w2.heap.size, 0, none⟩) 5 5] _ _) at HC5
  have HB3 := Lib.hid (HB2.out.on hB0 (Kp.of hx5))
  have HM3 := Lib.hid (HM2.out.below hx5)
  clear hx5 hgl
  rw [HOP.out] at HC5
  go_wp2_with fail
  generalize (w2.alloc (.cells #[.int .i64 20, .int .i64 21, .int .i64 22, .int .i64 23, .int .i64 24] 3)) = W2 at *
  refine HC5.out.mono ?_; rintro e w3 ⟨rfl, hb, hP3⟩
  have HP3 : Hid (Psr g XS k ne bl w3) := hP3
  have HB4 := Lib.hid (HB3.out.on hB0 hb)
  have HM4 := Lib.hid (HM3.out.kp (Nat.ne_of_gt hgB.out) hb)
  have hx3 := below_box w3 (.cells #[.int .i64 25, .int .i64 26, .int .i64 27] 3)
  have hgl := HP3.out.lt
  have HC3 := Lib.hid (HO3.out _ (HP3.out.below hx3) w3.heap.size (by omega) (Bk.new w3 #[.int .i64 25, .int .i64 26, .int .i64 27] 3))
  change Hid (Calls _ _ #[ptr g, .slice (some ⟨w3.heap.size, 0, none⟩) 3 3] _ _) at HC3
  have HB5 := Lib.hid (HB4.out.on hB0 (Kp.of hx3))
  have HM5 := Lib.hid (HM4.out.below hx3)
  clear hx3 hgl hb hP3 HC5 HO5
  rw [HOP3.out] at HC3
  go_wp2_with fail
  generalize (w3.alloc (.cells #[.int .i64 25, .int .i64 26, .int .i64 27] 3)) = W3 at *
  refine HC3.out.mono ?_; rintro e w4 ⟨rfl, hb, hP4⟩
  have HP4 : Hid (Psr g XS k ne bl w4) := hP4
  have HB6 := Lib.hid (HB5.out.on hB0 hb)
  clear hb hP4 HC3 HO3
  go_wp2_with fail
  refine (HU.out _ HP4.out).mono ?_; rintro e w5 ⟨rfl, hb5⟩
  have HB7 := Lib.hid (HB6.out.on hB0 (Kp.of hb5))
  clear hb5
  go_wp2_with fail
  refine ⟨rfl, ?_⟩
  rw [HQ.out, HF.out]
  exact PRd.mk_no HJ.out (hB0.symm ▸ HB7.out)
end Go.Proofs.YteglaeopaocilaaGreatDoor.P
namespace Go.Proofs.YteglaeopaocilaaGreatDoor.P
open Go.RowKit
open L (Str Tok Tks toks At below_2 below_box ret_bool ret_int ret_string)
open A

/-- what reads a unit -/
theorem ounit_any (g : Nat) (XS : List L.T) (k ne bl : Nat) (hn : ne ≤ 24) (H : ∀ k', k < k' → k' ≤ XS.length → ne < 24 → CF 44 g XS k' (ne + 1) bl (gX 1 (ne + 1) (dr XS k'))) : CF 244 g XS k ne bl (gU ne (dr XS k)) := by
  intro w h
  by_cases h3 : (nxt XS k).k = 3
  · exact ounit_3 g XS k ne bl h3 w h
  by_cases h4 : (nxt XS k).k = 4
  · exact ounit_4 g XS k ne bl h4 w h
  by_cases h1 : (nxt XS k).k = 1
  · exact ounit_1 g XS k ne bl h1 w h
  cases hp : isW (dr XS k) [40]
  · by_cases h5 : oper [20, 21, 22, 23, 24] (dr XS k) = 0
    · by_cases h6 : oper [25, 26, 27] (dr XS k) = 0
      · exact ounit_bad g XS k ne bl hn ⟨h3, h4, h1⟩ hp h5 h6 w h
      · exact ounit_null g XS k ne bl hn ⟨h3, h4, h1⟩ hp h5 h6 w h
    · exact qunit_call g XS k ne bl hn ⟨h3, h4, h1⟩ hp h5 (fun h2 hl => H (k + 1 + 1) (by omega) h2 hl) w h
  · exact ounit_par g XS k ne bl hn ⟨h3, h4, h1⟩ hp (fun h2 hl => H (k + 1) (by omega) h2 hl) w h
/-- the methods, by levels -/
structure All (g : Nat) (XS : List L.T) (bl N : Nat) : Prop where
  l1 : ∀ k ne, XS.length < k + N → k ≤ XS.length → ne ≤ 24 → CF 44 g XS k ne bl (gX 1 ne (dr XS k))
  l2 : ∀ k ne, XS.length < k + N → k ≤ XS.length → ne ≤ 24 → CF 89 g XS k ne bl (gX 2 ne (dr XS k))
  l3 : ∀ k ne, XS.length < k + N → k ≤ XS.length → ne ≤ 24 → CF 142 g XS k ne bl (gX 3 ne (dr XS k))
  l5 : ∀ k ne, XS.length < k + N → k ≤ XS.length → ne ≤ 24 → CF 216 g XS k ne bl (gX 5 ne (dr XS k))
  l6 : ∀ k ne, XS.length < k + N → k ≤ XS.length → ne ≤ 24 → CF 231 g XS k ne bl (gX 6 ne (dr XS k))
  l7 : ∀ k ne, XS.length < k + N → k ≤ XS.length → ne ≤ 24 → CF 240 g XS k ne bl (gX 7 ne (dr XS k))
  l8 : ∀ k ne, XS.length < k + N → k ≤ XS.length → ne ≤ 24 → CF 243 g XS k ne bl (gX 8 ne (dr XS k))
theorem all_upto (g : Nat) (XS : List L.T) (bl : Nat) : ∀ N, All g XS bl N := by
  intro N
  induction N with
  | zero => exact ⟨fun k ne h hk => absurd h (by omega), fun k ne h hk => absurd h (by omega), fun k ne h hk => absurd h (by omega), fun k ne h hk => absurd h (by omega), fun k ne h hk => absurd h (by omega), fun k ne h hk => absurd h (by omega), fun k ne h hk => absurd h (by omega)⟩
  | succ N ih =>
    have a9 : ∀ k ne, XS.length < k + (N + 1) → k ≤ XS.length → ne ≤ 24 → CF 244 g XS k ne bl (gX 9 ne (dr XS k)) := fun k ne h hk hn => by
      rw [gX_9]
      exact ounit_any g XS k ne bl hn (fun k' h1 h2 h3 => ih.l1 k' (ne + 1) (by omega) h2 (by omega))
    have a8 : ∀ k ne, XS.length < k + (N + 1) → k ≤ XS.length → ne ≤ 24 → CF 243 g XS k ne bl (gX 8 ne (dr XS k)) := fun k ne h hk hn w hp =>
      oneg_any g XS k ne bl hn (a9 k ne h hk hn) (fun h1 h2 => ih.l8 (k + 1) (ne + 1) (by omega) h1 (by omega)) w hp
    have a7 : ∀ k ne, XS.length < k + (N + 1) → k ≤ XS.length → ne ≤ 24 → CF 240 g XS k ne bl (gX 7 ne (dr XS k)) := fun k ne h hk hn w hp =>
      oproduct_any g XS k ne bl (a8 k ne h hk hn) (fun k' h1 h2 => ih.l8 k' ne (by omega) h2 hn) w hp
    have a6 : ∀ k ne, XS.length < k + (N + 1) → k ≤ XS.length → ne ≤ 24 → CF 231 g XS k ne bl (gX 6 ne (dr XS k)) := fun k ne h hk hn w hp =>
      osum_any g XS k ne bl (a7 k ne h hk hn) (fun k' h1 h2 => ih.l7 k' ne (by omega) h2 hn) w hp
    have a5 : ∀ k ne, XS.length < k + (N + 1) → k ≤ XS.length → ne ≤ 24 → CF 216 g XS k ne bl (gX 5 ne (dr XS k)) := fun k ne h hk hn w hp =>
      ocat_any g XS k ne bl (a6 k ne h hk hn) (fun k' h1 h2 => ih.l6 k' ne (by omega) h2 hn) w hp
    have a4 : ∀ k ne, XS.length < k + (N + 1) → k ≤ XS.length → ne ≤ 24 → CF 185 g XS k ne bl (gX 4 ne (dr XS k)) := fun k ne h hk hn w hp =>
      ocomparison_any g XS k ne bl (a5 k ne h hk hn) (fun k' h1 h2 => ih.l5 k' ne (by omega) h2 hn) w hp
    have a3 : ∀ k ne, XS.length < k + (N + 1) → k ≤ XS.length → ne ≤ 24 → CF 142 g XS k ne bl (gX 3 ne (dr XS k)) := fun k ne h hk hn w hp =>
      onot_any g XS k ne bl hn (a4 k ne h hk hn) (fun h1 h2 => ih.l3 (k + 1) (ne + 1) (by omega) h1 (by omega)) w hp
    have a2 : ∀ k ne, XS.length < k + (N + 1) → k ≤ XS.length → ne ≤ 24 → CF 89 g XS k ne bl (gX 2 ne (dr XS k)) := fun k ne h hk hn w hp =>
      oand_any g XS k ne bl (a3 k ne h hk hn) (fun k' h1 h2 => ih.l3 k' ne (by omega) h2 hn) w hp
    exact ⟨fun k ne h hk hn w hp => oor_any g XS k ne bl (a2 k ne h hk hn) (fun k' h1 h2 => ih.l2 k' ne (by omega) h2 hn) w hp, a2, a3, a5, a6, a7, a8⟩
/-- what the method or returns, for all tokens -/
theorem oor_all (g : Nat) (XS : List L.T) (k ne bl : Nat) (hn : ne ≤ 24) : CF 44 g XS k ne bl (gX 1 ne (dr XS k)) := fun w h => (all_upto g XS bl (XS.length + 1)).l1 k ne (by omega) h.le hn w h
end Go.Proofs.YteglaeopaocilaaGreatDoor.P
