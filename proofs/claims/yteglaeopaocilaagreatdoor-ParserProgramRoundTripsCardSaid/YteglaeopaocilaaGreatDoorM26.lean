/-
  What the parser's methods return: when: contracts.
  Plain mathematics of layer 10, without the program: statements by the word with which they begin.
  What the parser's methods return: stmt: contracts.
  Statements in rows that a call owns.
  What the parser's methods return: block: contracts.
  What the parser's methods return: param: contracts.
-/
import Derived.Test.YteglaeopaocilaaGreatDoorM25
namespace Go.Proofs.YteglaeopaocilaaGreatDoor.P
open Go.RowKit
open L (Str Tok Tks toks At below_2 below_box ret_bool ret_int ret_string)
open A

theorem ctake (g : Nat) (XS : List L.T) (k bl : Nat) (s : ByteArray) (l : Str) (hl : s.data.toList = l) (w : World) (h : Psr g XS k 0 bl w) : Calls Tryz.prog 134 #[ptr g, .string s] w fun e w' => e = .returned (.bool (isW (dr XS k) l)) ∧ Kp w.heap.size g w w' ∧ Psr g XS (adv (isW (dr XS k) l) k) 0 bl w' := by
  subst hl
  exact otake_any g XS k 0 bl w h s
set_option maxHeartbeats 8000000 in
set_option maxRecDepth 100000 in
theorem qwhen_any (g : Nat) (XS : List L.T) (k bl : Nat) (HBk : Hid (∀ k', k < k' → k' ≤ XS.length → CBk g XS k' bl)) (w : World) (h : Psr g XS k 0 bl w) :
    Calls Tryz.prog 181 #[ptr g] w fun e w' => PRd g XS 0 bl w w' (whL bl (dr XS k)) (okSt w.heap.size w') e := by
  have hbx := below_box w (.cells #[.int .i64 0, .string ⟨#[]⟩, .int .i64 0, .int .i64 0, .int .i64 0, .string ⟨#[]⟩, .slice none 0 0, .int .i64 0, .int .i64 0, .string ⟨#[]⟩, .slice none 0 0, .slice none 0 0, .slice none 0 0] 76)
  have HM := Lib.hid (Bk.new w #[.int .i64 0, .string ⟨#[]⟩, .int .i64 0, .int .i64 0, .int .i64 0, .string ⟨#[]⟩, .slice none 0 0, .int .i64 0, .int .i64 0, .string ⟨#[]⟩, .slice none 0 0, .slice none 0 0, .slice none 0 0] 76)
  have hlt0 := h.lt
  have HP := Lib.hid (h.below hbx)
  have HB : Hid (Kp w.heap.size g w _) := Kp.of hbx
  have HQ : Hid ((whL bl (dr XS k)) = (gX 1 0 (dr XS k)).to fun a r => (gB bl r).to fun bd r => qelL bl a bd r) := rfl
  generalize (whL bl (dr XS k)) = QF at HQ ⊢
  clear hbx h
  go_enter Tryz.func181, Tryz.ntmps181
  go_wp2_with fail
  generalize w.alloc (.cells #[.int .i64 0, .string ⟨#[]⟩, .int .i64 0, .int .i64 0, .int .i64 0, .string ⟨#[]⟩, .slice none 0 0, .int .i64 0, .int .i64 0, .string ⟨#[]⟩, .slice none 0 0, .slice none 0 0, .slice none 0 0] 76) = W0 at *
  generalize hB0 : w.heap.size = B at *
  have hgB : g < B := hlt0
  have hBW : B < W0.heap.size := HM.out.lt
  have HC1 := Lib.hid (cor g XS k bl W0 HP.out)
  have hsf1 := (gX_is (lev := 1) (n := 0) (l := dr XS k) (by decide)).2
  generalize gX 1 0 (dr XS k) = q1 at HC1 HQ hsf1
  refine HC1.out.mono ?_; intro e w1 hm
  cases q1 with
  | no r x =>
    obtain ⟨j, hj, rfl⟩ := sf_no hsf1
    obtain ⟨hb, he⟩ := PRd.no_dr hm hj
    have HBp := Lib.hid (HB.out.on hB0 hb)
    unfold fails at he
    subst he
    have HJ := Lib.hid hj
    clear hb hm hj hsf1 HC1
    go_wp2_with fail
    refine ⟨rfl, ?_⟩
    rw [HQ.out]
    exact PRd.mk_no HJ.out (hB0.symm ▸ HBp.out)
  | ok t r =>
    obtain ⟨k1, hk1, hj1, rfl⟩ := sf_ok hsf1
    obtain ⟨hb, v, rfl, hP, a0, c0, rfl, hK⟩ := PRd.ok_dr hm hj1
    have hw1 : W0.heap.size ≤ w1.heap.size := hb.size
    have HB_1 := Lib.hid (HB.out.on hB0 hb)
    have HM_2 := Lib.hid (HM.out.kp (by omega) hb)
    have HP_3 := Lib.hid hP
    have HT1 : Hid (KidsF (fun j => j < B + 1 ∨ w1.heap.size ≤ j) w1 a0 t.args) := kz_of (grow_kids hK) (fun i hi => by rcases hi with hi | hi <;> omega)
    unfold exV
    clear hb hm hP hsf1 HC1 hK
    clear HB HM HP
    have HQ_4 : Hid (QF = (gB bl (dr XS k1)).to fun bd r => qelL bl t bd r) := HQ.out
    clear HQ
    have hx := below_box w1 (.cells #[.int .i64 5, .string ⟨#[]⟩, .int .i64 0, .int .i64 t.op, .int .i64 t.n, .string t.s, .slice a0 t.args.length c0, .int .i64 0, .int .i64 0, .string ⟨#[]⟩, .slice none 0 0, .slice none 0 0, .slice none 0 0] 76)
    have hBS : B < w1.heap.size := HM_2.out.lt
    have HS := Lib.hid (Bk.new w1 #[.int .i64 5, .string ⟨#[]⟩, .int .i64 0, .int .i64 t.op, .int .i64 t.n, .string t.s, .slice a0 t.args.length c0, .int .i64 0, .int .i64 0, .string ⟨#[]⟩, .slice none 0 0, .slice none 0 0, .slice none 0 0] 76)
    have HB_5 := Lib.hid (HB_1.out.on hB0 (Kp.of hx))
    have HM_6 := Lib.hid (HM_2.out.below hx)
    have HP_7 := Lib.hid (HP_3.out.below hx)
    have HT1_8 : Hid (KidsF (Zk2 B w1.heap.size) (w1.alloc (.cells #[.int .i64 5, .string ⟨#[]⟩, .int .i64 0, .int .i64 t.op, .int .i64 t.n, .string t.s, .slice a0 t.args.length c0, .int .i64 0, .int .i64 0, .string ⟨#[]⟩, .slice none 0 0, .slice none 0 0, .slice none 0 0] 76)) a0 t.args) := kz_kp (Z := Zk2 B w1.heap.size) (g := g) (kz_of HT1.out (fun i hi => by rcases hi with hi | hi <;> omega)) (Or.inl (by omega)) (Kp.of hx)
    have hSz : w1.heap.size < (w1.alloc (.cells #[.int .i64 5, .string ⟨#[]⟩, .int .i64 0, .int .i64 t.op, .int .i64 t.n, .string t.s, .slice a0 t.args.length c0, .int .i64 0, .int .i64 0, .string ⟨#[]⟩, .slice none 0 0, .slice none 0 0, .slice none 0 0] 76)).heap.size := HS.out.lt
    clear hx HB_1 HM_2 HP_3 HT1
    go_wp2_with fail
    generalize (w1.alloc (.cells #[.int .i64 5, .string ⟨#[]⟩, .int .i64 0, .int .i64 t.op, .int .i64 t.n, .string t.s, .slice a0 t.args.length c0, .int .i64 0, .int .i64 0, .string ⟨#[]⟩, .slice none 0 0, .slice none 0 0, .slice none 0 0] 76)) = W1a at *
    generalize hSv : w1.heap.size = S at *
    have HC2 := Lib.hid (HBk.out k1 (by omega) (by omega) W1a HP_7.out)
    have hsf2 := (gB_is bl (dr XS k1)).2
    generalize gB bl (dr XS k1) = q2 at HC2 HQ_4 hsf2
    refine HC2.out.mono ?_; intro e w2 hm
    cases q2 with
    | no r x =>
      obtain ⟨j, hj, rfl⟩ := sf_no hsf2
      obtain ⟨hb, he⟩ := PRd.no_dr hm hj
      have HBp := Lib.hid (HB_5.out.on hB0 hb)
      unfold fails at he
      subst he
      have HJ := Lib.hid hj
      clear hb hm hj hsf2 HC2
      go_wp2_with fail
      refine ⟨rfl, ?_⟩
      rw [HQ_4.out]
      exact PRd.mk_no HJ.out (hB0.symm ▸ HBp.out)
    | ok bd r =>
      obtain ⟨k2, hk2, hj2, rfl⟩ := sf_ok hsf2
      obtain ⟨hb, v, rfl, hP, a3, c3, rfl, hK⟩ := PRd.ok_dr hm hj2
      have hw2 : W1a.heap.size ≤ w2.heap.size := hb.size
      have HB_9 := Lib.hid (HB_5.out.on hB0 hb)
      have HM_10 := Lib.hid (HM_6.out.kp (by omega) hb)
      have HP_11 := Lib.hid hP
      have HS_12 := Lib.hid (HS.out.kp (by omega) hb)
      have HT1_13 := Lib.hid (kz_kp HT1_8.out (Or.inl (by omega)) hb)
      have HT2 : Hid (BodiesF (Zk2 B S) w2 a3 (clipB bd)) := bz_of hK (fun i hi => by rcases hi with hi | hi <;> omega)
      clear hb hm hP hsf2 HC2 hK
      clear HB_5 HM_6 HP_7 HS HT1_8
      have HQ_14 : Hid (QF = qelL bl t bd (dr XS k2)) := HQ_4.out
      clear HQ_4
      obtain ⟨s0, s1, s2, s3, s4, s5, s6, s7, s8, s9, s10, s11, s12⟩ := cells13 HS_12.out
      obtain ⟨f0, f1, f2, f3, f4, f5, f6, f7, f8, f9, f10, f11, f12⟩ := free13 HS_12.out
      have HS_18 : Hid (Bk (w2.setCell ⟨S, 11, none⟩ (.slice a3 bd.length c3)) S #[.int .i64 5, .string ⟨#[]⟩, .int .i64 0, .int .i64 t.op, .int .i64 t.n, .string t.s, .slice a0 t.args.length c0, .int .i64 0, .int .i64 0, .string ⟨#[]⟩, .slice none 0 0, .slice a3 bd.length c3, .slice none 0 0] 76) := by
        have hx := (HS_12.out.set 11 (u := .slice a3 bd.length c3))
        unfold Hid; simpa using hx
      have HB_15 : Hid (Kp B g w (w2.setCell ⟨S, 11, none⟩ (.slice a3 bd.length c3))) := kp_set (HB_9.out) (by omega)
      have HM_16 : Hid (Bk (w2.setCell ⟨S, 11, none⟩ (.slice a3 bd.length c3)) B #[.int .i64 0, .string ⟨#[]⟩, .int .i64 0, .int .i64 0, .int .i64 0, .string ⟨#[]⟩, .slice none 0 0, .int .i64 0, .int .i64 0, .string ⟨#[]⟩, .slice none 0 0, .slice none 0 0, .slice none 0 0] 76) := (HM_10.out).apart (by omega)
      have HP_17 : Hid (Psr g XS k2 0 bl (w2.setCell ⟨S, 11, none⟩ (.slice a3 bd.length c3))) := (HP_11.out).set (by omega)
      have HT1_19 : Hid (KidsF (Zk2 B S) (w2.setCell ⟨S, 11, none⟩ (.slice a3 bd.length c3)) a0 t.args) := kz_set (Or.inr rfl) (HT1_13.out)
      have HT2_20 : Hid (BodiesF (Zk2 B S) (w2.setCell ⟨S, 11, none⟩ (.slice a3 bd.length c3)) a3 (clipB bd)) := bz_set (Or.inr rfl) (HT2.out)
      have hsz : (w2.setCell ⟨S, 11, none⟩ (.slice a3 bd.length c3)).heap.size = w2.heap.size := by simp [World.setCell]
      clear HB_9 HM_10 HP_11 HS_12 HT1_13 HT2
      go_wp2_with fail
      clear s0 s1 s2 s3 s4 s5 s6 s7 s8 s9 s10 s11 s12 f0 f1 f2 f3 f4 f5 f6 f7 f8 f9 f10 f11 f12
      generalize (w2.setCell ⟨S, 11, none⟩ (.slice a3 bd.length c3)) = W2b at *
      have HC3 := Lib.hid (ctake g XS k2 bl ⟨#[101, 108, 115, 101]⟩ kElse rfl W2b HP_17.out)
      cases hV3 : isW (dr XS k2) kElse
      · skip
        rw [hV3] at HC3
        have HQ_21 : Hid (QF = .ok (.mk 5 none8 0 t noE bd []) (dr XS k2)) := by
          show _ = _
          rw [HQ_14.out]
          unfold qelL
          rw [hV3, if_neg (by decide)]
        clear HQ_14
        refine HC3.out.mono ?_; rintro e w3 ⟨rfl, hb, hP⟩
        have hw3 : W2b.heap.size ≤ w3.heap.size := hb.size
        have HB_22 := Lib.hid (HB_15.out.on hB0 hb)
        have HM_23 := Lib.hid (HM_16.out.kp (by omega) hb)
        have HP_24 : Hid (Psr g XS (k2) 0 bl w3) := hP
        have HS_25 := Lib.hid (HS_18.out.kp (by omega) hb)
        have HT1_26 := Lib.hid (kz_kp HT1_19.out (Or.inl (by omega)) hb)
        have HT2_27 := Lib.hid (bz_kp HT2_20.out (Or.inl (by omega)) hb)
        clear hb hP HC3 hV3
        clear HB_15 HM_16 HP_17 HS_18 HT1_19 HT2_20
        obtain ⟨t0, t1, t2, t3, t4, t5, t6, t7, t8, t9, t10, t11, t12⟩ := cells13 HS_25.out
        obtain ⟨r0, r1, r2, r3, r4, r5, r6, r7, r8, r9, r10, r11, r12⟩ := cells13 HM_23.out
        obtain ⟨g0, g1, g2, g3, g4, g5, g6, g7, g8, g9, g10, g11, g12⟩ := free13 HM_23.out
        go_wp2_with fail
        obtain ⟨q0, q1, q2, q3, q4, q5, q6, q7, q8, q9, q10, q11, q12⟩ := cells13 (bk_set13 (v0 := .int .i64 5) (v1 := .string ⟨#[]⟩) (v2 := .int .i64 0) (v3 := .int .i64 t.op) (v4 := .int .i64 t.n) (v5 := .string t.s) (v6 := .slice a0 t.args.length c0) (v7 := .int .i64 0) (v8 := .int .i64 0) (v9 := .string ⟨#[]⟩) (v10 := .slice none 0 0) (v11 := .slice a3 bd.length c3) (v12 := .slice none 0 0) HM_23.out)
        unfold wset13 at q0 q1 q2 q3 q4 q5 q6 q7 q8 q9 q10 q11 q12
        refine bodyPost_ret (v := .agg #[.int .i64 5, .string ⟨#[]⟩, .int .i64 0, .int .i64 t.op, .int .i64 t.n, .string t.s, .slice a0 t.args.length c0, .int .i64 0, .int .i64 0, .string ⟨#[]⟩, .slice none 0 0, .slice a3 bd.length c3, .slice none 0 0]) (by simp [results, Tryz.results181, go_sem, q0, q1, q2, q3, q4, q5, q6, q7, q8, q9, q10, q11, q12]) rfl ?_
        rw [HQ_21.out]
        exact PRd.mk_ok hj2 (kp_wset13 (b := B) (hB0.symm ▸ HB_22.out) (Nat.le_of_eq hB0)) (HP_24.out.wset13 (b := B) hgB) (okSt_e ⟨a0, c0, none, 0, a3, c3, none, 0, by rw [← clipB_len bd, clipB]; rfl, (kz_of (Z := Zk2 B S) (kz_wset13 (g := B) (Or.inl (Nat.lt_succ_self B)) HT1_26.out) (fun i hi => Or.inl (Nat.lt_succ_of_lt (hB0 ▸ hi)))), kids_nil _ _ _, (bz_of (Z := Zk2 B S) (bz_wset13 (g := B) (Or.inl (Nat.lt_succ_self B)) HT2_27.out) (fun i hi => Or.inl (Nat.lt_succ_of_lt (hB0 ▸ hi)))), by rw [clipB]; exact bodies_nil _ _ _⟩)
      · skip
        rw [hV3] at HC3
        have HQ_28 : Hid (QF = (gB bl (dr XS (k2 + 1))).to fun el r => .ok (.mk 5 none8 0 t noE bd el) r) := by
          show _ = _
          rw [HQ_14.out]
          unfold qelL
          rw [hV3, if_pos rfl, dr_tail]
        clear HQ_14
        have hj3 : k2 + 1 ≤ XS.length := by
          rcases Nat.lt_or_ge k2 XS.length with h | h
          · exact h
          · rw [is_none h] at hV3; cases hV3
        refine HC3.out.mono ?_; rintro e w3 ⟨rfl, hb, hP⟩
        have hw3 : W2b.heap.size ≤ w3.heap.size := hb.size
        have HB_29 := Lib.hid (HB_15.out.on hB0 hb)
        have HM_30 := Lib.hid (HM_16.out.kp (by omega) hb)
        have HP_31 : Hid (Psr g XS (k2 + 1) 0 bl w3) := hP
        have HS_32 := Lib.hid (HS_18.out.kp (by omega) hb)
        have HT1_33 := Lib.hid (kz_kp HT1_19.out (Or.inl (by omega)) hb)
        have HT2_34 := Lib.hid (bz_kp HT2_20.out (Or.inl (by omega)) hb)
        clear hb hP HC3 hV3
        clear HB_15 HM_16 HP_17 HS_18 HT1_19 HT2_20
        go_wp2_with fail
        have HC4 := Lib.hid (HBk.out (k2 + 1) (by omega) (by omega) w3 HP_31.out)
        have hsf4 := (gB_is bl (dr XS (k2 + 1))).2
        generalize gB bl (dr XS (k2 + 1)) = q4 at HC4 HQ_28 hsf4
        refine HC4.out.mono ?_; intro e w4 hm
        cases q4 with
        | no r x =>
          obtain ⟨j, hj, rfl⟩ := sf_no hsf4
          obtain ⟨hb, he⟩ := PRd.no_dr hm hj
          have HBp := Lib.hid (HB_29.out.on hB0 hb)
          unfold fails at he
          subst he
          have HJ := Lib.hid hj
          clear hb hm hj hsf4 HC4
          go_wp2_with fail
          refine ⟨rfl, ?_⟩
          rw [HQ_28.out]
          exact PRd.mk_no HJ.out (hB0.symm ▸ HBp.out)
        | ok el r =>
          obtain ⟨k4, hk4, hj4, rfl⟩ := sf_ok hsf4
          obtain ⟨hb, v, rfl, hP, a4, c4, rfl, hK⟩ := PRd.ok_dr hm hj4
          have hw4 : w3.heap.size ≤ w4.heap.size := hb.size
          have HB_35 := Lib.hid (HB_29.out.on hB0 hb)
          have HM_36 := Lib.hid (HM_30.out.kp (by omega) hb)
          have HP_37 := Lib.hid hP
          have HS_38 := Lib.hid (HS_32.out.kp (by omega) hb)
          have HT1_39 := Lib.hid (kz_kp HT1_33.out (Or.inl (by omega)) hb)
          have HT2_40 := Lib.hid (bz_kp HT2_34.out (Or.inl (by omega)) hb)
          have HT4 : Hid (BodiesF (Zk2 B S) w4 a4 (clipB el)) := bz_of hK (fun i hi => by rcases hi with hi | hi <;> omega)
          clear hb hm hP hsf4 HC4 hK
          clear HB_29 HM_30 HP_31 HS_32 HT1_33 HT2_34
          have HQ_41 : Hid (QF = .ok (.mk 5 none8 0 t noE bd el) (dr XS k4)) := HQ_28.out
          clear HQ_28
          obtain ⟨s0, s1, s2, s3, s4, s5, s6, s7, s8, s9, s10, s11, s12⟩ := cells13 HS_38.out
          obtain ⟨f0, f1, f2, f3, f4, f5, f6, f7, f8, f9, f10, f11, f12⟩ := free13 HS_38.out
          have HS_45 : Hid (Bk (w4.setCell ⟨S, 12, none⟩ (.slice a4 el.length c4)) S #[.int .i64 5, .string ⟨#[]⟩, .int .i64 0, .int .i64 t.op, .int .i64 t.n, .string t.s, .slice a0 t.args.length c0, .int .i64 0, .int .i64 0, .string ⟨#[]⟩, .slice none 0 0, .slice a3 bd.length c3, .slice a4 el.length c4] 76) := by
            have hx := (HS_38.out.set 12 (u := .slice a4 el.length c4))
            unfold Hid; simpa using hx
          have HB_42 : Hid (Kp B g w (w4.setCell ⟨S, 12, none⟩ (.slice a4 el.length c4))) := kp_set (HB_35.out) (by omega)
          have HM_43 : Hid (Bk (w4.setCell ⟨S, 12, none⟩ (.slice a4 el.length c4)) B #[.int .i64 0, .string ⟨#[]⟩, .int .i64 0, .int .i64 0, .int .i64 0, .string ⟨#[]⟩, .slice none 0 0, .int .i64 0, .int .i64 0, .string ⟨#[]⟩, .slice none 0 0, .slice none 0 0, .slice none 0 0] 76) := (HM_36.out).apart (by omega)
          have HP_44 : Hid (Psr g XS k4 0 bl (w4.setCell ⟨S, 12, none⟩ (.slice a4 el.length c4))) := (HP_37.out).set (by omega)
          have HT1_46 : Hid (KidsF (Zk2 B S) (w4.setCell ⟨S, 12, none⟩ (.slice a4 el.length c4)) a0 t.args) := kz_set (Or.inr rfl) (HT1_39.out)
          have HT2_47 : Hid (BodiesF (Zk2 B S) (w4.setCell ⟨S, 12, none⟩ (.slice a4 el.length c4)) a3 (clipB bd)) := bz_set (Or.inr rfl) (HT2_40.out)
          have HT4_48 : Hid (BodiesF (Zk2 B S) (w4.setCell ⟨S, 12, none⟩ (.slice a4 el.length c4)) a4 (clipB el)) := bz_set (Or.inr rfl) (HT4.out)
          have hsz : (w4.setCell ⟨S, 12, none⟩ (.slice a4 el.length c4)).heap.size = w4.heap.size := by simp [World.setCell]
          clear HB_35 HM_36 HP_37 HS_38 HT1_39 HT2_40 HT4
          obtain ⟨t0, t1, t2, t3, t4, t5, t6, t7, t8, t9, t10, t11, t12⟩ := cells13 HS_45.out
          obtain ⟨r0, r1, r2, r3, r4, r5, r6, r7, r8, r9, r10, r11, r12⟩ := cells13 HM_43.out
          obtain ⟨g0, g1, g2, g3, g4, g5, g6, g7, g8, g9, g10, g11, g12⟩ := free13 HM_43.out
          go_wp2_with fail
          obtain ⟨q0, q1, q2, q3, q4, q5, q6, q7, q8, q9, q10, q11, q12⟩ := cells13 (bk_set13 (v0 := .int .i64 5) (v1 := .string ⟨#[]⟩) (v2 := .int .i64 0) (v3 := .int .i64 t.op) (v4 := .int .i64 t.n) (v5 := .string t.s) (v6 := .slice a0 t.args.length c0) (v7 := .int .i64 0) (v8 := .int .i64 0) (v9 := .string ⟨#[]⟩) (v10 := .slice none 0 0) (v11 := .slice a3 bd.length c3) (v12 := .slice a4 el.length c4) HM_43.out)
          unfold wset13 at q0 q1 q2 q3 q4 q5 q6 q7 q8 q9 q10 q11 q12
          refine bodyPost_ret (v := .agg #[.int .i64 5, .string ⟨#[]⟩, .int .i64 0, .int .i64 t.op, .int .i64 t.n, .string t.s, .slice a0 t.args.length c0, .int .i64 0, .int .i64 0, .string ⟨#[]⟩, .slice none 0 0, .slice a3 bd.length c3, .slice a4 el.length c4]) (by simp [results, Tryz.results181, go_sem, q0, q1, q2, q3, q4, q5, q6, q7, q8, q9, q10, q11, q12]) rfl ?_
          rw [HQ_41.out]
          exact PRd.mk_ok hj4 (kp_wset13 (b := B) (hB0.symm ▸ HB_42.out) (Nat.le_of_eq hB0)) (HP_44.out.wset13 (b := B) hgB) (okSt_e ⟨a0, c0, none, 0, a3, c3, a4, c4, by rw [← clipB_len bd, ← clipB_len el]; rfl, (kz_of (Z := Zk2 B S) (kz_wset13 (g := B) (Or.inl (Nat.lt_succ_self B)) HT1_46.out) (fun i hi => Or.inl (Nat.lt_succ_of_lt (hB0 ▸ hi)))), kids_nil _ _ _, (bz_of (Z := Zk2 B S) (bz_wset13 (g := B) (Or.inl (Nat.lt_succ_self B)) HT2_47.out) (fun i hi => Or.inl (Nat.lt_succ_of_lt (hB0 ▸ hi)))), (bz_of (Z := Zk2 B S) (bz_wset13 (g := B) (Or.inl (Nat.lt_succ_self B)) HT4_48.out) (fun i hi => Or.inl (Nat.lt_succ_of_lt (hB0 ▸ hi))))⟩)
end Go.Proofs.YteglaeopaocilaaGreatDoor.P
namespace Go.Proofs.YteglaeopaocilaaGreatDoor.P
open L (Str Tok)
open A

theorem tkw_of {l : T} {s : Str} (h : isW l s = true) : tkw l = some s := by rw [isW_tkw] at h; exact of_decide_eq_true h
theorem stOp_of {l : T} {s : Str} (h : isW l s = true) : stOp l = findO stW (some s) := by unfold stOp; rw [findW_tkw, tkw_of h]
theorem to_to {α β γ : Type} (q : R α) (f : α → T → R β) (k : β → T → R γ) : (q.to f).to k = q.to fun a r => (f a r).to k := by cases q <;> rfl
theorem gT_one {d : Nat} {o : Int} {nm : ByteArray} {a b : Ex} {r : T} (x : Ex) (h6 : o ≠ 6) (h5 : o ≠ 5) : gT d o nm a b r = (closeW [59] x r).to fun _ r => .ok (.mk o nm 0 a b [] []) r := by
  rw [gT_step, if_neg h6, if_neg h5]
  unfold closeW
  split <;> rfl
theorem close_to {s : Str} {a : Ex} {r : T} {f : Ex → T → R St} : (closeW s a r).to f = (closeW s a r).to fun _ r => f a r := by
  unfold closeW
  split <;> rfl
theorem gE_one {d : Nat} {o : Int} {nm : ByteArray} {l : T} (h8 : o ≠ 8) (h3 : o ≠ 3) (h6 : o ≠ 6) (h5 : o ≠ 5) : gE d o nm l = (eL [59] l).to fun a r => .ok (.mk o nm 0 a noE [] []) r := by
  rw [gE_step, if_neg h8]
  unfold eL
  rw [to_to]
  congr 1
  funext a r
  rw [if_neg (fun h => h.elim h3 h6), gT_one a h6 h5]
  exact (close_to (f := fun a r => R.ok (St.mk o nm 0 a noE [] []) r)).symm
theorem asL_eq {d : Nat} {o : Int} {l : T} (h8 : o ≠ 8) (h3 : o ≠ 3) (h6 : o ≠ 6) (h5 : o ≠ 5) : (match nm1 l with
      | none => R.no l (wrong l)
      | some nm => if isW l.tail [61] = true then gE d o nm l.tail.tail else .no l.tail (wrong l.tail)) = asL o l := by
  unfold asL nL
  cases nm1 l with
  | none => rfl
  | some nm =>
    show (if isW l.tail [61] = true then gE d o nm l.tail.tail else .no l.tail (wrong l.tail)) = (wL [61] l.tail).to _
    unfold wL
    cases isW l.tail [61]
    · rfl
    · exact gE_one h8 h3 h6 h5
theorem gS_let {d : Nat} {l : T} (h : isW l kLet = true) : gS d l = asL 1 l.tail := by
  have e : stOp l = 1 := (stOp_of h).trans (by decide)
  rw [gS_step, e, if_neg (by decide), if_pos (Or.inl rfl)]
  exact asL_eq (by decide) (by decide) (by decide) (by decide)
theorem gS_set {d : Nat} {l : T} (h : stOp l = 0) : gS d l = asL 2 l := by
  rw [gS_step, if_pos h]
  exact asL_eq (by decide) (by decide) (by decide) (by decide)
theorem gS_plain {d : Nat} {l : T} {o : Int} (e : stOp l = o) (h0 : o ≠ 0) (h1 : o ≠ 1) (h6 : o ≠ 6) : gS d l = gE d o none8 l.tail := by
  rw [gS_step, e, if_neg h0, if_neg (fun h => h.elim h1 h6)]
theorem gS_put {d : Nat} {l : T} (h : isW l kPut = true) : gS d l = ptL l.tail := by
  have e : stOp l = 3 := (stOp_of h).trans (by decide)
  rw [gS_plain e (by decide) (by decide) (by decide), gE_step, if_neg (by decide)]
  unfold ptL
  show _ = (eL [61] l.tail).to _
  unfold eL
  rw [to_to]
  congr 1
  funext a r
  rw [if_pos (Or.inl rfl), if_neg (show ¬ (3 : Int) = 6 by decide)]
  unfold closeW
  cases isW r [61]
  · rfl
  · show (gX 1 0 r.tail).to _ = ((gX 1 0 r.tail).to _).to _
    rw [to_to]
    congr 1
    funext b r2
    rw [gT_one b (by decide) (by decide)]
    exact (close_to (f := fun b r => R.ok (St.mk 3 none8 0 a b [] []) r)).symm
theorem gS_one {d : Nat} {l : T} {o : Int} (e : stOp l = o) (ho : o = 4 ∨ o = 7) : gS d l = (eL [59] l.tail).to fun a r => .ok (.mk o none8 0 a noE [] []) r := by
  rw [gS_plain e (by omega) (by omega) (by omega), gE_one (by omega) (by omega) (by omega) (by omega)]
theorem gS_if {d : Nat} {l : T} (h : isW l kIf = true) : gS d l = whL (d + 1) l.tail := by
  have e : stOp l = 5 := (stOp_of h).trans (by decide)
  rw [gS_plain e (by decide) (by decide) (by decide), gE_step, if_neg (by decide)]
  unfold whL
  congr 1
  funext a r
  rw [if_neg (by decide), gT_step, if_neg (by decide), if_pos rfl]
  rfl
theorem gS_abort {d : Nat} {l : T} (h : isW l kAbort = true) : gS d l = abL l.tail := by
  have e : stOp l = 8 := (stOp_of h).trans (by decide)
  rw [gS_plain e (by decide) (by decide) (by decide), gE_step, if_pos rfl, gN_step]
  unfold abL mL
  cases int1 l.tail with
  | none => rfl
  | some m =>
    show (if (8 : Int) = 8 then _ else _) = (wL [59] l.tail.tail).to _
    rw [if_pos rfl]
    unfold wL
    cases isW l.tail.tail [59] <;> rfl
theorem gN_6 {d : Nat} {nm : ByteArray} {a b : Ex} {l : T} : gN d 6 nm a b l = (mL l).to fun m r => (gB (d + 1) r).to fun bd r => .ok (.mk 6 nm m a b bd []) r := by
  rw [gN_step]
  unfold mL
  cases int1 l with
  | none => rfl
  | some m => exact if_neg (by decide)
theorem gS_for {d : Nat} {l : T} (h : isW l kFor = true) : gS d l = lpL (d + 1) l.tail := by
  have e : stOp l = 6 := (stOp_of h).trans (by decide)
  rw [gS_step, e, if_neg (by decide), if_pos (Or.inr rfl)]
  unfold lpL nL
  cases nm1 l.tail with
  | none => rfl
  | some nm =>
    show (if isW l.tail.tail [61] = true then gE d 6 nm l.tail.tail.tail else .no l.tail.tail (wrong l.tail.tail)) = (wL [61] l.tail.tail).to _
    unfold wL
    cases isW l.tail.tail [61]
    · rfl
    · show gE d 6 nm l.tail.tail.tail = (eL kTo l.tail.tail.tail).to _
      rw [gE_step, if_neg (by decide)]
      show _ = ((gX 1 0 l.tail.tail.tail).to (closeW kTo)).to _
      rw [to_to]
      congr 1
      funext a r
      rw [if_pos (Or.inr rfl), if_pos rfl]
      unfold closeW
      cases isW r kTo
      · rfl
      · show (gX 1 0 r.tail).to _ = ((gX 1 0 r.tail).to (closeW kMax)).to _
        rw [to_to]
        congr 1
        funext b r2
        rw [gT_step, if_pos rfl]
        unfold closeW
        cases isW r2 kMax
        · rfl
        · exact gN_6
theorem stOp_none {l : T} (h : ∀ p ∈ stW, isW l p.1 = false) : stOp l = 0 := by
  have e : (stW.find? fun p => isW l p.1) = none := List.find?_eq_none.2 fun p hp => by rw [h p hp]; decide
  unfold stOp findW
  rw [e]
end Go.Proofs.YteglaeopaocilaaGreatDoor.P
namespace Go.Proofs.YteglaeopaocilaaGreatDoor.P
open Go.RowKit
open L (Str Tok Tks toks At below_2 below_box ret_bool ret_int ret_string)
open A

theorem sf_to {α β : Type} {l : T} {q : R α} {f : α → T → R β} (h : Sf l q) (hf : ∀ a r, Sf r (f a r) ∨ (∃ b, f a r = .ok b r)) : Sf l (q.to f) := by
  cases q with
  | no r x => exact h
  | ok a r =>
    show Sf l (f a r)
    rcases hf a r with h1 | ⟨b, h1⟩
    · revert h1
      cases f a r with
      | no r2 x => exact fun h1 => ⟨h1.1.trans h.1, h1.2⟩
      | ok b r2 => exact fun h1 => ⟨h1.1.trans h.1, Nat.lt_trans h1.2 h.2⟩
    · rw [h1]; exact h
theorem asL_sf (o : Int) (l : T) : Sf l (asL o l) := sf_to (nL_sf l) fun _ r => Or.inl (sf_to (wL_sf _ r) fun _ r => Or.inl (sf_to (eL_sf _ r) fun _ _ => Or.inr ⟨_, rfl⟩))
theorem ptL_sf (l : T) : Sf l (ptL l) := sf_to (eL_sf _ l) fun _ r => Or.inl (sf_to (eL_sf _ r) fun _ _ => Or.inr ⟨_, rfl⟩)
theorem abL_sf (l : T) : Sf l (abL l) := sf_to (mL_sf l) fun _ r => Or.inl (sf_to (wL_sf _ r) fun _ _ => Or.inr ⟨_, rfl⟩)
theorem elL_sf (d : Nat) (a : Ex) (bd : List St) (r : T) : Sf r (qelL d a bd r) ∨ ∃ b, qelL d a bd r = .ok b r := by
  unfold qelL
  cases h : isW r kElse
  · exact Or.inr ⟨_, if_neg (by decide)⟩
  · rw [if_pos rfl]
    have h1 : Sf r.tail ((gB d r.tail).to fun el r => R.ok (St.mk 5 none8 0 a noE bd el) r) := sf_to (gB_is d r.tail).2 fun _ _ => Or.inr ⟨_, rfl⟩
    refine Or.inl ?_
    revert h1
    cases (gB d r.tail).to fun el r => R.ok (St.mk 5 none8 0 a noE bd el) r with
    | no r2 x => exact fun h1 => ⟨h1.1.trans (tail_sf r), h1.2⟩
    | ok b r2 => exact fun h1 => ⟨h1.1.trans (tail_sf r), Nat.lt_of_lt_of_le h1.2 (tail_sf r).length_le⟩
theorem whL_sf (d : Nat) (l : T) : Sf l (whL d l) := sf_to (gX_is (by decide)).2 fun a r => Or.inl (sf_to (gB_is d r).2 fun bd r => elL_sf d a bd r)
theorem lpL_sf (d : Nat) (l : T) : Sf l (lpL d l) := sf_to (nL_sf l) fun _ r => Or.inl (sf_to (wL_sf _ r) fun _ r => Or.inl (sf_to (eL_sf _ r) fun _ r => Or.inl (sf_to (eL_sf _ r) fun _ r => Or.inl (sf_to (mL_sf r) fun _ r => Or.inl (sf_to (gB_is d r).2 fun _ _ => Or.inr ⟨_, rfl⟩)))))
set_option maxHeartbeats 8000000 in
set_option maxRecDepth 100000 in
theorem qstmt_any (g : Nat) (XS : List L.T) (k : Nat) (d : Nat) (HBk : Hid (∀ k', k < k' → k' ≤ XS.length → CBk g XS k' (d + 1))) (w : World) (h : Psr g XS k 0 (d + 1) w) :
    Calls Tryz.prog 138 #[ptr g] w fun e w' => PRd g XS 0 (d + 1) w w' (gS d (dr XS k)) (okSt w.heap.size w') e := by
  have hbx := below_box w (.cells #[.int .i64 0, .string ⟨#[]⟩, .int .i64 0, .int .i64 0, .int .i64 0, .string ⟨#[]⟩, .slice none 0 0, .int .i64 0, .int .i64 0, .string ⟨#[]⟩, .slice none 0 0, .slice none 0 0, .slice none 0 0] 76)
  have HM := Lib.hid (Bk.new w #[.int .i64 0, .string ⟨#[]⟩, .int .i64 0, .int .i64 0, .int .i64 0, .string ⟨#[]⟩, .slice none 0 0, .int .i64 0, .int .i64 0, .string ⟨#[]⟩, .slice none 0 0, .slice none 0 0, .slice none 0 0] 76)
  have hlt0 := h.lt
  have HP := Lib.hid (h.below hbx)
  have HB : Hid (Kp w.heap.size g w _) := Kp.of hbx
  obtain ⟨QF, hQF⟩ : ∃ QF, gS d (dr XS k) = QF := ⟨_, rfl⟩
  have HQ : Hid (QF = gS d (dr XS k)) := hQF.symm
  rw [hQF]
  clear hQF
  clear hbx h
  go_enter Tryz.func138, Tryz.ntmps138
  go_wp2_with fail
  generalize w.alloc (.cells #[.int .i64 0, .string ⟨#[]⟩, .int .i64 0, .int .i64 0, .int .i64 0, .string ⟨#[]⟩, .slice none 0 0, .int .i64 0, .int .i64 0, .string ⟨#[]⟩, .slice none 0 0, .slice none 0 0, .slice none 0 0] 76) = W0 at *
  generalize hB0 : w.heap.size = B at *
  have hgB : g < B := hlt0
  have hBW : B < W0.heap.size := HM.out.lt
  have HC1 := Lib.hid (ctake g XS k (d + 1) ⟨#[108, 101, 116]⟩ kLet rfl W0 HP.out)
  cases hV1 : isW (dr XS k) kLet
  rotate_left
  · skip
    rw [hV1] at HC1
    have HQ_1 : Hid (QF = asL 1 (dr XS (k + 1))) := by
      show _ = _
      rw [HQ.out, gS_let hV1, dr_tail]
    clear HQ
    have hj1 : k + 1 ≤ XS.length := by
      rcases Nat.lt_or_ge k XS.length with h | h
      · exact h
      · rw [is_none h] at hV1; cases hV1
    refine HC1.out.mono ?_; rintro e w1 ⟨rfl, hb, hP⟩
    have hw1 : W0.heap.size ≤ w1.heap.size := hb.size
    have HB_2 := Lib.hid (HB.out.on hB0 hb)
    have HM_3 := Lib.hid (HM.out.kp (by omega) hb)
    have HP_4 : Hid (Psr g XS (k + 1) 0 (d + 1) w1) := hP
    clear hb hP HC1 hV1
    clear HB HM HP
    go_wp2_with fail
    have HC2 := Lib.hid (oassignment_any g XS (k + 1) (d + 1) 1 w1 HP_4.out)
    have hsf2 := asL_sf 1 (dr XS (k + 1))
    generalize asL 1 (dr XS (k + 1)) = q2 at HC2 HQ_1 hsf2
    refine HC2.out.mono ?_; intro e w2 hm
    cases q2 with
    | no r x =>
      obtain ⟨j, hj, rfl⟩ := sf_no hsf2
      obtain ⟨hb, he⟩ := PRd.no_dr hm hj
      have HBp := Lib.hid (HB_2.out.on hB0 hb)
      unfold fails at he
      subst he
      have HJ := Lib.hid hj
      clear hb hm hj hsf2 HC2
      go_wp2_with fail
      refine ⟨rfl, ?_⟩
      rw [HQ_1.out]
      exact PRd.mk_no HJ.out (hB0.symm ▸ HBp.out)
    | ok t r =>
      obtain ⟨k2, hk2, hj2, rfl⟩ := sf_ok hsf2
      have hqf : Hid (QF = .ok t (dr XS k2)) := HQ_1.out
      obtain ⟨hb, v, rfl, hP, a1, c1, a2, c2, a3, c3, a4, c4, rfl, K1, K2, K3, K4⟩ := PRd.ok_dr hm hj2
      have hw2 : w1.heap.size ≤ w2.heap.size := hb.size
      have hBs : B < w1.heap.size := HM_3.out.lt
      have HBn := Lib.hid (HB_2.out.on hB0 hb)
      have HMn := Lib.hid (HM_3.out.kp (by omega) hb)
      have HPn := Lib.hid hP
      have HK1 : Hid (KidsF (Zk2 B B) w2 a1 (clipS t).a.args) := kz_of K1 (fun i hi => by rcases hi with hi | hi <;> omega)
      have HK2 : Hid (KidsF (Zk2 B B) w2 a2 (clipS t).b.args) := kz_of K2 (fun i hi => by rcases hi with hi | hi <;> omega)
      have HK3 : Hid (BodiesF (Zk2 B B) w2 a3 (clipS t).body) := bz_of K3 (fun i hi => by rcases hi with hi | hi <;> omega)
      have HK4 : Hid (BodiesF (Zk2 B B) w2 a4 (clipS t).els) := bz_of K4 (fun i hi => by rcases hi with hi | hi <;> omega)
      have HOK : Hid (∀ w' v, okS0 w.heap.size w' (clipS t) v → okSt w.heap.size w' t v) := fun _ _ h => h
      clear HB_2 HM_3 HP_4 HQ_1 hb hm hP K1 K2 K3 K4
      generalize clipS t = u at *
      unfold sVal
      obtain ⟨r0, r1, r2, r3, r4, r5, r6, r7, r8, r9, r10, r11, r12⟩ := cells13 HMn.out
      obtain ⟨g0, g1, g2, g3, g4, g5, g6, g7, g8, g9, g10, g11, g12⟩ := free13 HMn.out
      go_wp2_with fail
      obtain ⟨q0, q1, q2, q3, q4, q5, q6, q7, q8, q9, q10, q11, q12⟩ := cells13 (bk_set13 (v0 := .int .i64 u.op) (v1 := .string u.name) (v2 := .int .i64 u.mx) (v3 := .int .i64 u.a.op) (v4 := .int .i64 u.a.n) (v5 := .string u.a.s) (v6 := .slice a1 u.a.args.length c1) (v7 := .int .i64 u.b.op) (v8 := .int .i64 u.b.n) (v9 := .string u.b.s) (v10 := .slice a2 u.b.args.length c2) (v11 := .slice a3 u.body.length c3) (v12 := .slice a4 u.els.length c4) HMn.out)
      unfold wset13 at q0 q1 q2 q3 q4 q5 q6 q7 q8 q9 q10 q11 q12
      refine bodyPost_ret (v := .agg #[.int .i64 u.op, .string u.name, .int .i64 u.mx, .int .i64 u.a.op, .int .i64 u.a.n, .string u.a.s, .slice a1 u.a.args.length c1, .int .i64 u.b.op, .int .i64 u.b.n, .string u.b.s, .slice a2 u.b.args.length c2, .slice a3 u.body.length c3, .slice a4 u.els.length c4]) (by simp [results, Tryz.results138, go_sem, q0, q1, q2, q3, q4, q5, q6, q7, q8, q9, q10, q11, q12]) rfl ?_
      rw [hqf.out]
      exact PRd.mk_ok hj2 (kp_wset13 (b := B) (hB0.symm ▸ HBn.out) (Nat.le_of_eq hB0)) (HPn.out.wset13 (b := B) hgB) (HOK.out _ _ ⟨a1, c1, a2, c2, a3, c3, a4, c4, rfl, (kz_of (Z := Zk2 B B) (kz_wset13 (g := B) (Or.inl (Nat.lt_succ_self B)) HK1.out) (fun i hi => Or.inl (Nat.lt_succ_of_lt (hB0 ▸ hi)))), (kz_of (Z := Zk2 B B) (kz_wset13 (g := B) (Or.inl (Nat.lt_succ_self B)) HK2.out) (fun i hi => Or.inl (Nat.lt_succ_of_lt (hB0 ▸ hi)))), (bz_of (Z := Zk2 B B) (bz_wset13 (g := B) (Or.inl (Nat.lt_succ_self B)) HK3.out) (fun i hi => Or.inl (Nat.lt_succ_of_lt (hB0 ▸ hi)))), (bz_of (Z := Zk2 B B) (bz_wset13 (g := B) (Or.inl (Nat.lt_succ_self B)) HK4.out) (fun i hi => Or.inl (Nat.lt_succ_of_lt (hB0 ▸ hi))))⟩)
  rw [hV1] at HC1
  have HN0 : Hid (isW (dr XS k) kLet = false) := hV1
  refine HC1.out.mono ?_; rintro e w1 ⟨rfl, hb, hP⟩
  have hw1 : W0.heap.size ≤ w1.heap.size := hb.size
  have HB_5 := Lib.hid (HB.out.on hB0 hb)
  have HM_6 := Lib.hid (HM.out.kp (by omega) hb)
  have HP_7 : Hid (Psr g XS (k) 0 (d + 1) w1) := hP
  clear hb hP HC1 hV1
  clear HB HM HP
  go_wp2_with fail
  have HC2 := Lib.hid (ctake g XS k (d + 1) ⟨#[112, 117, 116]⟩ kPut rfl w1 HP_7.out)
  cases hV2 : isW (dr XS k) kPut
  rotate_left
  · skip
    rw [hV2] at HC2
    have HQ_8 : Hid (QF = ptL (dr XS (k + 1))) := by
      show _ = _
      rw [HQ.out, gS_put hV2, dr_tail]
    clear HQ
    have hj2 : k + 1 ≤ XS.length := by
      rcases Nat.lt_or_ge k XS.length with h | h
      · exact h
      · rw [is_none h] at hV2; cases hV2
    refine HC2.out.mono ?_; rintro e w2 ⟨rfl, hb, hP⟩
    have hw2 : w1.heap.size ≤ w2.heap.size := hb.size
    have HB_9 := Lib.hid (HB_5.out.on hB0 hb)
    have HM_10 := Lib.hid (HM_6.out.kp (by omega) hb)
    have HP_11 : Hid (Psr g XS (k + 1) 0 (d + 1) w2) := hP
    clear hb hP HC2 hV2
    clear HB_5 HM_6 HP_7
    go_wp2_with fail
    have HC3 := Lib.hid (qput_any g XS (k + 1) (d + 1) w2 HP_11.out)
    have hsf3 := ptL_sf (dr XS (k + 1))
    generalize ptL (dr XS (k + 1)) = q3 at HC3 HQ_8 hsf3
    refine HC3.out.mono ?_; intro e w3 hm
    cases q3 with
    | no r x =>
      obtain ⟨j, hj, rfl⟩ := sf_no hsf3
      obtain ⟨hb, he⟩ := PRd.no_dr hm hj
      have HBp := Lib.hid (HB_9.out.on hB0 hb)
      unfold fails at he
      subst he
      have HJ := Lib.hid hj
      clear hb hm hj hsf3 HC3
      go_wp2_with fail
      refine ⟨rfl, ?_⟩
      rw [HQ_8.out]
      exact PRd.mk_no HJ.out (hB0.symm ▸ HBp.out)
    | ok t r =>
      obtain ⟨k3, hk3, hj3, rfl⟩ := sf_ok hsf3
      have hqf : Hid (QF = .ok t (dr XS k3)) := HQ_8.out
      obtain ⟨hb, v, rfl, hP, a1, c1, a2, c2, a3, c3, a4, c4, rfl, K1, K2, K3, K4⟩ := PRd.ok_dr hm hj3
      have hw3 : w2.heap.size ≤ w3.heap.size := hb.size
      have hBs : B < w2.heap.size := HM_10.out.lt
      have HBn := Lib.hid (HB_9.out.on hB0 hb)
      have HMn := Lib.hid (HM_10.out.kp (by omega) hb)
      have HPn := Lib.hid hP
      have HK1 : Hid (KidsF (Zk2 B B) w3 a1 (clipS t).a.args) := kz_of K1 (fun i hi => by rcases hi with hi | hi <;> omega)
      have HK2 : Hid (KidsF (Zk2 B B) w3 a2 (clipS t).b.args) := kz_of K2 (fun i hi => by rcases hi with hi | hi <;> omega)
      have HK3 : Hid (BodiesF (Zk2 B B) w3 a3 (clipS t).body) := bz_of K3 (fun i hi => by rcases hi with hi | hi <;> omega)
      have HK4 : Hid (BodiesF (Zk2 B B) w3 a4 (clipS t).els) := bz_of K4 (fun i hi => by rcases hi with hi | hi <;> omega)
      have HOK : Hid (∀ w' v, okS0 w.heap.size w' (clipS t) v → okSt w.heap.size w' t v) := fun _ _ h => h
      clear HB_9 HM_10 HP_11 HQ_8 hb hm hP K1 K2 K3 K4
      generalize clipS t = u at *
      unfold sVal
      obtain ⟨r0, r1, r2, r3, r4, r5, r6, r7, r8, r9, r10, r11, r12⟩ := cells13 HMn.out
      obtain ⟨g0, g1, g2, g3, g4, g5, g6, g7, g8, g9, g10, g11, g12⟩ := free13 HMn.out
      go_wp2_with fail
      obtain ⟨q0, q1, q2, q3, q4, q5, q6, q7, q8, q9, q10, q11, q12⟩ := cells13 (bk_set13 (v0 := .int .i64 u.op) (v1 := .string u.name) (v2 := .int .i64 u.mx) (v3 := .int .i64 u.a.op) (v4 := .int .i64 u.a.n) (v5 := .string u.a.s) (v6 := .slice a1 u.a.args.length c1) (v7 := .int .i64 u.b.op) (v8 := .int .i64 u.b.n) (v9 := .string u.b.s) (v10 := .slice a2 u.b.args.length c2) (v11 := .slice a3 u.body.length c3) (v12 := .slice a4 u.els.length c4) HMn.out)
      unfold wset13 at q0 q1 q2 q3 q4 q5 q6 q7 q8 q9 q10 q11 q12
      refine bodyPost_ret (v := .agg #[.int .i64 u.op, .string u.name, .int .i64 u.mx, .int .i64 u.a.op, .int .i64 u.a.n, .string u.a.s, .slice a1 u.a.args.length c1, .int .i64 u.b.op, .int .i64 u.b.n, .string u.b.s, .slice a2 u.b.args.length c2, .slice a3 u.body.length c3, .slice a4 u.els.length c4]) (by simp [results, Tryz.results138, go_sem, q0, q1, q2, q3, q4, q5, q6, q7, q8, q9, q10, q11, q12]) rfl ?_
      rw [hqf.out]
      exact PRd.mk_ok hj3 (kp_wset13 (b := B) (hB0.symm ▸ HBn.out) (Nat.le_of_eq hB0)) (HPn.out.wset13 (b := B) hgB) (HOK.out _ _ ⟨a1, c1, a2, c2, a3, c3, a4, c4, rfl, (kz_of (Z := Zk2 B B) (kz_wset13 (g := B) (Or.inl (Nat.lt_succ_self B)) HK1.out) (fun i hi => Or.inl (Nat.lt_succ_of_lt (hB0 ▸ hi)))), (kz_of (Z := Zk2 B B) (kz_wset13 (g := B) (Or.inl (Nat.lt_succ_self B)) HK2.out) (fun i hi => Or.inl (Nat.lt_succ_of_lt (hB0 ▸ hi)))), (bz_of (Z := Zk2 B B) (bz_wset13 (g := B) (Or.inl (Nat.lt_succ_self B)) HK3.out) (fun i hi => Or.inl (Nat.lt_succ_of_lt (hB0 ▸ hi)))), (bz_of (Z := Zk2 B B) (bz_wset13 (g := B) (Or.inl (Nat.lt_succ_self B)) HK4.out) (fun i hi => Or.inl (Nat.lt_succ_of_lt (hB0 ▸ hi))))⟩)
  rw [hV2] at HC2
  have HN1 : Hid (isW (dr XS k) kPut = false) := hV2
  refine HC2.out.mono ?_; rintro e w2 ⟨rfl, hb, hP⟩
  have hw2 : w1.heap.size ≤ w2.heap.size := hb.size
  have HB_12 := Lib.hid (HB_5.out.on hB0 hb)
  have HM_13 := Lib.hid (HM_6.out.kp (by omega) hb)
  have HP_14 : Hid (Psr g XS (k) 0 (d + 1) w2) := hP
  clear hb hP HC2 hV2
  clear HB_5 HM_6 HP_7
  go_wp2_with fail
  have HC3 := Lib.hid (ctake g XS k (d + 1) ⟨#[100, 101, 108, 101, 116, 101]⟩ kDel rfl w2 HP_14.out)
  cases hV3 : isW (dr XS k) kDel
  rotate_left
  · skip
    rw [hV3] at HC3
    have HQ_15 : Hid (QF = (eL [59] (dr XS (k + 1))).to fun a r => .ok (.mk 4 none8 0 a noE [] []) r) := by
      show _ = _
      rw [HQ.out, gS_one (o := 4) ((stOp_of hV3).trans (by decide)) (Or.inl rfl), dr_tail]
    clear HQ
    have hj3 : k + 1 ≤ XS.length := by
      rcases Nat.lt_or_ge k XS.length with h | h
      · exact h
      · rw [is_none h] at hV3; cases hV3
    refine HC3.out.mono ?_; rintro e w3 ⟨rfl, hb, hP⟩
    have hw3 : w2.heap.size ≤ w3.heap.size := hb.size
    have HB_16 := Lib.hid (HB_12.out.on hB0 hb)
    have HM_17 := Lib.hid (HM_13.out.kp (by omega) hb)
    have HP_18 : Hid (Psr g XS (k + 1) 0 (d + 1) w3) := hP
    clear hb hP HC3 hV3
    clear HB_12 HM_13 HP_14
    go_wp2_with fail
    have HC4 := Lib.hid (cexprBefore g XS (k + 1) (d + 1) ⟨#[59]⟩ [59] rfl w3 HP_18.out)
    have hsf4 := eL_sf [59] (dr XS (k + 1))
    generalize eL [59] (dr XS (k + 1)) = q4 at HC4 HQ_15 hsf4
    refine HC4.out.mono ?_; intro e w4 hm
    cases q4 with
    | no r x =>
      obtain ⟨j, hj, rfl⟩ := sf_no hsf4
      obtain ⟨hb, he⟩ := PRd.no_dr hm hj
      have HBp := Lib.hid (HB_16.out.on hB0 hb)
      unfold fails at he
      subst he
      have HJ := Lib.hid hj
      clear hb hm hj hsf4 HC4
      go_wp2_with fail
      refine ⟨rfl, ?_⟩
      rw [HQ_15.out]
      exact PRd.mk_no HJ.out (hB0.symm ▸ HBp.out)
    | ok t r =>
      obtain ⟨k4, hk4, hj4, rfl⟩ := sf_ok hsf4
      have hqf : Hid (QF = .ok (.mk 4 none8 0 t noE [] []) (dr XS k4)) := HQ_15.out
      obtain ⟨hb, v, rfl, hP, a1, c1, rfl, K1⟩ := PRd.ok_dr hm hj4
      have hw4 : w3.heap.size ≤ w4.heap.size := hb.size
      have hBs : B < w3.heap.size := HM_17.out.lt
      have HBn := Lib.hid (HB_16.out.on hB0 hb)
      have HMn := Lib.hid (HM_17.out.kp (by omega) hb)
      have HPn := Lib.hid hP
      have HK1 : Hid (KidsF (Zk2 B B) w4 a1 t.args) := kz_of K1 (fun i hi => by rcases hi with hi | hi <;> omega)
      clear HB_16 HM_17 HP_18 HQ_15 hb hm hP K1
      unfold exV
      obtain ⟨r0, r1, r2, r3, r4, r5, r6, r7, r8, r9, r10, r11, r12⟩ := cells13 HMn.out
      obtain ⟨g0, g1, g2, g3, g4, g5, g6, g7, g8, g9, g10, g11, g12⟩ := free13 HMn.out
      go_wp2_with fail
      obtain ⟨q0, q1, q2, q3, q4, q5, q6, q7, q8, q9, q10, q11, q12⟩ := cells13 (bk_set13 (v0 := .int .i64 4) (v1 := .string ⟨#[]⟩) (v2 := .int .i64 0) (v3 := .int .i64 t.op) (v4 := .int .i64 t.n) (v5 := .string t.s) (v6 := .slice a1 t.args.length c1) (v7 := .int .i64 0) (v8 := .int .i64 0) (v9 := .string ⟨#[]⟩) (v10 := .slice none 0 0) (v11 := .slice none 0 0) (v12 := .slice none 0 0) HMn.out)
      unfold wset13 at q0 q1 q2 q3 q4 q5 q6 q7 q8 q9 q10 q11 q12
      refine bodyPost_ret (v := .agg #[.int .i64 4, .string ⟨#[]⟩, .int .i64 0, .int .i64 t.op, .int .i64 t.n, .string t.s, .slice a1 t.args.length c1, .int .i64 0, .int .i64 0, .string ⟨#[]⟩, .slice none 0 0, .slice none 0 0, .slice none 0 0]) (by simp [results, Tryz.results138, go_sem, q0, q1, q2, q3, q4, q5, q6, q7, q8, q9, q10, q11, q12]) rfl ?_
      rw [hqf.out]
      exact PRd.mk_ok hj4 (kp_wset13 (b := B) (hB0.symm ▸ HBn.out) (Nat.le_of_eq hB0)) (HPn.out.wset13 (b := B) hgB) (okSt_0 ⟨a1, c1, none, 0, none, 0, none, 0, rfl, (kz_of (Z := Zk2 B B) (kz_wset13 (g := B) (Or.inl (Nat.lt_succ_self B)) HK1.out) (fun i hi => Or.inl (Nat.lt_succ_of_lt (hB0 ▸ hi)))), kids_nil _ _ _, bodies_nil _ _ _, bodies_nil _ _ _⟩)
  rw [hV3] at HC3
  have HN2 : Hid (isW (dr XS k) kDel = false) := hV3
  refine HC3.out.mono ?_; rintro e w3 ⟨rfl, hb, hP⟩
  have hw3 : w2.heap.size ≤ w3.heap.size := hb.size
  have HB_19 := Lib.hid (HB_12.out.on hB0 hb)
  have HM_20 := Lib.hid (HM_13.out.kp (by omega) hb)
  have HP_21 : Hid (Psr g XS (k) 0 (d + 1) w3) := hP
  clear hb hP HC3 hV3
  clear HB_12 HM_13 HP_14
  go_wp2_with fail
  have HC4 := Lib.hid (ctake g XS k (d + 1) ⟨#[105, 102]⟩ kIf rfl w3 HP_21.out)
  cases hV4 : isW (dr XS k) kIf
  rotate_left
  · skip
    rw [hV4] at HC4
    have HQ_22 : Hid (QF = whL (d + 1) (dr XS (k + 1))) := by
      show _ = _
      rw [HQ.out, gS_if hV4, dr_tail]
    clear HQ
    have hj4 : k + 1 ≤ XS.length := by
      rcases Nat.lt_or_ge k XS.length with h | h
      · exact h
      · rw [is_none h] at hV4; cases hV4
    refine HC4.out.mono ?_; rintro e w4 ⟨rfl, hb, hP⟩
    have hw4 : w3.heap.size ≤ w4.heap.size := hb.size
    have HB_23 := Lib.hid (HB_19.out.on hB0 hb)
    have HM_24 := Lib.hid (HM_20.out.kp (by omega) hb)
    have HP_25 : Hid (Psr g XS (k + 1) 0 (d + 1) w4) := hP
    clear hb hP HC4 hV4
    clear HB_19 HM_20 HP_21
    go_wp2_with fail
    have HC5 := Lib.hid (qwhen_any g XS (k + 1) (d + 1) (Lib.hid (fun k' h1 h2 => HBk.out k' (by omega) h2)) w4 HP_25.out)
    have hsf5 := whL_sf (d + 1) (dr XS (k + 1))
    generalize whL (d + 1) (dr XS (k + 1)) = q5 at HC5 HQ_22 hsf5
    refine HC5.out.mono ?_; intro e w5 hm
    cases q5 with
    | no r x =>
      obtain ⟨j, hj, rfl⟩ := sf_no hsf5
      obtain ⟨hb, he⟩ := PRd.no_dr hm hj
      have HBp := Lib.hid (HB_23.out.on hB0 hb)
      unfold fails at he
      subst he
      have HJ := Lib.hid hj
      clear hb hm hj hsf5 HC5
      go_wp2_with fail
      refine ⟨rfl, ?_⟩
      rw [HQ_22.out]
      exact PRd.mk_no HJ.out (hB0.symm ▸ HBp.out)
    | ok t r =>
      obtain ⟨k5, hk5, hj5, rfl⟩ := sf_ok hsf5
      have hqf : Hid (QF = .ok t (dr XS k5)) := HQ_22.out
      obtain ⟨hb, v, rfl, hP, a1, c1, a2, c2, a3, c3, a4, c4, rfl, K1, K2, K3, K4⟩ := PRd.ok_dr hm hj5
      have hw5 : w4.heap.size ≤ w5.heap.size := hb.size
      have hBs : B < w4.heap.size := HM_24.out.lt
      have HBn := Lib.hid (HB_23.out.on hB0 hb)
      have HMn := Lib.hid (HM_24.out.kp (by omega) hb)
      have HPn := Lib.hid hP
      have HK1 : Hid (KidsF (Zk2 B B) w5 a1 (clipS t).a.args) := kz_of K1 (fun i hi => by rcases hi with hi | hi <;> omega)
      have HK2 : Hid (KidsF (Zk2 B B) w5 a2 (clipS t).b.args) := kz_of K2 (fun i hi => by rcases hi with hi | hi <;> omega)
      have HK3 : Hid (BodiesF (Zk2 B B) w5 a3 (clipS t).body) := bz_of K3 (fun i hi => by rcases hi with hi | hi <;> omega)
      have HK4 : Hid (BodiesF (Zk2 B B) w5 a4 (clipS t).els) := bz_of K4 (fun i hi => by rcases hi with hi | hi <;> omega)
      have HOK : Hid (∀ w' v, okS0 w.heap.size w' (clipS t) v → okSt w.heap.size w' t v) := fun _ _ h => h
      clear HB_23 HM_24 HP_25 HQ_22 hb hm hP K1 K2 K3 K4
      generalize clipS t = u at *
      unfold sVal
      obtain ⟨r0, r1, r2, r3, r4, r5, r6, r7, r8, r9, r10, r11, r12⟩ := cells13 HMn.out
      obtain ⟨g0, g1, g2, g3, g4, g5, g6, g7, g8, g9, g10, g11, g12⟩ := free13 HMn.out
      go_wp2_with fail
      obtain ⟨q0, q1, q2, q3, q4, q5, q6, q7, q8, q9, q10, q11, q12⟩ := cells13 (bk_set13 (v0 := .int .i64 u.op) (v1 := .string u.name) (v2 := .int .i64 u.mx) (v3 := .int .i64 u.a.op) (v4 := .int .i64 u.a.n) (v5 := .string u.a.s) (v6 := .slice a1 u.a.args.length c1) (v7 := .int .i64 u.b.op) (v8 := .int .i64 u.b.n) (v9 := .string u.b.s) (v10 := .slice a2 u.b.args.length c2) (v11 := .slice a3 u.body.length c3) (v12 := .slice a4 u.els.length c4) HMn.out)
      unfold wset13 at q0 q1 q2 q3 q4 q5 q6 q7 q8 q9 q10 q11 q12
      refine bodyPost_ret (v := .agg #[.int .i64 u.op, .string u.name, .int .i64 u.mx, .int .i64 u.a.op, .int .i64 u.a.n, .string u.a.s, .slice a1 u.a.args.length c1, .int .i64 u.b.op, .int .i64 u.b.n, .string u.b.s, .slice a2 u.b.args.length c2, .slice a3 u.body.length c3, .slice a4 u.els.length c4]) (by simp [results, Tryz.results138, go_sem, q0, q1, q2, q3, q4, q5, q6, q7, q8, q9, q10, q11, q12]) rfl ?_
      rw [hqf.out]
      exact PRd.mk_ok hj5 (kp_wset13 (b := B) (hB0.symm ▸ HBn.out) (Nat.le_of_eq hB0)) (HPn.out.wset13 (b := B) hgB) (HOK.out _ _ ⟨a1, c1, a2, c2, a3, c3, a4, c4, rfl, (kz_of (Z := Zk2 B B) (kz_wset13 (g := B) (Or.inl (Nat.lt_succ_self B)) HK1.out) (fun i hi => Or.inl (Nat.lt_succ_of_lt (hB0 ▸ hi)))), (kz_of (Z := Zk2 B B) (kz_wset13 (g := B) (Or.inl (Nat.lt_succ_self B)) HK2.out) (fun i hi => Or.inl (Nat.lt_succ_of_lt (hB0 ▸ hi)))), (bz_of (Z := Zk2 B B) (bz_wset13 (g := B) (Or.inl (Nat.lt_succ_self B)) HK3.out) (fun i hi => Or.inl (Nat.lt_succ_of_lt (hB0 ▸ hi)))), (bz_of (Z := Zk2 B B) (bz_wset13 (g := B) (Or.inl (Nat.lt_succ_self B)) HK4.out) (fun i hi => Or.inl (Nat.lt_succ_of_lt (hB0 ▸ hi))))⟩)
  rw [hV4] at HC4
  have HN3 : Hid (isW (dr XS k) kIf = false) := hV4
  refine HC4.out.mono ?_; rintro e w4 ⟨rfl, hb, hP⟩
  have hw4 : w3.heap.size ≤ w4.heap.size := hb.size
  have HB_26 := Lib.hid (HB_19.out.on hB0 hb)
  have HM_27 := Lib.hid (HM_20.out.kp (by omega) hb)
  have HP_28 : Hid (Psr g XS (k) 0 (d + 1) w4) := hP
  clear hb hP HC4 hV4
  clear HB_19 HM_20 HP_21
  go_wp2_with fail
  have HC5 := Lib.hid (ctake g XS k (d + 1) ⟨#[102, 111, 114]⟩ kFor rfl w4 HP_28.out)
  cases hV5 : isW (dr XS k) kFor
  rotate_left
  · skip
    rw [hV5] at HC5
    have HQ_29 : Hid (QF = lpL (d + 1) (dr XS (k + 1))) := by
      show _ = _
      rw [HQ.out, gS_for hV5, dr_tail]
    clear HQ
    have hj5 : k + 1 ≤ XS.length := by
      rcases Nat.lt_or_ge k XS.length with h | h
      · exact h
      · rw [is_none h] at hV5; cases hV5
    refine HC5.out.mono ?_; rintro e w5 ⟨rfl, hb, hP⟩
    have hw5 : w4.heap.size ≤ w5.heap.size := hb.size
    have HB_30 := Lib.hid (HB_26.out.on hB0 hb)
    have HM_31 := Lib.hid (HM_27.out.kp (by omega) hb)
    have HP_32 : Hid (Psr g XS (k + 1) 0 (d + 1) w5) := hP
    clear hb hP HC5 hV5
    clear HB_26 HM_27 HP_28
    go_wp2_with fail
    have HC6 := Lib.hid (qloop_any g XS (k + 1) (d + 1) (Lib.hid (fun k' h1 h2 => HBk.out k' (by omega) h2)) w5 HP_32.out)
    have hsf6 := lpL_sf (d + 1) (dr XS (k + 1))
    generalize lpL (d + 1) (dr XS (k + 1)) = q6 at HC6 HQ_29 hsf6
    refine HC6.out.mono ?_; intro e w6 hm
    cases q6 with
    | no r x =>
      obtain ⟨j, hj, rfl⟩ := sf_no hsf6
      obtain ⟨hb, he⟩ := PRd.no_dr hm hj
      have HBp := Lib.hid (HB_30.out.on hB0 hb)
      unfold fails at he
      subst he
      have HJ := Lib.hid hj
      clear hb hm hj hsf6 HC6
      go_wp2_with fail
      refine ⟨rfl, ?_⟩
      rw [HQ_29.out]
      exact PRd.mk_no HJ.out (hB0.symm ▸ HBp.out)
    | ok t r =>
      obtain ⟨k6, hk6, hj6, rfl⟩ := sf_ok hsf6
      have hqf : Hid (QF = .ok t (dr XS k6)) := HQ_29.out
      obtain ⟨hb, v, rfl, hP, a1, c1, a2, c2, a3, c3, a4, c4, rfl, K1, K2, K3, K4⟩ := PRd.ok_dr hm hj6
      have hw6 : w5.heap.size ≤ w6.heap.size := hb.size
      have hBs : B < w5.heap.size := HM_31.out.lt
      have HBn := Lib.hid (HB_30.out.on hB0 hb)
      have HMn := Lib.hid (HM_31.out.kp (by omega) hb)
      have HPn := Lib.hid hP
      have HK1 : Hid (KidsF (Zk2 B B) w6 a1 (clipS t).a.args) := kz_of K1 (fun i hi => by rcases hi with hi | hi <;> omega)
      have HK2 : Hid (KidsF (Zk2 B B) w6 a2 (clipS t).b.args) := kz_of K2 (fun i hi => by rcases hi with hi | hi <;> omega)
      have HK3 : Hid (BodiesF (Zk2 B B) w6 a3 (clipS t).body) := bz_of K3 (fun i hi => by rcases hi with hi | hi <;> omega)
      have HK4 : Hid (BodiesF (Zk2 B B) w6 a4 (clipS t).els) := bz_of K4 (fun i hi => by rcases hi with hi | hi <;> omega)
      have HOK : Hid (∀ w' v, okS0 w.heap.size w' (clipS t) v → okSt w.heap.size w' t v) := fun _ _ h => h
      clear HB_30 HM_31 HP_32 HQ_29 hb hm hP K1 K2 K3 K4
      generalize clipS t = u at *
      unfold sVal
      obtain ⟨r0, r1, r2, r3, r4, r5, r6, r7, r8, r9, r10, r11, r12⟩ := cells13 HMn.out
      obtain ⟨g0, g1, g2, g3, g4, g5, g6, g7, g8, g9, g10, g11, g12⟩ := free13 HMn.out
      go_wp2_with fail
      obtain ⟨q0, q1, q2, q3, q4, q5, q6, q7, q8, q9, q10, q11, q12⟩ := cells13 (bk_set13 (v0 := .int .i64 u.op) (v1 := .string u.name) (v2 := .int .i64 u.mx) (v3 := .int .i64 u.a.op) (v4 := .int .i64 u.a.n) (v5 := .string u.a.s) (v6 := .slice a1 u.a.args.length c1) (v7 := .int .i64 u.b.op) (v8 := .int .i64 u.b.n) (v9 := .string u.b.s) (v10 := .slice a2 u.b.args.length c2) (v11 := .slice a3 u.body.length c3) (v12 := .slice a4 u.els.length c4) HMn.out)
      unfold wset13 at q0 q1 q2 q3 q4 q5 q6 q7 q8 q9 q10 q11 q12
      refine bodyPost_ret (v := .agg #[.int .i64 u.op, .string u.name, .int .i64 u.mx, .int .i64 u.a.op, .int .i64 u.a.n, .string u.a.s, .slice a1 u.a.args.length c1, .int .i64 u.b.op, .int .i64 u.b.n, .string u.b.s, .slice a2 u.b.args.length c2, .slice a3 u.body.length c3, .slice a4 u.els.length c4]) (by simp [results, Tryz.results138, go_sem, q0, q1, q2, q3, q4, q5, q6, q7, q8, q9, q10, q11, q12]) rfl ?_
      rw [hqf.out]
      exact PRd.mk_ok hj6 (kp_wset13 (b := B) (hB0.symm ▸ HBn.out) (Nat.le_of_eq hB0)) (HPn.out.wset13 (b := B) hgB) (HOK.out _ _ ⟨a1, c1, a2, c2, a3, c3, a4, c4, rfl, (kz_of (Z := Zk2 B B) (kz_wset13 (g := B) (Or.inl (Nat.lt_succ_self B)) HK1.out) (fun i hi => Or.inl (Nat.lt_succ_of_lt (hB0 ▸ hi)))), (kz_of (Z := Zk2 B B) (kz_wset13 (g := B) (Or.inl (Nat.lt_succ_self B)) HK2.out) (fun i hi => Or.inl (Nat.lt_succ_of_lt (hB0 ▸ hi)))), (bz_of (Z := Zk2 B B) (bz_wset13 (g := B) (Or.inl (Nat.lt_succ_self B)) HK3.out) (fun i hi => Or.inl (Nat.lt_succ_of_lt (hB0 ▸ hi)))), (bz_of (Z := Zk2 B B) (bz_wset13 (g := B) (Or.inl (Nat.lt_succ_self B)) HK4.out) (fun i hi => Or.inl (Nat.lt_succ_of_lt (hB0 ▸ hi))))⟩)
  rw [hV5] at HC5
  have HN4 : Hid (isW (dr XS k) kFor = false) := hV5
  refine HC5.out.mono ?_; rintro e w5 ⟨rfl, hb, hP⟩
  have hw5 : w4.heap.size ≤ w5.heap.size := hb.size
  have HB_33 := Lib.hid (HB_26.out.on hB0 hb)
  have HM_34 := Lib.hid (HM_27.out.kp (by omega) hb)
  have HP_35 : Hid (Psr g XS (k) 0 (d + 1) w5) := hP
  clear hb hP HC5 hV5
  clear HB_26 HM_27 HP_28
  go_wp2_with fail
  have HC6 := Lib.hid (ctake g XS k (d + 1) ⟨#[101, 109, 105, 116]⟩ kEmit rfl w5 HP_35.out)
  cases hV6 : isW (dr XS k) kEmit
  rotate_left
  · skip
    rw [hV6] at HC6
    have HQ_36 : Hid (QF = (eL [59] (dr XS (k + 1))).to fun a r => .ok (.mk 7 none8 0 a noE [] []) r) := by
      show _ = _
      rw [HQ.out, gS_one (o := 7) ((stOp_of hV6).trans (by decide)) (Or.inr rfl), dr_tail]
    clear HQ
    have hj6 : k + 1 ≤ XS.length := by
      rcases Nat.lt_or_ge k XS.length with h | h
      · exact h
      · rw [is_none h] at hV6; cases hV6
    refine HC6.out.mono ?_; rintro e w6 ⟨rfl, hb, hP⟩
    have hw6 : w5.heap.size ≤ w6.heap.size := hb.size
    have HB_37 := Lib.hid (HB_33.out.on hB0 hb)
    have HM_38 := Lib.hid (HM_34.out.kp (by omega) hb)
    have HP_39 : Hid (Psr g XS (k + 1) 0 (d + 1) w6) := hP
    clear hb hP HC6 hV6
    clear HB_33 HM_34 HP_35
    go_wp2_with fail
    have HC7 := Lib.hid (cexprBefore g XS (k + 1) (d + 1) ⟨#[59]⟩ [59] rfl w6 HP_39.out)
    have hsf7 := eL_sf [59] (dr XS (k + 1))
    generalize eL [59] (dr XS (k + 1)) = q7 at HC7 HQ_36 hsf7
    refine HC7.out.mono ?_; intro e w7 hm
    cases q7 with
    | no r x =>
      obtain ⟨j, hj, rfl⟩ := sf_no hsf7
      obtain ⟨hb, he⟩ := PRd.no_dr hm hj
      have HBp := Lib.hid (HB_37.out.on hB0 hb)
      unfold fails at he
      subst he
      have HJ := Lib.hid hj
      clear hb hm hj hsf7 HC7
      go_wp2_with fail
      refine ⟨rfl, ?_⟩
      rw [HQ_36.out]
      exact PRd.mk_no HJ.out (hB0.symm ▸ HBp.out)
    | ok t r =>
      obtain ⟨k7, hk7, hj7, rfl⟩ := sf_ok hsf7
      have hqf : Hid (QF = .ok (.mk 7 none8 0 t noE [] []) (dr XS k7)) := HQ_36.out
      obtain ⟨hb, v, rfl, hP, a1, c1, rfl, K1⟩ := PRd.ok_dr hm hj7
      have hw7 : w6.heap.size ≤ w7.heap.size := hb.size
      have hBs : B < w6.heap.size := HM_38.out.lt
      have HBn := Lib.hid (HB_37.out.on hB0 hb)
      have HMn := Lib.hid (HM_38.out.kp (by omega) hb)
      have HPn := Lib.hid hP
      have HK1 : Hid (KidsF (Zk2 B B) w7 a1 t.args) := kz_of K1 (fun i hi => by rcases hi with hi | hi <;> omega)
      clear HB_37 HM_38 HP_39 HQ_36 hb hm hP K1
      unfold exV
      obtain ⟨r0, r1, r2, r3, r4, r5, r6, r7, r8, r9, r10, r11, r12⟩ := cells13 HMn.out
      obtain ⟨g0, g1, g2, g3, g4, g5, g6, g7, g8, g9, g10, g11, g12⟩ := free13 HMn.out
      go_wp2_with fail
      obtain ⟨q0, q1, q2, q3, q4, q5, q6, q7, q8, q9, q10, q11, q12⟩ := cells13 (bk_set13 (v0 := .int .i64 7) (v1 := .string ⟨#[]⟩) (v2 := .int .i64 0) (v3 := .int .i64 t.op) (v4 := .int .i64 t.n) (v5 := .string t.s) (v6 := .slice a1 t.args.length c1) (v7 := .int .i64 0) (v8 := .int .i64 0) (v9 := .string ⟨#[]⟩) (v10 := .slice none 0 0) (v11 := .slice none 0 0) (v12 := .slice none 0 0) HMn.out)
      unfold wset13 at q0 q1 q2 q3 q4 q5 q6 q7 q8 q9 q10 q11 q12
      refine bodyPost_ret (v := .agg #[.int .i64 7, .string ⟨#[]⟩, .int .i64 0, .int .i64 t.op, .int .i64 t.n, .string t.s, .slice a1 t.args.length c1, .int .i64 0, .int .i64 0, .string ⟨#[]⟩, .slice none 0 0, .slice none 0 0, .slice none 0 0]) (by simp [results, Tryz.results138, go_sem, q0, q1, q2, q3, q4, q5, q6, q7, q8, q9, q10, q11, q12]) rfl ?_
      rw [hqf.out]
      exact PRd.mk_ok hj7 (kp_wset13 (b := B) (hB0.symm ▸ HBn.out) (Nat.le_of_eq hB0)) (HPn.out.wset13 (b := B) hgB) (okSt_0 ⟨a1, c1, none, 0, none, 0, none, 0, rfl, (kz_of (Z := Zk2 B B) (kz_wset13 (g := B) (Or.inl (Nat.lt_succ_self B)) HK1.out) (fun i hi => Or.inl (Nat.lt_succ_of_lt (hB0 ▸ hi)))), kids_nil _ _ _, bodies_nil _ _ _, bodies_nil _ _ _⟩)
  rw [hV6] at HC6
  have HN5 : Hid (isW (dr XS k) kEmit = false) := hV6
  refine HC6.out.mono ?_; rintro e w6 ⟨rfl, hb, hP⟩
  have hw6 : w5.heap.size ≤ w6.heap.size := hb.size
  have HB_40 := Lib.hid (HB_33.out.on hB0 hb)
  have HM_41 := Lib.hid (HM_34.out.kp (by omega) hb)
  have HP_42 : Hid (Psr g XS (k) 0 (d + 1) w6) := hP
  clear hb hP HC6 hV6
  clear HB_33 HM_34 HP_35
  go_wp2_with fail
  have HC7 := Lib.hid (ctake g XS k (d + 1) ⟨#[97, 98, 111, 114, 116]⟩ kAbort rfl w6 HP_42.out)
  cases hV7 : isW (dr XS k) kAbort
  rotate_left
  · skip
    rw [hV7] at HC7
    have HQ_43 : Hid (QF = abL (dr XS (k + 1))) := by
      show _ = _
      rw [HQ.out, gS_abort hV7, dr_tail]
    clear HQ
    have hj7 : k + 1 ≤ XS.length := by
      rcases Nat.lt_or_ge k XS.length with h | h
      · exact h
      · rw [is_none h] at hV7; cases hV7
    refine HC7.out.mono ?_; rintro e w7 ⟨rfl, hb, hP⟩
    have hw7 : w6.heap.size ≤ w7.heap.size := hb.size
    have HB_44 := Lib.hid (HB_40.out.on hB0 hb)
    have HM_45 := Lib.hid (HM_41.out.kp (by omega) hb)
    have HP_46 : Hid (Psr g XS (k + 1) 0 (d + 1) w7) := hP
    clear hb hP HC7 hV7
    clear HB_40 HM_41 HP_42
    go_wp2_with fail
    have HC8 := Lib.hid (qabort_any g XS (k + 1) (d + 1) w7 HP_46.out)
    have hsf8 := abL_sf (dr XS (k + 1))
    generalize abL (dr XS (k + 1)) = q8 at HC8 HQ_43 hsf8
    refine HC8.out.mono ?_; intro e w8 hm
    cases q8 with
    | no r x =>
      obtain ⟨j, hj, rfl⟩ := sf_no hsf8
      obtain ⟨hb, he⟩ := PRd.no_dr hm hj
      have HBp := Lib.hid (HB_44.out.on hB0 hb)
      unfold fails at he
      subst he
      have HJ := Lib.hid hj
      clear hb hm hj hsf8 HC8
      go_wp2_with fail
      refine ⟨rfl, ?_⟩
      rw [HQ_43.out]
      exact PRd.mk_no HJ.out (hB0.symm ▸ HBp.out)
    | ok t r =>
      obtain ⟨k8, hk8, hj8, rfl⟩ := sf_ok hsf8
      have hqf : Hid (QF = .ok t (dr XS k8)) := HQ_43.out
      obtain ⟨hb, v, rfl, hP, a1, c1, a2, c2, a3, c3, a4, c4, rfl, K1, K2, K3, K4⟩ := PRd.ok_dr hm hj8
      have hw8 : w7.heap.size ≤ w8.heap.size := hb.size
      have hBs : B < w7.heap.size := HM_45.out.lt
      have HBn := Lib.hid (HB_44.out.on hB0 hb)
      have HMn := Lib.hid (HM_45.out.kp (by omega) hb)
      have HPn := Lib.hid hP
      have HK1 : Hid (KidsF (Zk2 B B) w8 a1 (clipS t).a.args) := kz_of K1 (fun i hi => by rcases hi with hi | hi <;> omega)
      have HK2 : Hid (KidsF (Zk2 B B) w8 a2 (clipS t).b.args) := kz_of K2 (fun i hi => by rcases hi with hi | hi <;> omega)
      have HK3 : Hid (BodiesF (Zk2 B B) w8 a3 (clipS t).body) := bz_of K3 (fun i hi => by rcases hi with hi | hi <;> omega)
      have HK4 : Hid (BodiesF (Zk2 B B) w8 a4 (clipS t).els) := bz_of K4 (fun i hi => by rcases hi with hi | hi <;> omega)
      have HOK : Hid (∀ w' v, okS0 w.heap.size w' (clipS t) v → okSt w.heap.size w' t v) := fun _ _ h => h
      clear HB_44 HM_45 HP_46 HQ_43 hb hm hP K1 K2 K3 K4
      generalize clipS t = u at *
      unfold sVal
      obtain ⟨r0, r1, r2, r3, r4, r5, r6, r7, r8, r9, r10, r11, r12⟩ := cells13 HMn.out
      obtain ⟨g0, g1, g2, g3, g4, g5, g6, g7, g8, g9, g10, g11, g12⟩ := free13 HMn.out
      go_wp2_with fail
      obtain ⟨q0, q1, q2, q3, q4, q5, q6, q7, q8, q9, q10, q11, q12⟩ := cells13 (bk_set13 (v0 := .int .i64 u.op) (v1 := .string u.name) (v2 := .int .i64 u.mx) (v3 := .int .i64 u.a.op) (v4 := .int .i64 u.a.n) (v5 := .string u.a.s) (v6 := .slice a1 u.a.args.length c1) (v7 := .int .i64 u.b.op) (v8 := .int .i64 u.b.n) (v9 := .string u.b.s) (v10 := .slice a2 u.b.args.length c2) (v11 := .slice a3 u.body.length c3) (v12 := .slice a4 u.els.length c4) HMn.out)
      unfold wset13 at q0 q1 q2 q3 q4 q5 q6 q7 q8 q9 q10 q11 q12
      refine bodyPost_ret (v := .agg #[.int .i64 u.op, .string u.name, .int .i64 u.mx, .int .i64 u.a.op, .int .i64 u.a.n, .string u.a.s, .slice a1 u.a.args.length c1, .int .i64 u.b.op, .int .i64 u.b.n, .string u.b.s, .slice a2 u.b.args.length c2, .slice a3 u.body.length c3, .slice a4 u.els.length c4]) (by simp [results, Tryz.results138, go_sem, q0, q1, q2, q3, q4, q5, q6, q7, q8, q9, q10, q11, q12]) rfl ?_
      rw [hqf.out]
      exact PRd.mk_ok hj8 (kp_wset13 (b := B) (hB0.symm ▸ HBn.out) (Nat.le_of_eq hB0)) (HPn.out.wset13 (b := B) hgB) (HOK.out _ _ ⟨a1, c1, a2, c2, a3, c3, a4, c4, rfl, (kz_of (Z := Zk2 B B) (kz_wset13 (g := B) (Or.inl (Nat.lt_succ_self B)) HK1.out) (fun i hi => Or.inl (Nat.lt_succ_of_lt (hB0 ▸ hi)))), (kz_of (Z := Zk2 B B) (kz_wset13 (g := B) (Or.inl (Nat.lt_succ_self B)) HK2.out) (fun i hi => Or.inl (Nat.lt_succ_of_lt (hB0 ▸ hi)))), (bz_of (Z := Zk2 B B) (bz_wset13 (g := B) (Or.inl (Nat.lt_succ_self B)) HK3.out) (fun i hi => Or.inl (Nat.lt_succ_of_lt (hB0 ▸ hi)))), (bz_of (Z := Zk2 B B) (bz_wset13 (g := B) (Or.inl (Nat.lt_succ_self B)) HK4.out) (fun i hi => Or.inl (Nat.lt_succ_of_lt (hB0 ▸ hi))))⟩)
  rw [hV7] at HC7
  have HN6 : Hid (isW (dr XS k) kAbort = false) := hV7
  refine HC7.out.mono ?_; rintro e w7 ⟨rfl, hb, hP⟩
  have hw7 : w6.heap.size ≤ w7.heap.size := hb.size
  have HB_47 := Lib.hid (HB_40.out.on hB0 hb)
  have HM_48 := Lib.hid (HM_41.out.kp (by omega) hb)
  have HP_49 : Hid (Psr g XS (k) 0 (d + 1) w7) := hP
  clear hb hP HC7 hV7
  clear HB_40 HM_41 HP_42
  have hno : stOp (dr XS k) = 0 := stOp_none (fun p hp => by
    simp only [stW, List.mem_cons, List.not_mem_nil, or_false] at hp
    rcases hp with rfl | rfl | rfl | rfl | rfl | rfl | rfl
    · exact HN0.out
    · exact HN1.out
    · exact HN2.out
    · exact HN3.out
    · exact HN4.out
    · exact HN5.out
    · exact HN6.out)
  have HQ_50 : Hid (QF = asL 2 (dr XS k)) := by
    show _ = _
    rw [HQ.out, gS_set hno]
  clear HQ hno
  go_wp2_with fail
  have HC8 := Lib.hid (oassignment_any g XS k (d + 1) 2 w7 HP_49.out)
  have hsf8 := asL_sf 2 (dr XS k)
  generalize asL 2 (dr XS k) = q8 at HC8 HQ_50 hsf8
  refine HC8.out.mono ?_; intro e w8 hm
  cases q8 with
  | no r x =>
    obtain ⟨j, hj, rfl⟩ := sf_no hsf8
    obtain ⟨hb, he⟩ := PRd.no_dr hm hj
    have HBp := Lib.hid (HB_47.out.on hB0 hb)
    unfold fails at he
    subst he
    have HJ := Lib.hid hj
    clear hb hm hj hsf8 HC8
    go_wp2_with fail
    refine ⟨rfl, ?_⟩
    rw [HQ_50.out]
    exact PRd.mk_no HJ.out (hB0.symm ▸ HBp.out)
  | ok t r =>
    obtain ⟨k8, hk8, hj8, rfl⟩ := sf_ok hsf8
    have hqf : Hid (QF = .ok t (dr XS k8)) := HQ_50.out
    obtain ⟨hb, v, rfl, hP, a1, c1, a2, c2, a3, c3, a4, c4, rfl, K1, K2, K3, K4⟩ := PRd.ok_dr hm hj8
    have hw8 : w7.heap.size ≤ w8.heap.size := hb.size
    have hBs : B < w7.heap.size := HM_48.out.lt
    have HBn := Lib.hid (HB_47.out.on hB0 hb)
    have HMn := Lib.hid (HM_48.out.kp (by omega) hb)
    have HPn := Lib.hid hP
    have HK1 : Hid (KidsF (Zk2 B B) w8 a1 (clipS t).a.args) := kz_of K1 (fun i hi => by rcases hi with hi | hi <;> omega)
    have HK2 : Hid (KidsF (Zk2 B B) w8 a2 (clipS t).b.args) := kz_of K2 (fun i hi => by rcases hi with hi | hi <;> omega)
    have HK3 : Hid (BodiesF (Zk2 B B) w8 a3 (clipS t).body) := bz_of K3 (fun i hi => by rcases hi with hi | hi <;> omega)
    have HK4 : Hid (BodiesF (Zk2 B B) w8 a4 (clipS t).els) := bz_of K4 (fun i hi => by rcases hi with hi | hi <;> omega)
    have HOK : Hid (∀ w' v, okS0 w.heap.size w' (clipS t) v → okSt w.heap.size w' t v) := fun _ _ h => h
    clear HB_47 HM_48 HP_49 HQ_50 hb hm hP K1 K2 K3 K4
    generalize clipS t = u at *
    unfold sVal
    obtain ⟨r0, r1, r2, r3, r4, r5, r6, r7, r8, r9, r10, r11, r12⟩ := cells13 HMn.out
    obtain ⟨g0, g1, g2, g3, g4, g5, g6, g7, g8, g9, g10, g11, g12⟩ := free13 HMn.out
    go_wp2_with fail
    obtain ⟨q0, q1, q2, q3, q4, q5, q6, q7, q8, q9, q10, q11, q12⟩ := cells13 (bk_set13 (v0 := .int .i64 u.op) (v1 := .string u.name) (v2 := .int .i64 u.mx) (v3 := .int .i64 u.a.op) (v4 := .int .i64 u.a.n) (v5 := .string u.a.s) (v6 := .slice a1 u.a.args.length c1) (v7 := .int .i64 u.b.op) (v8 := .int .i64 u.b.n) (v9 := .string u.b.s) (v10 := .slice a2 u.b.args.length c2) (v11 := .slice a3 u.body.length c3) (v12 := .slice a4 u.els.length c4) HMn.out)
    unfold wset13 at q0 q1 q2 q3 q4 q5 q6 q7 q8 q9 q10 q11 q12
    refine bodyPost_ret (v := .agg #[.int .i64 u.op, .string u.name, .int .i64 u.mx, .int .i64 u.a.op, .int .i64 u.a.n, .string u.a.s, .slice a1 u.a.args.length c1, .int .i64 u.b.op, .int .i64 u.b.n, .string u.b.s, .slice a2 u.b.args.length c2, .slice a3 u.body.length c3, .slice a4 u.els.length c4]) (by simp [results, Tryz.results138, go_sem, q0, q1, q2, q3, q4, q5, q6, q7, q8, q9, q10, q11, q12]) rfl ?_
    rw [hqf.out]
    exact PRd.mk_ok hj8 (kp_wset13 (b := B) (hB0.symm ▸ HBn.out) (Nat.le_of_eq hB0)) (HPn.out.wset13 (b := B) hgB) (HOK.out _ _ ⟨a1, c1, a2, c2, a3, c3, a4, c4, rfl, (kz_of (Z := Zk2 B B) (kz_wset13 (g := B) (Or.inl (Nat.lt_succ_self B)) HK1.out) (fun i hi => Or.inl (Nat.lt_succ_of_lt (hB0 ▸ hi)))), (kz_of (Z := Zk2 B B) (kz_wset13 (g := B) (Or.inl (Nat.lt_succ_self B)) HK2.out) (fun i hi => Or.inl (Nat.lt_succ_of_lt (hB0 ▸ hi)))), (bz_of (Z := Zk2 B B) (bz_wset13 (g := B) (Or.inl (Nat.lt_succ_self B)) HK3.out) (fun i hi => Or.inl (Nat.lt_succ_of_lt (hB0 ▸ hi)))), (bz_of (Z := Zk2 B B) (bz_wset13 (g := B) (Or.inl (Nat.lt_succ_self B)) HK4.out) (fun i hi => Or.inl (Nat.lt_succ_of_lt (hB0 ▸ hi))))⟩)
end Go.Proofs.YteglaeopaocilaaGreatDoor.P
namespace Go.Proofs.YteglaeopaocilaaGreatDoor.A
open Go.RowKit
open L (Str isName prt size_len below_2 below_box ret_bool ret_int)

/-! ### statements in rows -/

structure SX where
  s : St
  a1 : Option Addr
  c1 : Nat
  a2 : Option Addr
  c2 : Nat
  a3 : Option Addr
  c3 : Nat
  a4 : Option Addr
  c4 : Nat
theorem info_s : (Tryz.prog.info? 76).map (fun i => (i.zero, i.size, i.bytes)) = some (some (.agg #[.int .i64 0, .string ⟨#[]⟩, .int .i64 0, .int .i64 0, .int .i64 0, .string ⟨#[]⟩, .slice none 0 0, .int .i64 0, .int .i64 0, .string ⟨#[]⟩, .slice none 0 0, .slice none 0 0, .slice none 0 0]), 13, 192) := by kernel_rfl
def kS : RowK SX where
  f := fun x => [.int .i64 x.s.op, .string x.s.name, .int .i64 x.s.mx, .int .i64 x.s.a.op, .int .i64 x.s.a.n, .string x.s.a.s, .slice x.a1 x.s.a.args.length x.c1, .int .i64 x.s.b.op, .int .i64 x.s.b.n, .string x.s.b.s, .slice x.a2 x.s.b.args.length x.c2, .slice x.a3 x.s.body.length x.c3, .slice x.a4 x.s.els.length x.c4]
  size := 13
  bytes := 192
  t := 23
  e := 76
  z := .agg #[.int .i64 0, .string ⟨#[]⟩, .int .i64 0, .int .i64 0, .int .i64 0, .string ⟨#[]⟩, .slice none 0 0, .int .i64 0, .int .i64 0, .string ⟨#[]⟩, .slice none 0 0, .slice none 0 0, .slice none 0 0]
  inn := fun Z w x => KidsF Z w x.a1 x.s.a.args ∧ KidsF Z w x.a2 x.s.b.args ∧ BodiesF Z w x.a3 x.s.body ∧ BodiesF Z w x.a4 x.s.els
  und := Tryz.underlying23
  info := info_s
  len := fun _ => rfl
  one := fun x u hu => by simp at hu; rcases hu with rfl | rfl | rfl | rfl | rfl | rfl | rfl | rfl | rfl | rfl | rfl | rfl | rfl <;> rfl
  pos := by decide
  zs := rfl
  small := by decide
  next := fun h hs => ⟨KidsF.next h.1 hs, KidsF.next h.2.1 hs, BodiesF.next h.2.2.1 hs, BodiesF.next h.2.2.2 hs⟩
theorem sts_of {W : World} {b : Nat} : ∀ (l : List SX) (i : Nat), (∀ j (h : j < l.length) r, r < 13 → W.cell? ⟨b, i + j * 13 + r, none⟩ = (kS.f l[j])[r]?) → (∀ x ∈ l, Kids W x.a1 x.s.a.args ∧ Kids W x.a2 x.s.b.args ∧ Bodies W x.a3 x.s.body ∧ Bodies W x.a4 x.s.els) → StsAt W (l.map SX.s) b i
  | [], _, _, _ => by rw [List.map_nil, StsAt]; trivial
  | x :: l, i, hc, hk => by
    rw [List.map_cons, StsAt]
    refine ⟨?_, sts_of l (i + 13) (fun j hj r hr => ?_) fun y hy => hk y (List.mem_cons_of_mem _ hy)⟩
    · have hh : ∀ r, r < 13 → W.cell? ⟨b, i + r, none⟩ = (kS.f x)[r]? := fun r hr => by
        have := hc 0 (by simp) r hr
        simpa using this
      have h0 := hh 0 (by decide)
      have h1 := hh 1 (by decide)
      have h2 := hh 2 (by decide)
      have h3 := hh 3 (by decide)
      have h4 := hh 4 (by decide)
      have h5 := hh 5 (by decide)
      have h6 := hh 6 (by decide)
      have h7 := hh 7 (by decide)
      have h8 := hh 8 (by decide)
      have h9 := hh 9 (by decide)
      have h10 := hh 10 (by decide)
      have h11 := hh 11 (by decide)
      have h12 := hh 12 (by decide)
      obtain ⟨g1, g2, g3, g4⟩ := hk x List.mem_cons_self
      obtain ⟨⟨o, nm, mx, ⟨oa, na, sa, la⟩, ⟨ob, nb, sb, lb⟩, bd, el⟩, a1, c1, a2, c2, a3, c3, a4, c4⟩ := x
      rw [StAt]
      refine ⟨h0, h1, h2, ?_, ?_, ⟨a3, c3, h11, g3⟩, ⟨a4, c4, h12, g4⟩⟩
      · rw [ExAt]; exact ⟨h3, h4, h5, a1, c1, h6, g1⟩
      · rw [ExAt]; exact ⟨h7, h8, h9, a2, c2, h10, g2⟩
    · have := hc (j + 1) (by simpa using hj) r hr
      rw [show i + 13 + j * 13 + r = i + (j + 1) * 13 + r by omega]
      simpa using this
theorem Own1.bodies {w : World} {b0 : Nat} {Z : Nat → Prop} {p : Option Addr} {q : Nat} {l : List SX} (h : Own1 kS w b0 Z (.slice p l.length q) l) : BodiesF Z w p (l.map SX.s) := by
  by_cases h0 : l = []
  · left; rw [h0]; rfl
  · have hpos : 0 < l.length := List.length_pos_iff.2 h0
    obtain ⟨g, rfl, hz, _⟩ := h.cell hpos
    refine Or.inr ⟨g, 0, rfl, sts_of l 0 (fun j hj r hr => ?_) fun x hx => ?_⟩
    · obtain ⟨g2, hg, hz2, hc⟩ := h.cell hj
      cases hg
      have hr2 : r < (kS.f l[j]).length := by rw [kS.len]; exact hr
      have hcr := hc r hr
      rw [List.getElem?_eq_getElem hr2] at hcr ⊢
      rw [Nat.zero_add]
      exact (hollow_cell Z w _ _ _).2 ⟨hz, hcr⟩
    · exact kS.next (Z' := Z) (h.each x hx) ⟨fun _ _ _ => rfl, fun k hk => Or.inl (Or.inl hk)⟩
end Go.Proofs.YteglaeopaocilaaGreatDoor.A
namespace Go.Proofs.YteglaeopaocilaaGreatDoor.P
open Go.RowKit
open L (Str Tok Tks toks At below_2 below_box ret_bool ret_int ret_string)
open A

theorem own_kp {α : Type} {K : RowK α} {w w' : World} {b0 g : Nat} {Z : Nat → Prop} {v : Value} {l : List α} (h : Own1 K w b0 Z v l) (hg : Z g) (hb : Kp w.heap.size g w w') : Own1 K w' b0 Z v l :=
  h.next ⟨fun k hk hz => hb.block k hk (fun e => hz (by rw [e]; exact hg)), fun _ hk => Or.inl hk⟩
theorem kp_grown {B g : Nat} {W w w1 : World} {row : Option Nat} (h : Kp B g W w) (hg : w.grownBy w1 row) (hB : B ≤ w.heap.size) (hr : ∀ k, row = some k → B ≤ k) : Kp B g W w1 :=
  h.trans ⟨hg.os, hg.tape, hg.output, hg.size, fun k hk _ => hg.block k (by omega) (fun e => by have := hr k e.symm; omega)⟩
theorem psr_grown {g : Nat} {XS : List L.T} {k ne bl : Nat} {w w1 : World} {row : Option Nat} (h : Psr g XS k ne bl w) (hg : w.grownBy w1 row) (hr : ∀ k, row = some k → g < k) : Psr g XS k ne bl w1 := by
  have hlt := h.lt
  obtain ⟨hk, h1, h2, a, c, h, hc, ht⟩ := h
  have hs : ∀ j, j ≤ g → w1.heap[j]? = w.heap[j]? := fun j hj => hg.block j (by omega) (fun e => by have := hr j e.symm; omega)
  have hcell : ∀ j o, j ≤ g → w1.cell? ⟨j, o, none⟩ = w.cell? ⟨j, o, none⟩ := fun j o hj => World.cell?_of_block (w := w) (hs j hj)
  refine ⟨hk, fun n hn => (hcell _ _ (Nat.le_of_lt h2)).trans (h1 n hn), h2, a, c, (hs g (Nat.le_refl _)).trans h, hc, ?_⟩
  rcases ht with ht | ⟨b2, o, ha, hg', hat⟩
  · exact Or.inl ht
  · refine Or.inr ⟨b2, o, ha, hg', fun j hj => ?_⟩
    have hx := hat j hj
    have hg2 := Nat.le_of_lt hg'
    exact ⟨(hcell _ _ hg2).trans hx.key, (hcell _ _ hg2).trans hx.kind, (hcell _ _ hg2).trans hx.num, (hcell _ _ hg2).trans hx.str⟩
theorem clipB_one (s : St) : clipB [s] = [clipS s] := by rw [clipB, clipB]
set_option maxHeartbeats 16000000 in
set_option maxRecDepth 100000 in
theorem qblock_any (g : Nat) (XS : List L.T) (hX : XS.length ≤ 1000000) (k bl : Nat) (hbl : bl ≤ 13) (HBk : Hid (bl ≤ 12 → ∀ k', k < k' → k' ≤ XS.length → CBk g XS k' (bl + 1))) (w : World) (h : Psr g XS k 0 bl w) :
    Calls Tryz.prog 85 #[ptr g] w fun e w' => PRd g XS 0 bl w w' (gB bl (dr XS k)) (okBl w.heap.size w') e := by
  have hlt0 := h.lt
  have hk := h.le
  have HC := Lib.hid (cexpect g XS k bl ⟨#[123]⟩ [123] rfl w h)
  unfold wL at HC
  have hstep := gB_step bl (dr XS k)
  generalize hQ : gB bl (dr XS k) = QF at hstep ⊢
  clear hQ h
  cases hV : isW (dr XS k) [123]
  · rw [hV, if_neg (by decide)] at HC hstep
    have HQ := Lib.hid hstep
    clear hV hstep
    go_enter Tryz.func85, Tryz.ntmps85
    go_wp2_with fail
    generalize hB0 : w.heap.size = B at *
    refine HC.out.mono ?_; intro e w1 hm
    obtain ⟨hb, he⟩ := PRd.no_dr hm hk
    have HBp := Lib.hid hb
    unfold fails at he
    subst he
    clear hb hm
    go_wp2_with fail
    refine ⟨rfl, ?_⟩
    rw [HQ.out]
    exact PRd.mk_no hk HBp.out
  · rw [hV, if_pos rfl] at HC
    rw [hV, if_pos rfl] at hstep
    rw [dr_tail] at HC hstep
    have hlt : k < XS.length := by
      rcases Nat.lt_or_ge k XS.length with h | h
      · exact h
      · rw [is_none h] at hV; cases hV
    clear hV
    by_cases h12 : 12 < bl
    · rw [if_pos h12] at hstep
      have HQ := Lib.hid hstep
      have HJ := Lib.hid hk
      have hd : decide ((bl : Int) > 12) = true := decide_eq_true (by omega)
      have hd2 : (12 : Int) < (bl : Int) := by omega
      have HU := Lib.hid (fun w' h' => otooDeep_any g XS (k + 1) 0 bl w' h')
      unfold failV at HU
      rw [lnAt_next hlt, ← line_here hlt] at HU
      obtain ⟨l, hl⟩ : ∃ l, lineAt XS k = l := ⟨_, rfl⟩
      rw [hl] at HU
      have HE := Lib.hid (fails_of (x := 2) hl)
      have HLT := Lib.hid hlt
      clear hstep h12 hl hk hlt HBk
      go_enter Tryz.func85, Tryz.ntmps85
      go_wp2_with fail
      refine HC.out.mono ?_; intro e w1 hm
      obtain ⟨hb, v, rfl, hP, rfl⟩ := PRd.ok_dr hm HLT.out
      obtain ⟨p2, p3, pf2, pf3⟩ := hP.cells
      have HP := Lib.hid hP
      have HB := Lib.hid hb
      clear hb hm hP
      go_wp2_with fail
      refine (HU.out _ HP.out).mono ?_; rintro e w2 ⟨rfl, hb⟩
      have HBp := Lib.hid (HB.out.on rfl (Kp.of hb))
      clear hb
      go_wp2_with fail
      refine ⟨rfl, ?_⟩
      rw [HQ.out, HE.out]
      exact PRd.mk_no HJ.out HBp.out
    · rw [if_neg h12] at hstep
      have HQ0 := Lib.hid hstep.symm
      have hd : ¬ (12 : Int) < (bl : Int) := by omega
      have HBx := Lib.hid (HBk.out (by omega))
      have HLT := Lib.hid hlt
      clear hstep HBk hlt
      go_enter Tryz.func85, Tryz.ntmps85
      go_wp2_with fail
      refine HC.out.mono ?_; intro e w1 hm
      obtain ⟨hb, v, rfl, hP, rfl⟩ := PRd.ok_dr hm HLT.out
      obtain ⟨p2, p3, pf2, pf3⟩ := hP.cells
      have HP1 : Hid (Psr g XS (k + 1) 0 (bl + 1) (w1.setCell ⟨g, 3, none⟩ (.int .i64 ((bl : Int) + 1)))) := hP.setBl (bl + 1)
      have HB1 : Hid (Kp w.heap.size g w (w1.setCell ⟨g, 3, none⟩ (.int .i64 ((bl : Int) + 1)))) := hb.trans Kp.set
      have hsz : w.heap.size ≤ (w1.setCell ⟨g, 3, none⟩ (.int .i64 ((bl : Int) + 1))).heap.size := HB1.out.size
      clear hb hm hP
      go_wp2_with fail
      generalize (w1.setCell ⟨g, 3, none⟩ (.int .i64 ((bl : Int) + 1))) = W1 at *
      generalize hB0 : w.heap.size = B at *
      clear p2 p3 pf2 pf3
      go_loopw [3] (fun v wr => ∃ (j : Nat) (acc : List St) (lt : List SX) (p : Option Addr) (q : Nat), v = .slice p lt.length q ∧ Hid (k < j ∧ j ≤ XS.length ∧ acc.length + k + 1 ≤ j) ∧ Hid (lt.map SX.s = clipB acc) ∧ Hid (Own1 kS wr B (fun i => i < B) (.slice p lt.length q) lt) ∧ Hid (Psr g XS j 0 (bl + 1) wr) ∧ Hid (Kp B g w wr) ∧ B ≤ wr.heap.size ∧ Hid (gK bl acc (dr XS j) = QF)) (fun _ wr => lenAt g wr)
      case atStart => exact ⟨k + 1, [], [], none, 0, rfl, ⟨by omega, HLT.out, by simp⟩, by show _ = _; rw [clipB]; rfl, Own1.nil, HP1, HB1, hsz, HQ0.out⟩
      case round =>
        clear HP1 HB1 HQ0 hsz
        obtain ⟨j, acc, lt, p, q, rfl, HJ, HL, HO, HP, HB, hsz, HQ⟩ := hrel
        have hall : lt.length = acc.length := by have := congrArg List.length HL.out; rw [List.length_map, clipB_len] at this; exact this
        have hj := HJ.out
        have hll : lt.length ≤ 999999 := by omega
        have hlenm : lenAt g wr = XS.length - j := HP.out.len
        have HLen := Lib.hid hlenm
        have hstep := gK_step bl acc (dr XS j)
        rw [HQ.out] at hstep
        have HC2 := Lib.hid (ctake g XS j (bl + 1) ⟨#[125]⟩ [125] rfl wr HP.out)
        cases hV : isW (dr XS j) [125]
        · rw [hV] at HC2
          rw [hV, if_neg (by decide)] at hstep
          have hsf := (gS_is bl (dr XS j)).2
          have HS := Lib.hid (fun w' h' => qstmt_any g XS j bl (Lib.hid (fun k' h1 h2 => HBx.out k' (by omega) h2)) w' h')
          generalize gS bl (dr XS j) = q2 at hstep hsf HS
          have HQ2 := Lib.hid hstep
          clear hstep hV hlenm hall
          go_wp2_with fail
          refine HC2.out.mono ?_; rintro e w2 ⟨rfl, hb2, hP2⟩
          have HP2 : Hid (Psr g XS j 0 (bl + 1) w2) := hP2
          have HB2 := Lib.hid (HB.out.on hB0 hb2)
          have hw2 : wr.heap.size ≤ w2.heap.size := hb2.size
          have HO2 := Lib.hid (own_kp HO.out (show g < B by omega) hb2)
          clear hb2 hP2 HC2
          go_wp2_with fail
          refine (HS.out _ HP2.out).mono ?_; intro e w3 hm
          cases q2 with
          | no r x =>
            obtain ⟨i, hi, rfl⟩ := sf_no hsf
            obtain ⟨hb, he⟩ := PRd.no_dr hm hi
            have HBp := Lib.hid (HB2.out.on hB0 hb)
            have HI := Lib.hid hi
            unfold fails at he
            subst he
            clear hb hm hi hsf
            go_wp2_with fail
            refine ⟨rfl, ?_⟩
            rw [HQ2.out]
            have hfin := PRd.mk_no (α := List St) (g := g) (XS := XS) (ne := 0) (bl := bl) (x := x) (ok := okBl w.heap.size w3) HI.out (hB0.symm ▸ HBp.out)
            exact hB0 ▸ hfin
          | ok s r =>
            obtain ⟨i, hji, hi, rfl⟩ := sf_ok hsf
            obtain ⟨hb, v, rfl, hP3, a1, c1, a2, c2, a3, c3, a4, c4, rfl, K1, K2, K3, K4⟩ := PRd.ok_dr hm hi
            have hw3 : w2.heap.size ≤ w3.heap.size := hb.size
            have HO3 := Lib.hid (own_kp HO2.out (show g < B by omega) hb)
            have HB3 := Lib.hid (HB2.out.on hB0 hb)
            have HP3 := Lib.hid hP3
            have hcl : Hid (clipB (acc ++ [s]) = clipB acc ++ [clipS s]) := by show _ = _; rw [clipB_app, clipB_one]
            generalize clipS s = u at *
            obtain ⟨y, hy⟩ : ∃ y : SX, y = ⟨u, a1, c1, a2, c2, a3, c3, a4, c4⟩ := ⟨_, rfl⟩
            have hK6 : kS.inn (fun j => j < B ∨ (Value.slice p lt.length q).ownBlock = some j) w3 y := by
              have hst : Stays (fun j => j < w2.heap.size) (fun j => j < B ∨ (Value.slice p lt.length q).ownBlock = some j) w3 w3 := ⟨fun _ _ _ => rfl, fun j hj => by
                rcases hj with hj | hj
                · left; show j < w2.heap.size; omega
                · left; exact (HO2.out.lt j hj).2⟩
              rw [hy]
              exact ⟨K1.next hst, K2.next hst, K3.next hst, K4.next hst⟩
            have HK6 := Lib.hid hK6
            have HCS : Hid ([.int .i64 u.op, .string u.name, .int .i64 u.mx, .int .i64 u.a.op, .int .i64 u.a.n, .string u.a.s, .slice a1 u.a.args.length c1, .int .i64 u.b.op, .int .i64 u.b.n, .string u.b.s, .slice a2 u.b.args.length c2, .slice a3 u.body.length c3, .slice a4 u.els.length c4] = kS.f y) := by
              show _ = _
              rw [hy]
              rfl
            have HYS : Hid (y.s = u) := by show _ = _; rw [hy]
            have HI : Hid (j < i ∧ i ≤ XS.length) := ⟨hji, hi⟩
            clear hb hm hP3 K1 K2 K3 K4 hK6 hy hsf hji hi
            unfold sVal
            go_wp2_with (at_builtin; refine kS.wpList rfl (.tmp 24) (.tmp 27) rfl B (.slice p lt.length q) lt rfl HO3.out.row y _ HCS.out w3.heap.size rfl rfl (by omega) (by omega) ?_; intro g6 cap6 w6 hown6 hgrow6 hlie6)
            have hx1 := below_box w3 (.cells #[.int .i64 u.op, .string u.name, .int .i64 u.mx, .int .i64 u.a.op, .int .i64 u.a.n, .string u.a.s, .slice a1 u.a.args.length c1, .int .i64 u.b.op, .int .i64 u.b.n, .string u.b.s, .slice a2 u.b.args.length c2, .slice a3 u.body.length c3, .slice a4 u.els.length c4] 76)
            have HO6 := Lib.hid (HO3.out.push HK6.out (fun j hj => by show j < w3.heap.size; have h2 : j < B := hj; omega) hown6 hgrow6 hlie6)
            have hrow : ∀ k, (Value.slice p lt.length q).ownBlock = some k → B ≤ k := fun k hk => (HO3.out.lt k hk).1
            have hz6 : w3.heap.size < (w3.alloc (.cells #[.int .i64 u.op, .string u.name, .int .i64 u.mx, .int .i64 u.a.op, .int .i64 u.a.n, .string u.a.s, .slice a1 u.a.args.length c1, .int .i64 u.b.op, .int .i64 u.b.n, .string u.b.s, .slice a2 u.b.args.length c2, .slice a3 u.body.length c3, .slice a4 u.els.length c4] 76)).heap.size := by simp
            have HB6 := Lib.hid (kp_grown (HB3.out.on hB0 (Kp.of hx1)) hgrow6 (by have h9 : B ≤ w3.heap.size := (by omega); omega) hrow)
            have HP6 := Lib.hid (psr_grown (HP3.out.below hx1) hgrow6 (fun k hk => by have := hrow k hk; omega))
            have hw6 : B ≤ w6.heap.size := by have h9 := HB6.out.size; omega
            have HX6 : Hid ((lt ++ [y]).map SX.s = clipB (acc ++ [s])) := by show _ = _; rw [hcl.out, List.map_append, HL.out, List.map_singleton, HYS.out]
            have HL6 : Hid ((lt ++ [y]).length = lt.length + 1) := by show _ = _; simp
            have HQ6 : Hid (gK bl (acc ++ [s]) (dr XS i) = QF) := HQ2.out.symm
            clear hown6 hgrow6 hlie6 hrow hx1 hz6
            go_wp2_with fail
            go_roundw
            case rel =>
              exact ⟨i, acc ++ [s], lt ++ [y], some ⟨g6, 0, none⟩, cap6, by rw [HL6.out], ⟨by have := HI.out; omega, HI.out.2, by have := HI.out; simp; omega⟩, HX6, by show Own1 _ _ _ _ _ _; rw [HL6.out]; exact HO6.out, HP6, HB6, hw6, HQ6⟩
            case measure =>
              have h1 := HP6.out.len
              have h2 := HI.out
              have h3 := HLen.out
              omega
        · rw [hV] at HC2
          rw [hV, if_pos rfl, dr_tail] at hstep
          have hjl : j < XS.length := by
            rcases Nat.lt_or_ge j XS.length with h | h
            · exact h
            · rw [is_none h] at hV; cases hV
          have HQ2 := Lib.hid hstep
          have HJ2 := Lib.hid hjl
          have HA := Lib.hid hall
          clear hstep hV hlenm hall hjl hj
          go_wp2_with fail
          refine HC2.out.mono ?_; rintro e w2 ⟨rfl, hb2, hP2⟩
          obtain ⟨p2, p3, pf2, pf3⟩ := hP2.cells
          have p3' : w2.cell? ⟨g, 3, none⟩ = some (.int .i64 ((bl : Int) + 1)) := p3
          have HP2 : Hid (Psr g XS (j + 1) 0 bl (w2.setCell ⟨g, 3, none⟩ (.int .i64 bl))) := Psr.setBl (k := j + 1) hP2 bl
          have HB2 : Hid (Kp B g w (w2.setCell ⟨g, 3, none⟩ (.int .i64 bl))) := (HB.out.on hB0 hb2).trans Kp.set
          have HO2 := Lib.hid (own_kp HO.out (show g < B by omega) hb2)
          have HO3 : Hid (Own1 kS (w2.setCell ⟨g, 3, none⟩ (.int .i64 bl)) B (fun i => i < B) (.slice p lt.length q) lt) := own_kp HO2.out (show g < B by omega) Kp.set
          clear hb2 hP2 HC2 p3 HO HO2
          go_wp2_with fail
          go_ret
          rw [HQ2.out]
          have hbod := HO3.out.bodies
          rw [HL.out] at hbod
          exact PRd.mk_ok HJ2.out (hB0.symm ▸ HB2.out) HP2.out ⟨p, q, by rw [HA.out]; rfl, hB0.symm ▸ hbod⟩
/-- what reads a block, for all tokens -/
theorem cblock_all (g : Nat) (XS : List L.T) (hX : XS.length ≤ 1000000) : ∀ (N k bl : Nat), XS.length < k + N → bl ≤ 13 → CBk g XS k bl := by
  intro N
  induction N with
  | zero => intro k bl h _ w hp; have := hp.le; exact absurd h (by omega)
  | succ N ih => exact fun k bl h hb w hp => qblock_any g XS hX k bl hb (Lib.hid (fun h12 k' h1 h2 => ih k' (bl + 1) (by omega) (by omega))) w hp
end Go.Proofs.YteglaeopaocilaaGreatDoor.P
namespace Go.Proofs.YteglaeopaocilaaGreatDoor.P
open Go.RowKit
open L (Str Tok Tks toks At below_2 below_box ret_bool ret_int ret_string)
open A

/-- a type's word; a parameter -/
def tyL (r : T) : R Int := if tyOp r = 0 then .no r (wrong r) else .ok (tyOp r) r.tail
def pmL (l : T) : R Pm := (nL l).to fun nm r => (wL [58] r).to fun _ r => (tyL r).to fun ty r => .ok ⟨nm, ty⟩ r
theorem tyL_sf (l : T) : Sf l (tyL l) := by
  unfold tyL
  split
  · exact sf_w (List.suffix_refl l)
  · rename_i h
    have hne : l ≠ [] := by
      rintro rfl
      exact h (findW_nil _)
    exact ⟨tail_sf l, tail_lt hne⟩
theorem pmL_sf (l : T) : Sf l (pmL l) := sf_to (nL_sf l) fun _ r => Or.inl (sf_to (wL_sf _ r) fun _ r => Or.inl (sf_to (tyL_sf r) fun _ _ => Or.inr ⟨_, rfl⟩))
theorem tyOp_of {l : T} {s : Str} (h : isW l s = true) : tyOp l = findO tyT (some s) := by unfold tyOp; rw [findW_tkw, tkw_of h]
theorem tyOp_none {l : T} (h : ∀ p ∈ tyT, isW l p.1 = false) : tyOp l = 0 := by
  have e : (tyT.find? fun p => isW l p.1) = none := List.find?_eq_none.2 fun p hp => by rw [h p hp]; decide
  unfold tyOp findW
  rw [e]
def okPm (t : Pm) (v : Value) : Prop := v = .agg #[.string t.name, .int .i64 t.ty]
theorem kp_set2 {B g : Nat} {w w' : World} {b : Nat} {x y : Value} (h : Kp B g w w') (hb : B ≤ b) : Kp B g w ((w'.setCell ⟨b, 0, none⟩ x).setCell ⟨b, 1, none⟩ y) := kp_set (kp_set h hb) hb
set_option maxHeartbeats 8000000 in
set_option maxRecDepth 100000 in
theorem oparam_any (g : Nat) (XS : List L.T) (k bl : Nat) (w : World) (h : Psr g XS k 0 bl w) :
    Calls Tryz.prog 136 #[ptr g] w fun e w' => PRd g XS 0 bl w w' (pmL (dr XS k)) okPm e := by
  have hbx := below_box w (.cells #[.string ⟨#[]⟩, .int .i64 0] 58)
  have HM := Lib.hid (Bk.new w #[.string ⟨#[]⟩, .int .i64 0] 58)
  have hlt0 := h.lt
  have HP := Lib.hid (h.below hbx)
  have HB : Hid (Kp w.heap.size g w _) := Kp.of hbx
  have HQ : Hid (pmL (dr XS k) = (nL (dr XS k)).to fun nm r => (wL [58] r).to fun _ r => (tyL r).to fun ty r => .ok ⟨nm, ty⟩ r) := rfl
  generalize pmL (dr XS k) = QF at HQ ⊢
  clear hbx h
  go_enter Tryz.func136, Tryz.ntmps136
  go_wp2_with fail
  generalize w.alloc (.cells #[.string ⟨#[]⟩, .int .i64 0] 58) = W0 at *
  generalize hB0 : w.heap.size = B at *
  have hgB : g < B := hlt0
  have HC1 := Lib.hid (cname g XS k bl W0 HP.out)
  have hsf1 := nL_sf (dr XS k)
  generalize nL (dr XS k) = q1 at HC1 HQ hsf1
  refine HC1.out.mono ?_; intro e w1 hm
  cases q1 with
  | no r x =>
    obtain ⟨j, hj, rfl⟩ := sf_no hsf1
    obtain ⟨hb, he⟩ := PRd.no_dr hm hj
    have HBp := Lib.hid (HB.out.on hB0 hb)
    unfold fails at he
    subst he
    have HJ := Lib.hid hj
    clear hb hm hj hsf1 HC1
    go_wp2_with fail
    refine ⟨rfl, ?_⟩
    rw [HQ.out]
    exact PRd.mk_no HJ.out (hB0.symm ▸ HBp.out)
  | ok nm r =>
    obtain ⟨k1, hk1, hj1, rfl⟩ := sf_ok hsf1
    obtain ⟨hb, v, rfl, hP, hv⟩ := PRd.ok_dr hm hj1
    unfold okN at hv
    subst hv
    have hx := below_box w1 (.cells #[.string nm, .int .i64 0] 58)
    have hM1 := HM.out.kp (by omega) hb
    have hBS : B < w1.heap.size := hM1.lt
    have HB1 := Lib.hid ((HB.out.on hB0 hb).on hB0 (Kp.of hx))
    have HM1 := Lib.hid (hM1.below hx)
    have HP1 := Lib.hid (hP.below hx)
    have HS1 := Lib.hid (Bk.new w1 #[.string nm, .int .i64 0] 58)
    have HQ1 : Hid (QF = (wL [58] (dr XS k1)).to fun _ r => (tyL r).to fun ty r => .ok ⟨nm, ty⟩ r) := HQ.out
    clear hb hm hP hsf1 HC1 hx hM1 HM HP HB HQ
    go_wp2_with fail
    generalize (w1.alloc (.cells #[.string nm, .int .i64 0] 58)) = W1 at *
    generalize w1.heap.size = S at *
    have HC2 := Lib.hid (cexpect g XS k1 bl ⟨#[58]⟩ [58] rfl W1 HP1.out)
    have hsf2 := wL_sf [58] (dr XS k1)
    generalize wL [58] (dr XS k1) = q2 at HC2 HQ1 hsf2
    refine HC2.out.mono ?_; intro e w2 hm
    cases q2 with
    | no r x =>
      obtain ⟨j, hj, rfl⟩ := sf_no hsf2
      obtain ⟨hb, he⟩ := PRd.no_dr hm hj
      have HBp := Lib.hid (HB1.out.on hB0 hb)
      unfold fails at he
      subst he
      have HJ := Lib.hid hj
      clear hb hm hj hsf2 HC2
      go_wp2_with fail
      refine ⟨rfl, ?_⟩
      rw [HQ1.out]
      exact PRd.mk_no HJ.out (hB0.symm ▸ HBp.out)
    | ok u r =>
      obtain ⟨k2, hk2, hj2, rfl⟩ := sf_ok hsf2
      obtain ⟨hb, v, rfl, hP, rfl⟩ := PRd.ok_dr hm hj2
      have HB2 := Lib.hid (HB1.out.on hB0 hb)
      have HM2 := Lib.hid (HM1.out.kp (by omega) hb)
      have HS2 := Lib.hid (HS1.out.kp (by omega) hb)
      have HP2 := Lib.hid hP
      have HQ2 : Hid (QF = (tyL (dr XS k2)).to fun ty r => .ok ⟨nm, ty⟩ r) := HQ1.out
      clear hb hm hP hsf2 HC2 HM1 HP1 HB1 HQ1 HS1
      go_wp2_with fail
      have HC3 := Lib.hid (ctake g XS k2 bl ⟨#[105, 110, 116]⟩ kInt rfl w2 HP2.out)
      cases hV3 : isW (dr XS k2) kInt
      rotate_left
      · skip
        have HQ3 : Hid (QF = .ok ⟨nm, 1⟩ (dr XS (k2 + 1))) := by
          show _ = _
          rw [HQ2.out]
          unfold tyL
          rw [(tyOp_of hV3).trans (show findO tyT (some kInt) = 1 by decide), if_neg (by decide), dr_tail]
          rfl
        have hlt : k2 + 1 ≤ XS.length := by
          rcases Nat.lt_or_ge k2 XS.length with h | h
          · exact h
          · rw [is_none h] at hV3; cases hV3
        rw [hV3] at HC3
        refine HC3.out.mono ?_; rintro e w3 ⟨rfl, hb, hP⟩
        have HB3 := Lib.hid (HB2.out.on hB0 hb)
        have hM := HM2.out.kp (by omega) hb
        have hS := HS2.out.kp (by omega) hb
        have HP3 : Hid (Psr g XS (k2 + 1) 0 bl w3) := hP
        obtain ⟨s0, s1⟩ := cells2 hS
        obtain ⟨f0, f1⟩ := free2 hS
        have hS2 : Bk (w3.setCell ⟨S, 1, none⟩ (.int .i64 1)) S #[.string nm, .int .i64 1] 58 := by
          have hx := hS.set 1 (u := .int .i64 1)
          simpa using hx
        have hM2 : Bk (w3.setCell ⟨S, 1, none⟩ (.int .i64 1)) B #[.string ⟨#[]⟩, .int .i64 0] 58 := hM.apart (by omega)
        have HM4 := Lib.hid hM2
        have HP4 := Lib.hid (HP3.out.set (b := S) (i := 1) (u := .int .i64 1) (by omega))
        have HB4 := Lib.hid (kp_set (i := 1) (u := .int .i64 1) HB3.out (show B ≤ S by omega))
        obtain ⟨t0, t1⟩ := cells2 hS2
        obtain ⟨r0, r1⟩ := cells2 hM2
        obtain ⟨g0, g1⟩ := free2 hM2
        clear hb hP HC3 hV3 hM hS hS2 hM2
        go_wp2_with fail
        obtain ⟨q0, q1⟩ := stored2 HM4.out (.string nm) (.int .i64 1)
        refine bodyPost_ret (v := .agg #[.string nm, .int .i64 1]) (by simp [results, Tryz.results136, go_sem, q0, q1]) rfl ?_
        rw [HQ3.out]
        exact PRd.mk_ok hlt (kp_set2 (b := B) (hB0.symm ▸ HB4.out) (Nat.le_of_eq hB0)) ((HP4.out.set (b := B) hgB).set (b := B) hgB) rfl
      have HN0 : Hid (isW (dr XS k2) kInt = false) := hV3
      rw [hV3] at HC3
      refine HC3.out.mono ?_; rintro e w3 ⟨rfl, hb, hP⟩
      have HB3 := Lib.hid (HB2.out.on hB0 hb)
      have HM3 := Lib.hid (HM2.out.kp (by omega) hb)
      have HS3 := Lib.hid (HS2.out.kp (by omega) hb)
      have HP3 : Hid (Psr g XS k2 0 bl w3) := hP
      clear hb hP HC3 hV3 HB2 HM2 HS2 HP2
      go_wp2_with fail
      have HC4 := Lib.hid (ctake g XS k2 bl ⟨#[115, 116, 114]⟩ kStr rfl w3 HP3.out)
      cases hV4 : isW (dr XS k2) kStr
      rotate_left
      · skip
        have HQ4 : Hid (QF = .ok ⟨nm, 2⟩ (dr XS (k2 + 1))) := by
          show _ = _
          rw [HQ2.out]
          unfold tyL
          rw [(tyOp_of hV4).trans (show findO tyT (some kStr) = 2 by decide), if_neg (by decide), dr_tail]
          rfl
        have hlt : k2 + 1 ≤ XS.length := by
          rcases Nat.lt_or_ge k2 XS.length with h | h
          · exact h
          · rw [is_none h] at hV4; cases hV4
        rw [hV4] at HC4
        refine HC4.out.mono ?_; rintro e w4 ⟨rfl, hb, hP⟩
        have HB4 := Lib.hid (HB3.out.on hB0 hb)
        have hM := HM3.out.kp (by omega) hb
        have hS := HS3.out.kp (by omega) hb
        have HP4 : Hid (Psr g XS (k2 + 1) 0 bl w4) := hP
        obtain ⟨s0, s1⟩ := cells2 hS
        obtain ⟨f0, f1⟩ := free2 hS
        have hS2 : Bk (w4.setCell ⟨S, 1, none⟩ (.int .i64 2)) S #[.string nm, .int .i64 2] 58 := by
          have hx := hS.set 1 (u := .int .i64 2)
          simpa using hx
        have hM2 : Bk (w4.setCell ⟨S, 1, none⟩ (.int .i64 2)) B #[.string ⟨#[]⟩, .int .i64 0] 58 := hM.apart (by omega)
        have HM4 := Lib.hid hM2
        have HP4 := Lib.hid (HP4.out.set (b := S) (i := 1) (u := .int .i64 2) (by omega))
        have HB4 := Lib.hid (kp_set (i := 1) (u := .int .i64 2) HB4.out (show B ≤ S by omega))
        obtain ⟨t0, t1⟩ := cells2 hS2
        obtain ⟨r0, r1⟩ := cells2 hM2
        obtain ⟨g0, g1⟩ := free2 hM2
        clear hb hP HC4 hV4 hM hS hS2 hM2
        go_wp2_with fail
        obtain ⟨q0, q1⟩ := stored2 HM4.out (.string nm) (.int .i64 2)
        refine bodyPost_ret (v := .agg #[.string nm, .int .i64 2]) (by simp [results, Tryz.results136, go_sem, q0, q1]) rfl ?_
        rw [HQ4.out]
        exact PRd.mk_ok hlt (kp_set2 (b := B) (hB0.symm ▸ HB4.out) (Nat.le_of_eq hB0)) ((HP4.out.set (b := B) hgB).set (b := B) hgB) rfl
      have HN1 : Hid (isW (dr XS k2) kStr = false) := hV4
      rw [hV4] at HC4
      refine HC4.out.mono ?_; rintro e w4 ⟨rfl, hb, hP⟩
      have HB4 := Lib.hid (HB3.out.on hB0 hb)
      have HM4 := Lib.hid (HM3.out.kp (by omega) hb)
      have HS4 := Lib.hid (HS3.out.kp (by omega) hb)
      have HP4 : Hid (Psr g XS k2 0 bl w4) := hP
      clear hb hP HC4 hV4 HB3 HM3 HS3 HP3
      go_wp2_with fail
      have HC5 := Lib.hid (ctake g XS k2 bl ⟨#[98, 111, 111, 108]⟩ kBool rfl w4 HP4.out)
      cases hV5 : isW (dr XS k2) kBool
      rotate_left
      · skip
        have HQ5 : Hid (QF = .ok ⟨nm, 3⟩ (dr XS (k2 + 1))) := by
          show _ = _
          rw [HQ2.out]
          unfold tyL
          rw [(tyOp_of hV5).trans (show findO tyT (some kBool) = 3 by decide), if_neg (by decide), dr_tail]
          rfl
        have hlt : k2 + 1 ≤ XS.length := by
          rcases Nat.lt_or_ge k2 XS.length with h | h
          · exact h
          · rw [is_none h] at hV5; cases hV5
        rw [hV5] at HC5
        refine HC5.out.mono ?_; rintro e w5 ⟨rfl, hb, hP⟩
        have HB5 := Lib.hid (HB4.out.on hB0 hb)
        have hM := HM4.out.kp (by omega) hb
        have hS := HS4.out.kp (by omega) hb
        have HP5 : Hid (Psr g XS (k2 + 1) 0 bl w5) := hP
        obtain ⟨s0, s1⟩ := cells2 hS
        obtain ⟨f0, f1⟩ := free2 hS
        have hS2 : Bk (w5.setCell ⟨S, 1, none⟩ (.int .i64 3)) S #[.string nm, .int .i64 3] 58 := by
          have hx := hS.set 1 (u := .int .i64 3)
          simpa using hx
        have hM2 : Bk (w5.setCell ⟨S, 1, none⟩ (.int .i64 3)) B #[.string ⟨#[]⟩, .int .i64 0] 58 := hM.apart (by omega)
        have HM4 := Lib.hid hM2
        have HP4 := Lib.hid (HP5.out.set (b := S) (i := 1) (u := .int .i64 3) (by omega))
        have HB4 := Lib.hid (kp_set (i := 1) (u := .int .i64 3) HB5.out (show B ≤ S by omega))
        obtain ⟨t0, t1⟩ := cells2 hS2
        obtain ⟨r0, r1⟩ := cells2 hM2
        obtain ⟨g0, g1⟩ := free2 hM2
        clear hb hP HC5 hV5 hM hS hS2 hM2
        go_wp2_with fail
        obtain ⟨q0, q1⟩ := stored2 HM4.out (.string nm) (.int .i64 3)
        refine bodyPost_ret (v := .agg #[.string nm, .int .i64 3]) (by simp [results, Tryz.results136, go_sem, q0, q1]) rfl ?_
        rw [HQ5.out]
        exact PRd.mk_ok hlt (kp_set2 (b := B) (hB0.symm ▸ HB4.out) (Nat.le_of_eq hB0)) ((HP4.out.set (b := B) hgB).set (b := B) hgB) rfl
      have HN2 : Hid (isW (dr XS k2) kBool = false) := hV5
      rw [hV5] at HC5
      refine HC5.out.mono ?_; rintro e w5 ⟨rfl, hb, hP⟩
      have HB5 := Lib.hid (HB4.out.on hB0 hb)
      have HM5 := Lib.hid (HM4.out.kp (by omega) hb)
      have HS5 := Lib.hid (HS4.out.kp (by omega) hb)
      have HP5 : Hid (Psr g XS k2 0 bl w5) := hP
      clear hb hP HC5 hV5 HB4 HM4 HS4 HP4
      go_wp2_with fail
      have hno : tyOp (dr XS k2) = 0 := tyOp_none (fun p hp => by
        simp only [tyT, List.mem_cons, List.not_mem_nil, or_false] at hp
        rcases hp with rfl | rfl | rfl
        · exact HN0.out
        · exact HN1.out
        · exact HN2.out)
      have HQ3 : Hid (QF = .no (dr XS k2) (wrong (dr XS k2))) := by
        show _ = _
        rw [HQ2.out]
        unfold tyL
        rw [if_pos hno]
        rfl
      have HU := Lib.hid (ounexpected_any g XS k2 0 bl w5 HP5.out)
      unfold failV at HU
      obtain ⟨l, hl⟩ : ∃ l, lineAt XS k2 = l := ⟨_, rfl⟩
      rw [hl] at HU
      generalize hW : wrong (dr XS k2) = x at HU HQ3
      have HE := Lib.hid (fails_of (x := x) hl)
      clear hno hl hW
      refine HU.out.mono ?_; rintro e w6 ⟨rfl, hb⟩
      have HB6 := Lib.hid (HB5.out.on hB0 (Kp.of hb))
      clear hb
      go_wp2_with fail
      refine ⟨rfl, ?_⟩
      rw [HQ3.out, HE.out]
      exact PRd.mk_no hj2 (hB0.symm ▸ HB6.out)
end Go.Proofs.YteglaeopaocilaaGreatDoor.P
