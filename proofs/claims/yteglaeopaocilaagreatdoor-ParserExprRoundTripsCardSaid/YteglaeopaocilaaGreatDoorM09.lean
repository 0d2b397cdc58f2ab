/-
  What the program's own functions of layer 7 return: intToken, wordToken, firstToken.
  What the program's own Tokenize of layer 7 returns.
  Laws of layer 7, walked over whatever the program's own functions return: LexerWords, LexerTokens, LexerJoins.
  Laws of layer 7, walked over whatever the program's own functions return: LexerJoinRoundTrip.
  Laws of layer 7, walked over whatever the program's own functions return: LexerStable.
-/
import Derived.Test.YteglaeopaocilaaGreatDoorM08
import Derived.Test.YteglaeopaocilaaGreatDoorM05
namespace Go.Proofs.YteglaeopaocilaaGreatDoor.L
open Go.RowKit

theorem GivesQ.tok {e : Ending} {s : ByteArray} {r : Tok × Str × Int} {t : Tok} {rest : Str} (p : T) (E : Nat) (h : r = (t, rest, 0)) (hp : ofTok t = p) (hE : s.size - rest.length = E) (he : e = .returned (.tuple #[p.val, .int .i64 (E : Int), .int .i64 0])) : GivesQ e s r := by
  subst h hp hE; exact ⟨_, _, he, fun _ => ⟨rfl, rfl⟩⟩
/-- the token that a word gives -/
def wq (s : Str) : Tok × Str × Int := ((word s).1, [], (word s).2)
def iq (s : Str) : Tok × Str × Int := (⟨3, [], pV s, 0⟩, [], pE s)
set_option maxHeartbeats 1000000 in
set_option maxRecDepth 100000 in
theorem oint_any (s : ByteArray) (hs : s.size ≤ 1000000000000000) (w : World) :
    Calls Tryz.prog 174 #[.string s] w fun e w' => GivesQ e s (iq s.data.toList) ∧ Below w.heap.size w w' := by
  have hp := fun w => parse_any s w (by omega)
  have HW := Lib.hid (fun x => below_box w (.cells x 101))
  by_cases he : pE s.data.toList = 0
  · have HV : Hid (iq s.data.toList = (⟨3, [], pV s.data.toList, 0⟩, [], 0)) := by show _ = _; unfold iq; rw [he]
    rw [he] at hp
    have HP := Lib.hid hp
    generalize pV s.data.toList = n at HP HV
    clear hp he
    go_enter Tryz.func174, Tryz.ntmps174
    go_wp2_with fail
    refine (HP.out _).mono ?_; rintro e w1 ⟨rfl, rfl⟩
    go_wp2_with fail
    refine bodyPost_ret (v := .tuple #[.agg #[.int .i64 3, .string ⟨#[]⟩, .int .i64 n, .int .i64 0], .int .i64 (s.size : Int), .int .i64 0]) (by simp [results, Tryz.results174, go_sem]) rfl ⟨GivesQ.tok ⟨3, ⟨#[]⟩, n, 0⟩ s.size HV.out rfl rfl rfl, HW.out _⟩
  · have bE : (pE s.data.toList != 0) = true := bne_iff_ne.2 he
    have HE := Lib.hid he
    have HP := Lib.hid hp
    have HV : Hid ((iq s.data.toList).2.2 = pE s.data.toList) := rfl
    generalize pV s.data.toList = n at HP
    generalize pE s.data.toList = x at HP HV bE HE
    clear hp he
    go_enter Tryz.func174, Tryz.ntmps174
    go_wp2_with fail
    refine (HP.out _).mono ?_; rintro e w1 ⟨rfl, rfl⟩
    go_wp2_with fail
    refine bodyPost_ret (v := .tuple #[.agg #[.int .i64 0, .string ⟨#[]⟩, .int .i64 0, .int .i64 0], .int .i64 0, .int .i64 x]) (by simp [results, Tryz.results174, go_sem]) rfl ⟨GivesQ.err zeroT 0 HV.out HE.out rfl, HW.out _⟩
theorem wq_int {e : Ending} {s : ByteArray} (h0 : 0 < s.size) (h1 : letter s[0] = false) (h : GivesQ e s (iq s.data.toList)) : GivesQ e s (wq s.data.toList) := by
  obtain ⟨p, E, he, hE⟩ := h
  by_cases h2 : pE s.data.toList = 0
  · have e1 : wq s.data.toList = iq s.data.toList := by unfold wq iq; rw [wd_int h0 h1 h2, h2]
    rw [e1]; exact ⟨p, E, he, hE⟩
  · have e1 : (wq s.data.toList).2.2 = pE s.data.toList := by unfold wq; rw [wd_bad h0 h1 h2]
    exact GivesQ.err p E e1 h2 he
theorem under_bad {s : ByteArray} (h0 : 0 < s.size) (h : s[0].toNat = 95) : (wq s.data.toList).2.2 = 5 := by
  have h1 : letter s[0] = false := by
    have : ¬ letter s[0] = true := fun h2 => by rw [letter_iff] at h2; omega
    simpa using this
  have h2 : pE s.data.toList = 5 := by
    rw [list_cons h0, show s[0] = 95 from UInt8.toNat_inj.1 h]
    rfl
  unfold wq
  rw [wd_bad h0 h1 (by rw [h2]; decide)]
  exact h2
theorem wq_kw {s : ByteArray} (h : isKw s.data.toList = true) : wq s.data.toList = (⟨2, s.data.toList, 0, 0⟩, [], 0) := by unfold wq; rw [wd_kw h]
theorem wq_name {s : ByteArray} (h : isName s.data.toList = true) : wq s.data.toList = (⟨1, s.data.toList, 0, 0⟩, [], 0) := by unfold wq; rw [wd_name h]
theorem wq_long {s : ByteArray} (h0 : 0 < s.size) (h1 : letter s[0] = true) (h2 : isKw s.data.toList = false) (h3 : isName s.data.toList = false) : (wq s.data.toList).2.2 = 2 := by unfold wq; rw [wd_long h0 h1 h2 h3]
set_option maxHeartbeats 2000000 in
set_option maxRecDepth 100000 in
theorem oword_any (s : ByteArray) (hs : s.size ≤ 100000000000000) (h0 : 0 < s.size) (hpt : part s[0] = true) (w : World) :
    Calls Tryz.prog 123 #[.string s] w fun e w' => GivesQ e s (wq s.data.toList) ∧ Below w.heap.size w w' := by
  have HM := Lib.hid (MineT.zero w)
  have HW := Lib.hid (fun x => below_box w (.cells x 101))
  have HK := Lib.hid (oisKw_any s)
  have HI := Lib.hid (oname_any s)
  have HC := Lib.hid (oclone_any s (by omega))
  have HG := Lib.hid (oint_any s (by omega))
  have h1 := fun w => oletter_any (s[0].toNat : Int) w
  have h2 := fun w => odigit_any (s[0].toNat : Int) w
  rw [ltr_of] at h1
  rw [dgt_of] at h2
  have hb := byte_lt s[0]
  cases hk : isKw s.data.toList
  · rw [hk] at HK
    cases hn : isName s.data.toList
    · rw [hn] at HI
      cases hl : letter s[0]
      · rw [hl] at h1
        have HL := Lib.hid h1
        have HWI := Lib.hid (fun e => wq_int (e := e) h0 hl)
        cases hd : digit s[0]
        · rw [hd] at h2
          have HD := Lib.hid h2
          have h95 : s[0].toNat = 95 := by
            unfold part at hpt
            rw [hl, hd] at hpt
            exact of_decide_eq_true hpt
          have HV := Lib.hid (under_bad h0 h95)
          clear h1 h2 hk hn hl hd hpt h95 HWI
          go_enter Tryz.func123, Tryz.ntmps123
          go_wp2_with fail
          refine (HK.out _).mono ?_; rintro e w1 ⟨rfl, rfl⟩
          go_wp2_with fail
          refine (HI.out _).mono ?_; rintro e w2 ⟨rfl, hb2⟩
          obtain ⟨⟨p, d0, d1, d2, d3⟩, g0, g1, g2, g3⟩ := HM.out.below hb2 (by simp)
          simp only [Nat.zero_add] at d0 d1 d2 d3
          have HB := Lib.hid (below_2 (HW.out _) hb2)
          go_wp2_with fail
          refine (HL.out _).mono ?_; rintro e w3 ⟨rfl, rfl⟩
          go_wp2_with fail
          refine (HD.out _).mono ?_; rintro e w4 ⟨rfl, rfl⟩
          go_wp2_with fail
          obtain ⟨q0, q1, q2, q3⟩ := storedT (w := w4) (b := w.heap.size) (p := p) ⟨d0, d1, d2, d3⟩ ⟨0, ⟨#[]⟩, 0, 0⟩
          simp only [Nat.zero_add] at q0 q1 q2 q3
          refine bodyPost_ret (v := .tuple #[.agg #[.int .i64 0, .string ⟨#[]⟩, .int .i64 0, .int .i64 0], .int .i64 0, .int .i64 5]) (by simp [results, Tryz.results123, go_sem, q0, q1, q2, q3]) rfl ⟨GivesQ.err zeroT 0 HV.out (by decide) rfl, storedT_below HB.out (Nat.le_refl _) _ _ _ _⟩
        · rw [hd] at h2
          have HD := Lib.hid h2
          generalize wq s.data.toList = r at HWI ⊢
          clear h1 h2 hk hn hl hd hpt
          go_enter Tryz.func123, Tryz.ntmps123
          go_wp2_with fail
          refine (HK.out _).mono ?_; rintro e w1 ⟨rfl, rfl⟩
          go_wp2_with fail
          refine (HI.out _).mono ?_; rintro e w2 ⟨rfl, hb2⟩
          go_wp2_with fail
          refine (HL.out _).mono ?_; rintro e w3 ⟨rfl, rfl⟩
          go_wp2_with fail
          refine (HD.out _).mono ?_; rintro e w4 ⟨rfl, rfl⟩
          go_wp2_with fail
          refine (HG.out _).mono ?_; rintro e w5 ⟨hG, hb5⟩
          have hG2 := HWI.out _ hG
          obtain ⟨⟨pk, pt, pn, pl⟩, E, he, hE⟩ := hG2
          have HE := Lib.hid hE
          subst he
          clear hG hE
          simp only [T.val]
          obtain ⟨⟨p, d0, d1, d2, d3⟩, g0, g1, g2, g3⟩ := (HM.out.below hb2 (by simp)).below hb5 (HM.out.below hb2 (by simp)).lt
          simp only [Nat.zero_add] at d0 d1 d2 d3
          have HB := Lib.hid (below_2 (below_2 (HW.out _) hb2) hb5)
          go_wp2_with fail
          obtain ⟨q0, q1, q2, q3⟩ := storedT (w := w5) (b := w.heap.size) (p := p) ⟨d0, d1, d2, d3⟩ ⟨pk, pt, pn, pl⟩
          simp only [Nat.zero_add] at q0 q1 q2 q3
          refine bodyPost_ret (v := .tuple #[.agg #[.int .i64 pk, .string pt, .int .i64 pn, .int .i64 pl], .int .i64 E, .int .i64 r.2.2]) (by simp [results, Tryz.results123, go_sem, q0, q1, q2, q3]) rfl ⟨⟨⟨pk, pt, pn, pl⟩, E, rfl, HE.out⟩, storedT_below HB.out (Nat.le_refl _) _ _ _ _⟩
      · rw [hl] at h1
        have HL := Lib.hid h1
        have HV := Lib.hid (wq_long h0 hl hk hn)
        clear h1 h2 hk hn hl hpt
        go_enter Tryz.func123, Tryz.ntmps123
        go_wp2_with fail
        refine (HK.out _).mono ?_; rintro e w1 ⟨rfl, rfl⟩
        go_wp2_with fail
        refine (HI.out _).mono ?_; rintro e w2 ⟨rfl, hb2⟩
        obtain ⟨⟨p, d0, d1, d2, d3⟩, g0, g1, g2, g3⟩ := HM.out.below hb2 (by simp)
        simp only [Nat.zero_add] at d0 d1 d2 d3
        have HB := Lib.hid (below_2 (HW.out _) hb2)
        go_wp2_with fail
        refine (HL.out _).mono ?_; rintro e w3 ⟨rfl, rfl⟩
        go_wp2_with fail
        obtain ⟨q0, q1, q2, q3⟩ := storedT (w := w3) (b := w.heap.size) (p := p) ⟨d0, d1, d2, d3⟩ ⟨0, ⟨#[]⟩, 0, 0⟩
        simp only [Nat.zero_add] at q0 q1 q2 q3
        refine bodyPost_ret (v := .tuple #[.agg #[.int .i64 0, .string ⟨#[]⟩, .int .i64 0, .int .i64 0], .int .i64 0, .int .i64 2]) (by simp [results, Tryz.results123, go_sem, q0, q1, q2, q3]) rfl ⟨GivesQ.err zeroT 0 HV.out (by decide) rfl, storedT_below HB.out (Nat.le_refl _) _ _ _ _⟩
    · rw [hn] at HI
      have HV := Lib.hid (wq_name hn)
      clear h1 h2 hk hn hpt
      go_enter Tryz.func123, Tryz.ntmps123
      go_wp2_with fail
      refine (HK.out _).mono ?_; rintro e w1 ⟨rfl, rfl⟩
      go_wp2_with fail
      refine (HI.out _).mono ?_; rintro e w2 ⟨rfl, hb2⟩
      go_wp2_with fail
      refine (HC.out _).mono ?_; rintro e w3 ⟨rfl, hb3⟩
      obtain ⟨⟨p, d0, d1, d2, d3⟩, g0, g1, g2, g3⟩ := (HM.out.below hb2 (by simp)).below hb3 (HM.out.below hb2 (by simp)).lt
      simp only [Nat.zero_add] at d0 d1 d2 d3
      have HB := Lib.hid (below_2 (below_2 (HW.out _) hb2) hb3)
      go_wp2_with fail
      obtain ⟨q0, q1, q2, q3⟩ := storedT (w := w3) (b := w.heap.size) (p := p) ⟨d0, d1, d2, d3⟩ ⟨1, s, 0, 0⟩
      simp only [Nat.zero_add] at q0 q1 q2 q3
      refine bodyPost_ret (v := .tuple #[.agg #[.int .i64 1, .string s, .int .i64 0, .int .i64 0], .int .i64 (s.size : Int), .int .i64 0]) (by simp [results, Tryz.results123, go_sem, q0, q1, q2, q3]) rfl ⟨GivesQ.tok ⟨1, s, 0, 0⟩ s.size HV.out rfl rfl rfl, storedT_below HB.out (Nat.le_refl _) _ _ _ _⟩
  · rw [hk] at HK
    have HV := Lib.hid (wq_kw hk)
    clear h1 h2 hk hpt
    go_enter Tryz.func123, Tryz.ntmps123
    go_wp2_with fail
    refine (HK.out _).mono ?_; rintro e w1 ⟨rfl, rfl⟩
    go_wp2_with fail
    refine (HC.out _).mono ?_; rintro e w3 ⟨rfl, hb3⟩
    obtain ⟨⟨p, d0, d1, d2, d3⟩, g0, g1, g2, g3⟩ := HM.out.below hb3 (by simp)
    simp only [Nat.zero_add] at d0 d1 d2 d3
    have HB := Lib.hid (below_2 (HW.out _) hb3)
    go_wp2_with fail
    obtain ⟨q0, q1, q2, q3⟩ := storedT (w := w3) (b := w.heap.size) (p := p) ⟨d0, d1, d2, d3⟩ ⟨2, s, 0, 0⟩
    simp only [Nat.zero_add] at q0 q1 q2 q3
    refine bodyPost_ret (v := .tuple #[.agg #[.int .i64 2, .string s, .int .i64 0, .int .i64 0], .int .i64 (s.size : Int), .int .i64 0]) (by simp [results, Tryz.results123, go_sem, q0, q1, q2, q3]) rfl ⟨GivesQ.tok ⟨2, s, 0, 0⟩ s.size HV.out rfl rfl rfl, storedT_below HB.out (Nat.le_refl _) _ _ _ _⟩
theorem tok_q {s : ByteArray} (h : 0 < s.size) (hq : s[0].toNat = 34) : tok s.data.toList = lt4 (litr [] (s.data.toList.drop 1)) := by
  have := tok_lit (s := s) (k := 0) h hq
  rwa [List.drop_zero] at this
theorem tok_wq {e : Ending} {s d : ByteArray} (h : 0 < s.size) (h1 : ¬ s[0].toNat = 34) (h2 : part s[0] = true) (hd : d.data.toList = s.data.toList.takeWhile part) (hG : GivesQ e d (wq d.data.toList)) : GivesQ e s (tok s.data.toList) := by
  have e1 := tok_w (s := s) (d := d) (k := 0) h h1 h2 (by rw [List.drop_zero]; exact hd)
  rw [List.drop_zero] at e1
  obtain ⟨p, E, he, hE⟩ := hG
  rw [e1]
  refine ⟨p, E, he, fun h0 => ?_⟩
  obtain ⟨g1, g2⟩ := hE h0
  refine ⟨?_, g2⟩
  rw [g1]
  show ((d.size - 0 : Nat) : Int) = ((s.size - (s.data.toList.dropWhile part).length : Nat) : Int)
  have := take_drop_len part s.data.toList
  rw [← hd, ← size_len, ← size_len] at this
  omega
theorem tok_mk {s : ByteArray} {m : Str} (h : 0 < s.size) (h1 : ¬ s[0].toNat = 34) (h2 : part s[0] = false) (hm : mark s.data.toList = some m) : tok s.data.toList = (⟨5, m, 0, 0⟩, s.data.toList.drop m.length, 0) := by
  rw [list_cons h] at hm ⊢
  unfold tok; simp only
  rw [if_neg h1, if_neg (by rw [h2]; decide), hm]
theorem tok_none {s : ByteArray} (h : 0 < s.size) (h1 : ¬ s[0].toNat = 34) (h2 : part s[0] = false) (hm : mark s.data.toList = none) : (tok s.data.toList).2.2 = 5 := by
  rw [list_cons h] at hm ⊢
  unfold tok; simp only
  rw [if_neg h1, if_neg (by rw [h2]; decide), hm]
theorem lead_pos {s d : ByteArray} (h : 0 < s.size) (hd : d.data.toList = s.data.toList.takeWhile part) : (part s[0] = true → 0 < d.size ∧ d.size ≤ s.size ∧ ∀ h2 : 0 < d.size, d[0] = s[0]) ∧ (part s[0] = false → d.size = 0) := by
  have hl : d.size ≤ s.size := by
    rw [size_len d, hd, size_len s]; exact (List.takeWhile_sublist part).length_le
  rw [list_cons h] at hd
  constructor
  · intro hp
    rw [List.takeWhile_cons, if_pos hp] at hd
    have hz : 0 < d.size := by rw [size_len, hd]; simp
    refine ⟨hz, hl, fun h2 => ?_⟩
    rw [list_cons h2] at hd
    exact (List.cons.inj hd).1
  · intro hp
    rw [List.takeWhile_cons, if_neg (by rw [hp]; decide)] at hd
    rw [size_len, hd]; rfl
set_option maxHeartbeats 2000000 in
set_option maxRecDepth 100000 in
theorem ofirst_any (s : ByteArray) (hs : s.size ≤ 100000000000000) (h0 : 0 < s.size) (w : World) :
    Calls Tryz.prog 65 #[.string s] w fun e w' => GivesQ e s (tok s.data.toList) ∧ Below w.heap.size w w' := by
  have HM := Lib.hid (MineT.zero w)
  have HW := Lib.hid (fun x => below_box w (.cells x 101))
  by_cases hq : s[0].toNat = 34
  · have HG := Lib.hid (oliteral_any s (by omega) h0)
    have HV := Lib.hid (tok_q h0 hq)
    have b1 : ((s[0].toNat : Int) == 34) = true := beq_iff_eq.2 (by omega)
    rw [HV.out]
    generalize lt4 (litr [] (s.data.toList.drop 1)) = r at HG ⊢
    clear HV hq
    go_enter Tryz.func65, Tryz.ntmps65
    go_wp2_with fail
    refine (HG.out _).mono ?_; rintro e w5 ⟨hG, hb5⟩
    obtain ⟨⟨pk, pt, pn, pl⟩, E, rfl, hE⟩ := hG
    have HE := Lib.hid hE
    clear hE
    simp only [T.val]
    obtain ⟨⟨p, d0, d1, d2, d3⟩, g0, g1, g2, g3⟩ := HM.out.below hb5 (by simp)
    simp only [Nat.zero_add] at d0 d1 d2 d3
    have HB := Lib.hid (below_2 (HW.out _) hb5)
    go_wp2_with fail
    obtain ⟨q0, q1, q2, q3⟩ := storedT (w := w5) (b := w.heap.size) (p := p) ⟨d0, d1, d2, d3⟩ ⟨pk, pt, pn, pl⟩
    simp only [Nat.zero_add] at q0 q1 q2 q3
    refine bodyPost_ret (v := .tuple #[.agg #[.int .i64 pk, .string pt, .int .i64 pn, .int .i64 pl], .int .i64 E, .int .i64 r.2.2]) (by simp [results, Tryz.results65, go_sem, q0, q1, q2, q3]) rfl ⟨⟨⟨pk, pt, pn, pl⟩, E, rfl, HE.out⟩, storedT_below HB.out (Nat.le_refl _) _ _ _ _⟩
  · have b1 : ((s[0].toNat : Int) == 34) = false := beq_eq_false_iff_ne.2 (by omega)
    have HLd := Lib.hid (olead_any s)
    obtain ⟨d, hd⟩ : ∃ d : ByteArray, d = ⟨(s.data.toList.takeWhile part).toArray⟩ := ⟨_, rfl⟩
    have hdl : d.data.toList = s.data.toList.takeWhile part := by rw [hd]
    rw [← hd] at HLd
    have hp := lead_pos h0 hdl
    have he := empty_of (s := d)
    cases hpt : part s[0]
    · have hz := hp.2 hpt
      rw [decide_eq_true hz] at he
      have HK := Lib.hid (omark_any s (by omega) h0)
      cases hm : mark s.data.toList
      · have HV := Lib.hid (tok_none h0 hq hpt hm)
        rw [hm] at HK
        clear hd hdl hp hpt hz hm hq
        go_enter Tryz.func65, Tryz.ntmps65
        go_wp2_with fail
        refine (HLd.out _).mono ?_; rintro e w2 ⟨rfl, hb2⟩
        go_wp2_with fail
        refine (HK.out _).mono ?_; rintro e w3 ⟨⟨m, rfl, hmm⟩, rfl⟩
        have hme : m.toList.isEmpty = true := by rw [Lib.toList_data, hmm]; rfl
        clear hmm
        obtain ⟨⟨p, d0, d1, d2, d3⟩, g0, g1, g2, g3⟩ := HM.out.below hb2 (by simp)
        simp only [Nat.zero_add] at d0 d1 d2 d3
        have HB := Lib.hid (below_2 (HW.out _) hb2)
        go_wp2_with fail
        obtain ⟨q0, q1, q2, q3⟩ := storedT (w := w3) (b := w.heap.size) (p := p) ⟨d0, d1, d2, d3⟩ ⟨0, ⟨#[]⟩, 0, 0⟩
        simp only [Nat.zero_add] at q0 q1 q2 q3
        refine bodyPost_ret (v := .tuple #[.agg #[.int .i64 0, .string ⟨#[]⟩, .int .i64 0, .int .i64 0], .int .i64 0, .int .i64 5]) (by simp [results, Tryz.results65, go_sem, q0, q1, q2, q3]) rfl ⟨GivesQ.err zeroT 0 HV.out (by decide) rfl, storedT_below HB.out (Nat.le_refl _) _ _ _ _⟩
      · rename_i m
        have HV := Lib.hid (tok_mk h0 hq hpt hm)
        rw [hm] at HK
        have hma := marks_all m (mark_some hm).1
        have hml := (mark_some hm).2.length_le
        rw [← size_len] at hml
        have HMl : Hid (1 ≤ m.length ∧ m.length ≤ 2 ∧ m.length ≤ s.size) := ⟨hma.1, hma.2.1, hml⟩
        have HLen : Hid (s.size - (s.data.toList.drop m.length).length = m.length) := by show _ = _; rw [List.length_drop, ← size_len]; omega
        clear hd hdl hp hpt hz hm hq hma hml
        go_enter Tryz.func65, Tryz.ntmps65
        go_wp2_with fail
        refine (HLd.out _).mono ?_; rintro e w2 ⟨rfl, hb2⟩
        go_wp2_with fail
        refine (HK.out _).mono ?_; rintro e w3 ⟨⟨y, rfl, hmm⟩, rfl⟩
        have hmz : y.size = m.length := by rw [size_len, hmm]; rfl
        have hme : y.toList.isEmpty = false := by rw [empty_of]; exact decide_eq_false (by have := HMl.out; omega)
        have HC := Lib.hid (oclone_any y (by have := HMl.out; omega))
        have HY : Hid (ofTok ⟨5, m, 0, 0⟩ = (⟨5, y, 0, 0⟩ : T)) := by show _ = _; unfold ofTok; congr 1; exact bytes_eq (by rw [hmm]; rfl)
        have HYs := Lib.hid hmz
        clear hmm hmz
        go_wp2_with fail
        refine (HC.out _).mono ?_; rintro e w4 ⟨rfl, hb4⟩
        obtain ⟨⟨p, d0, d1, d2, d3⟩, g0, g1, g2, g3⟩ := (HM.out.below hb2 (by simp)).below hb4 (HM.out.below hb2 (by simp)).lt
        simp only [Nat.zero_add] at d0 d1 d2 d3
        have HB := Lib.hid (below_2 (below_2 (HW.out _) hb2) hb4)
        go_wp2_with fail
        obtain ⟨q0, q1, q2, q3⟩ := storedT (w := w4) (b := w.heap.size) (p := p) ⟨d0, d1, d2, d3⟩ ⟨5, y, 0, 0⟩
        simp only [Nat.zero_add] at q0 q1 q2 q3
        refine bodyPost_ret (v := .tuple #[.agg #[.int .i64 5, .string y, .int .i64 0, .int .i64 0], .int .i64 (y.size : Int), .int .i64 0]) (by simp [results, Tryz.results65, go_sem, q0, q1, q2, q3]) rfl ⟨GivesQ.tok ⟨5, y, 0, 0⟩ y.size HV.out HY.out (by rw [HLen.out, HYs.out]) rfl, storedT_below HB.out (Nat.le_refl _) _ _ _ _⟩
    · obtain ⟨hz, hz2, hz3⟩ := hp.1 hpt
      rw [decide_eq_false (by omega)] at he
      have HG := Lib.hid (oword_any d (by omega) hz (by rw [hz3 hz]; exact hpt))
      have HT := Lib.hid (fun e => tok_wq (e := e) h0 hq hpt hdl)
      generalize tok s.data.toList = r at HT ⊢
      clear hd hdl hp hpt hz hz2 hz3 hq
      go_enter Tryz.func65, Tryz.ntmps65
      go_wp2_with fail
      refine (HLd.out _).mono ?_; rintro e w2 ⟨rfl, hb2⟩
      go_wp2_with fail
      refine (HG.out _).mono ?_; rintro e w5 ⟨hG0, hb5⟩
      have hG := HT.out _ hG0
      obtain ⟨⟨pk, pt, pn, pl⟩, E, hee, hE⟩ := hG
      have HE := Lib.hid hE
      subst hee
      clear hE hG0
      simp only [T.val]
      obtain ⟨⟨p, d0, d1, d2, d3⟩, g0, g1, g2, g3⟩ := (HM.out.below hb2 (by simp)).below hb5 (HM.out.below hb2 (by simp)).lt
      simp only [Nat.zero_add] at d0 d1 d2 d3
      have HB := Lib.hid (below_2 (below_2 (HW.out _) hb2) hb5)
      go_wp2_with fail
      obtain ⟨q0, q1, q2, q3⟩ := storedT (w := w5) (b := w.heap.size) (p := p) ⟨d0, d1, d2, d3⟩ ⟨pk, pt, pn, pl⟩
      simp only [Nat.zero_add] at q0 q1 q2 q3
      refine bodyPost_ret (v := .tuple #[.agg #[.int .i64 pk, .string pt, .int .i64 pn, .int .i64 pl], .int .i64 E, .int .i64 r.2.2]) (by simp [results, Tryz.results65, go_sem, q0, q1, q2, q3]) rfl ⟨⟨⟨pk, pt, pn, pl⟩, E, rfl, HE.out⟩, storedT_below HB.out (Nat.le_refl _) _ _ _ _⟩
end Go.Proofs.YteglaeopaocilaaGreatDoor.L
namespace Go.Proofs.YteglaeopaocilaaGreatDoor.L
open Go.RowKit

theorem skp_com : ∀ l : Str, skp true l = skp false (l.dropWhile noLf)
  | [] => rfl
  | c :: r => by
    rw [skp, List.dropWhile_cons]
    by_cases h : c.toNat = 10
    · rw [if_pos h, if_neg (by unfold noLf; rw [decide_eq_false (fun h2 => h2 h)]; decide), skp, if_neg (by omega), if_pos (by omega)]
    · rw [if_neg h, if_pos (by unfold noLf; exact decide_eq_true h), skp_com r]
theorem skp_blank : ∀ l : Str, skp false l = skp false (l.dropWhile blank)
  | [] => rfl
  | c :: r => by
    rw [List.dropWhile_cons]
    by_cases h : c.toNat = 32 ∨ c.toNat = 9 ∨ c.toNat = 10
    · rw [if_pos (show blank c = true from decide_eq_true h), skp, if_neg (by omega), if_pos h, skp_blank r]
    · rw [if_neg (by rw [show blank c = false from decide_eq_false h]; decide)]
theorem drop_take (p : UInt8 → Bool) (l : Str) : l.drop (l.takeWhile p).length = l.dropWhile p := by
  have h := List.drop_left (l₁ := l.takeWhile p) (l₂ := l.dropWhile p)
  rwa [List.takeWhile_append_dropWhile] at h
theorem gap_skp (l : Str) : skp false (l.drop (gap l)) = skp false l := by
  match l with
  | [] => rfl
  | c :: r =>
    unfold gap; simp only
    by_cases h : c.toNat = 35
    · rw [if_pos h, drop_take, ← skp_com (c :: r), skp, skp, if_neg (by omega), if_pos h]
    · rw [if_neg h, drop_take, ← skp_blank]
theorem gap_no {c : UInt8} {r : Str} (h : gap (c :: r) = 0) : skp false (c :: r) = c :: r := by
  unfold gap at h; simp only at h
  by_cases h1 : c.toNat = 35
  · rw [if_pos h1, List.takeWhile_cons, if_pos (by unfold noLf; exact decide_eq_true (by omega))] at h
    simp at h
  · rw [if_neg h1, List.takeWhile_cons] at h
    by_cases h2 : c.toNat = 32 ∨ c.toNat = 9 ∨ c.toNat = 10
    · rw [if_pos (show blank c = true from decide_eq_true h2)] at h
      simp at h
    · rw [skp, if_neg h1, if_neg h2]
theorem tkz_skp {N : Nat} {l l' : Str} (h : skp false l = skp false l') : tkz N l = tkz N l' := by
  cases hs : skp false l' with
  | nil => rw [tkz_end hs, tkz_end (h.trans hs)]
  | cons c r =>
    by_cases he : (tok (c :: r)).2.2 = 0
    · rw [tkz_ok hs he, tkz_ok (h.trans hs) he]
    · rw [tkz_err hs he, tkz_err (h.trans hs) he]
def strSz (v : Value) : Nat := match v with | .string t => t.size | _ => 0
theorem nf_cut (t : Str) (g : Nat) : nf t = nf (t.take g) + nf (t.drop g) := by rw [← nf_app, List.take_append_drop]
theorem rest_0 {s : ByteArray} (he : (tok s.data.toList).2.2 = 0) : s.data.toList.drop (s.size - (tok s.data.toList).2.1.length) = (tok s.data.toList).2.1 ∧ 0 < s.size - (tok s.data.toList).2.1.length := by
  have := rest_drop (s := s) (k := 0) (Nat.zero_le _) (by rw [List.drop_zero]; exact he)
  rwa [List.drop_zero] at this
theorem tok_nf {l : Str} (he : (tok l).2.2 = 0) : nf (tok l).2.1 = nf l := by
  obtain ⟨b1, b2, _⟩ := tok_back he
  obtain ⟨_, _, _, _, _, _, _, hp⟩ := txt_head b1
  conv => rhs; rw [b2]
  rw [nf_app, nf_prt hp, Nat.zero_add]
set_option maxHeartbeats 4000000 in
set_option maxRecDepth 100000 in
theorem otz_any (s : ByteArray) (w : World) :
    Calls Tryz.prog 29 #[.string s] w fun e w' => GivesT e w' (tz s.data.toList) ∧ Below w.heap.size w w' := by
  by_cases hbig : 16384 < s.size
  · have HV : Hid (tz s.data.toList = ([], 0, 2)) := by show _ = _; unfold tz; rw [if_pos (by rw [← size_len]; exact hbig)]
    go_enter Tryz.func29, Tryz.ntmps29
    go_wp2
    go_ret3
    exact ⟨GivesT.no HV.out rfl, Below.refl _ _⟩
  · have HV : Hid (tz s.data.toList = tkz (nf s.data.toList) s.data.toList) := by show _ = _; unfold tz; rw [if_neg (by rw [← size_len]; exact hbig)]
    rw [HV.out]
    clear HV
    have hN0 := nf_len s.data.toList
    rw [← size_len] at hN0
    obtain ⟨N, hN⟩ : ∃ N, nf s.data.toList = N := ⟨_, rfl⟩
    rw [hN] at hN0 ⊢
    obtain ⟨R, hR⟩ : ∃ R, tkz N s.data.toList = R := ⟨_, rfl⟩
    rw [hR]
    have HR : Hid (joinT [] (tkz N s.data.toList) = R) := by show _ = _; rw [joinT_nil, hR]
    have HN0 : Hid (0 + nf s.data.toList = N) := by show _ = _; rw [hN, Nat.zero_add]
    have hsz : s.size ≤ 16384 := by omega
    clear hN hR
    go_enter Tryz.func29, Tryz.ntmps29
    go_wp2_with fail
    go_loopw [5, 6, 7] (fun s5 s6 s7 wr => ∃ (t : ByteArray) (acc : List Tok) (q : Nat), s7 = .string t ∧ s6 = .int .i64 ((q : Int) + 1) ∧ t.size ≤ s.size ∧ q ≤ N ∧ Hid (q + nf t.data.toList = N) ∧ acc.length + t.size ≤ s.size ∧ Hid (joinT acc (tkz N t.data.toList) = R) ∧ Hid (wr.ownsRow w.heap.size 101 4 s5 (acc.map ofTok).length (pc (acc.map ofTok))) ∧ Below w.heap.size w wr) (fun _ _ s7 _ => strSz s7)
    case atStart => exact ⟨s, [], 0, rfl, rfl, Nat.le_refl _, Nat.zero_le _, HN0, by simp, HR, World.ownsRow_nil _ _ _ _, Below.refl _ _⟩
    case round =>
      obtain ⟨t, acc, q, rfl, rfl, hts, hqN, HQ, hacc, HJ, HO, hb⟩ := hrel
      have hzr := hb.size
      have hem := empty_of (s := t)
      by_cases ht0 : t.size = 0
      · rw [decide_eq_true ht0] at hem
        have hj := HJ.out
        rw [show t.data.toList = [] from List.length_eq_zero_iff.1 (by rw [← size_len]; exact ht0), tkz_end (by rfl), joinT_end] at hj
        have HV := Lib.hid hj.symm
        obtain ⟨a1, c1, rfl, hS1⟩ := own_sl HO.out
        have HS1 := Lib.hid hS1
        clear hj hS1 HO HJ
        go_wp2_with fail
        go_ret3
        exact ⟨GivesT.ok HV.out rfl rfl HS1.out, hb⟩
      · rw [decide_eq_false ht0] at hem
        have hpos : 0 < t.size := by omega
        have HG := Lib.hid (ogap_any t (by omega) hpos)
        have hgl := gap_le t.data.toList
        rw [← size_len] at hgl
        by_cases hg : 0 < gap t.data.toList
        · have hsk := gap_skp t.data.toList
          have hnf := nf_cut t.data.toList (gap t.data.toList)
          generalize gap t.data.toList = g at HG hgl hg hsk hnf
          obtain ⟨d1, hd1, hz1, hs1⟩ := slice_to t g hgl
          obtain ⟨d2, hd2, hz2, hs2⟩ := slice_from t g hgl
          have hct := fun w => ocount_any d1 w
          rw [hd1] at hct
          rw [← hd2] at hsk hnf
          have HJ2 : Hid (joinT acc (tkz N d2.data.toList) = R) := by show _ = _; rw [tkz_skp hsk]; exact HJ.out
          have hqq := HQ.out
          generalize nf (t.data.toList.take g) = m at hct hnf
          have HQ2 : Hid (q + m + nf d2.data.toList = N) := by show _ = _; omega
          have HCt := Lib.hid hct
          have hqm : q + m ≤ N := by omega
          clear hd1 hd2 hsk hnf hct hqq HJ HQ
          go_wp2_with fail
          refine (HG.out _).mono ?_; rintro e w2 ⟨rfl, hb2⟩
          go_wp2_with fail
          refine (HCt.out _).mono ?_; rintro e w3 ⟨rfl, he⟩; obtain rfl : w2 = w3 := he.symm
          have HO2 := Lib.hid (own_belowO HO.out hb2)
          go_wp2_with fail
          go_roundw
          case rel => exact ⟨d2, acc, q + m, rfl, by go_num, by omega, hqm, HQ2, by omega, HJ2, HO2.out, below_2 hb hb2⟩
          case measure => simp [strSz]; omega
        · have hg0 : gap t.data.toList = 0 := by omega
          rw [hg0] at HG
          have hc := list_cons hpos
          have hskp : skp false t.data.toList = t[0] :: t.data.toList.drop 1 := by rw [hc]; rw [hc] at hg0; exact gap_no hg0
          have HF := Lib.hid (ofirst_any t (by omega) hpos)
          have hqq := HQ.out
          by_cases he : (tok t.data.toList).2.2 = 0
          · have hj := HJ.out
            rw [tkz_ok hskp (by rw [← hc]; exact he), joinT_joinT, ← hc] at hj
            rw [show 1 + (N : Int) - (nf t.data.toList : Int) = (q : Int) + 1 by omega] at hj
            obtain ⟨g1, g2⟩ := rest_0 he
            have g3 := tok_nf he
            generalize tok t.data.toList = r at HF he hj g1 g2 g3
            obtain ⟨⟨tk, tt, tn, tl⟩, rest, te⟩ := r
            simp only at he hj g1 g2 g3
            subst he
            obtain ⟨E2, hE2⟩ : ∃ E2, t.size - rest.length = E2 := ⟨_, rfl⟩
            rw [hE2] at g1 g2
            obtain ⟨d2, hd2, hz2, hs2⟩ := slice_from t E2 (by omega)
            rw [g1] at hd2
            rw [← hd2] at hj g3
            have HJ2 := Lib.hid hj
            have HQ2 : Hid (q + nf d2.data.toList = N) := by show _ = _; rw [g3]; exact hqq
            have hmap : (acc ++ [(⟨tk, tt, tn, (q : Int) + 1⟩ : Tok)]).map ofTok = acc.map ofTok ++ [(⟨tk, ⟨tt.toArray⟩, tn, (q : Int) + 1⟩ : T)] := by rw [List.map_append]; rfl
            have HMap := Lib.hid hmap
            have hml : (acc.map ofTok).length = acc.length := List.length_map _
            have HE2 := Lib.hid hE2
            have hacc2 : (acc ++ [(⟨tk, tt, tn, (q : Int) + 1⟩ : Tok)]).length + d2.size ≤ s.size := by rw [List.length_append]; simp only [List.length_cons, List.length_nil]; omega
            clear hj hc hskp hg hg0 hqq HJ HQ g1 g3 hd2 hmap hE2
            go_wp2_with fail
            refine (HG.out _).mono ?_; rintro e w2 ⟨rfl, hb2⟩
            go_wp2_with fail
            refine (HF.out _).mono ?_; rintro e w3 ⟨⟨⟨pk, pt, pn, pl⟩, E, rfl, hE⟩, hb3⟩
            obtain ⟨hE1, hp⟩ := hE rfl
            have hp' : (⟨pk, pt, pn, pl⟩ : T) = ⟨tk, ⟨tt.toArray⟩, tn, tl⟩ := hp
            have hE3 : E = (E2 : Int) := by rw [hE1]; show ((t.size - rest.length : Nat) : Int) = _; rw [HE2.out]
            cases hp'
            subst hE3
            clear hE hE1 hp
            have hB3 := below_2 (below_2 hb hb2) hb3
            have HO3 := Lib.hid (own_belowO (own_belowO HO.out hb2) hb3)
            have hz3 := hB3.size
            simp only [T.val]
            go_wp2_with (at_builtin; refine wpList_append_pair_at rfl (.tmp 43) (.tmp 45) rfl w.heap.size u5 (acc.map ofTok) rfl (⟨tk, ⟨tt.toArray⟩, tn, (q : Int) + 1⟩ : T) (HO3.out.alloc _) (w3.heap.size + 1) rfl (by simp) (by omega) (by simp; omega) ?_; intro v1 w5 hown1 hgrow1; have hb5 := below_app (below_2 hB3 (below_box w3 _)) (by simp; omega) hgrow1 (own_ge HO3.out))
            go_roundw
            case rel => exact ⟨d2, acc ++ [⟨tk, tt, tn, (q : Int) + 1⟩], q, rfl, rfl, by omega, hqN, HQ2, hacc2, HJ2, (by unfold Hid; rw [HMap.out]; exact hown1), hb5⟩
            case measure => simp [strSz]; omega
          · have hj := HJ.out
            rw [tkz_err hskp (by rw [← hc]; exact he), joinT_err (by rw [← hc]; exact he), ← hc] at hj
            rw [show 1 + (N : Int) - (nf t.data.toList : Int) = (q : Int) + 1 by omega] at hj
            have HV := Lib.hid hj.symm
            have bE : ((tok t.data.toList).2.2 != 0) = true := bne_iff_ne.2 he
            generalize tok t.data.toList = r at HF HV bE
            clear hj hc hskp hg hg0 hqq he HJ HQ
            go_wp2_with fail
            refine (HG.out _).mono ?_; rintro e w2 ⟨rfl, hb2⟩
            go_wp2_with fail
            refine (HF.out _).mono ?_; rintro e w3 ⟨⟨⟨pk, pt, pn, pl⟩, E, rfl, -⟩, hb3⟩
            simp only [T.val]
            go_wp2_with fail
            go_ret3
            exact ⟨GivesT.no HV.out rfl, below_2 (below_2 (below_2 hb hb2) hb3) (below_box w3 _)⟩
end Go.Proofs.YteglaeopaocilaaGreatDoor.L
namespace Go.Proofs.YteglaeopaocilaaGreatDoor.L
open Go.RowKit

/-! ### Tokenize -/

theorem joinT_len (t : Tok) (r : Res) : (joinT [t] r).1.length ≤ r.1.length + 1 := by
  unfold joinT
  split
  · exact Nat.zero_le _
  · simp
theorem tkzF_len : ∀ (n N : Nat) (l : Str), (tkzF n N l).1.length ≤ n
  | 0, _, _ => Nat.le_refl _
  | n + 1, N, l => by
    rw [tkzF.eq_def]
    simp only
    split
    · exact Nat.zero_le _
    · split
      · exact Nat.zero_le _
      · refine Nat.le_trans (joinT_len _ _) (Nat.succ_le_succ (tkzF_len n N _))
theorem tz_len1 (s : ByteArray) : ((tz s.data.toList).1.map ofTok).length ≤ s.size + 1 := by
  rw [List.length_map]
  unfold tz
  split
  · exact Nat.zero_le _
  · rw [size_len]; exact tkzF_len _ _ _
theorem tz_len (s : ByteArray) : ((tz s.data.toList).1.map ofTok).length ≤ 16385 := by
  by_cases h : 16384 < s.size
  · rw [List.length_map]
    unfold tz
    rw [if_pos (by rw [← size_len]; exact h)]
    exact Nat.zero_le _
  · have := tz_len1 s
    omega
/-! ### Join -/

end Go.Proofs.YteglaeopaocilaaGreatDoor.L
namespace Go.Proofs.YteglaeopaocilaaGreatDoor.L
open Go.RowKit

def l1 (t : Tok) : Tok := { t with line := 1 }
end Go.Proofs.YteglaeopaocilaaGreatDoor.L
namespace Go.Proofs.YteglaeopaocilaaGreatDoor.L
open Go.RowKit

theorem valid_len {t : Tok} (h : valid t = true) (hn : t.n ≤ 9223372036854775807) : t.t.length ≤ 130 := by
  by_cases h3 : t.k = 3
  · unfold valid at h
    rw [if_neg (by omega), if_neg (by omega), if_pos h3] at h
    simp only [Bool.and_eq_true, decide_eq_true_eq] at h
    rw [h.1]; exact Nat.zero_le _
  · by_cases h4 : t.k = 4
    · unfold valid at h
      rw [if_neg (by omega), if_neg (by omega), if_neg (by omega), if_pos h4] at h
      simp only [Bool.and_eq_true, decide_eq_true_eq] at h
      omega
    · have := txt_len h hn
      rw [txt_o h3 h4] at this
      exact this
end Go.Proofs.YteglaeopaocilaaGreatDoor.L
