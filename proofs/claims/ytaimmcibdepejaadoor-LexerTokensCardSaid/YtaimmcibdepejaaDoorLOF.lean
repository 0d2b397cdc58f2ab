/-
  What the program's own functions of layer 7 return: intToken, wordToken, firstToken.
-/
import Derived.Test.YtaimmcibdepejaaDoorLOE
import Derived.Test.YtaimmcibdepejaaDoorParse
namespace Go.Proofs.YtaimmcibdepejaaDoor.L
open Go.RowKit

theorem GivesQ.tok {e : Ending} {s : ByteArray} {r : Tok × Str × Int} {t : Tok} {rest : Str} (p : T) (E : Nat) (h : r = (t, rest, 0)) (hp : ofTok t = p) (hE : s.size - rest.length = E) (he : e = .returned (.tuple #[p.val, .int .i64 (E : Int), .int .i64 0])) : GivesQ e s r := by
  subst h hp hE; exact ⟨_, _, he, fun _ => ⟨rfl, rfl⟩⟩
/-- the token that a word gives -/
def wq (s : Str) : Tok × Str × Int := ((word s).1, [], (word s).2)
def iq (s : Str) : Tok × Str × Int := (⟨3, [], pV s, 0⟩, [], pE s)
set_option maxHeartbeats 1000000 in
set_option maxRecDepth 100000 in
theorem oint_any (s : ByteArray) (hs : s.size ≤ 1000000000000000) (w : World) :
    Calls Tryd.prog 68 #[.string s] w fun e w' => GivesQ e s (iq s.data.toList) ∧ Below w.heap.size w w' := by
  have hp := fun w => parse_any s w (by omega)
  have HW := Lib.hid (fun x => below_box w (.cells x 31))
  by_cases he : pE s.data.toList = 0
  · have HV : Hid (iq s.data.toList = (⟨3, [], pV s.data.toList, 0⟩, [], 0)) := by show _ = _; unfold iq; rw [he]
    rw [he] at hp
    have HP := Lib.hid hp
    generalize pV s.data.toList = n at HP HV
    clear hp he
    go_enter Tryd.func68, Tryd.ntmps68
    go_wp2_with fail
    refine (HP.out _).mono ?_; rintro e w1 ⟨rfl, rfl⟩
    go_wp2_with fail
    refine bodyPost_ret (v := .tuple #[.agg #[.int .i64 3, .string ⟨#[]⟩, .int .i64 n, .int .i64 0], .int .i64 (s.size : Int), .int .i64 0]) (by simp [results, Tryd.results68, go_sem]) rfl ⟨GivesQ.tok ⟨3, ⟨#[]⟩, n, 0⟩ s.size HV.out rfl rfl rfl, HW.out _⟩
  · have bE : (pE s.data.toList != 0) = true := bne_iff_ne.2 he
    have HE := Lib.hid he
    have HP := Lib.hid hp
    have HV : Hid ((iq s.data.toList).2.2 = pE s.data.toList) := rfl
    generalize pV s.data.toList = n at HP
    generalize pE s.data.toList = x at HP HV bE HE
    clear hp he
    go_enter Tryd.func68, Tryd.ntmps68
    go_wp2_with fail
    refine (HP.out _).mono ?_; rintro e w1 ⟨rfl, rfl⟩
    go_wp2_with fail
    refine bodyPost_ret (v := .tuple #[.agg #[.int .i64 0, .string ⟨#[]⟩, .int .i64 0, .int .i64 0], .int .i64 0, .int .i64 x]) (by simp [results, Tryd.results68, go_sem]) rfl ⟨GivesQ.err zeroT 0 HV.out HE.out rfl, HW.out _⟩
theorem of_self (k n : Int) (s : ByteArray) : ofTok ⟨k, s.data.toList, n, 0⟩ = (⟨k, s, n, 0⟩ : T) := rfl
theorem wq_int {e : Ending} {s : ByteArray} (h0 : 0 < s.size) (h1 : letter s[0] = false) (h : GivesQ e s (iq s.data.toList)) : GivesQ e s (wq s.data.toList) := by
  obtain ⟨p, E, he, hE⟩ := h
  by_cases h2 : pE s.data.toList = 0
  · have e1 : wq s.data.toList = iq s.data.toList := by unfold wq iq; rw [wd_int h0 h1 h2, h2]
    rw [e1]; exact ⟨p, E, he, hE⟩
  · have e1 : (wq s.data.toList).2.2 = pE s.data.toList := by unfold wq; rw [wd_bad h0 h1 h2]
    exact GivesQ.err p E e1 h2 he
theorem under_bad {s : ByteArray} (h0 : 0 < s.size) (h : s[0].toNat = 95) : (wq s.data.toList).2.2 = 5 := by
  have h1 : letter s[0] = false := by
    have : ¬ letter s[0] = true := fun h2 => by rw [letter_iff] at h2; omega
    simpa using this
  have h2 : pE s.data.toList = 5 := by
    rw [list_cons h0, show s[0] = 95 from UInt8.toNat_inj.1 h]
    rfl
  unfold wq
  rw [wd_bad h0 h1 (by rw [h2]; decide)]
  exact h2
theorem wq_kw {s : ByteArray} (h : isKw s.data.toList = true) : wq s.data.toList = (⟨2, s.data.toList, 0, 0⟩, [], 0) := by unfold wq; rw [wd_kw h]
theorem wq_name {s : ByteArray} (h : isName s.data.toList = true) : wq s.data.toList = (⟨1, s.data.toList, 0, 0⟩, [], 0) := by unfold wq; rw [wd_name h]
theorem wq_long {s : ByteArray} (h0 : 0 < s.size) (h1 : letter s[0] = true) (h2 : isKw s.data.toList = false) (h3 : isName s.data.toList = false) : (wq s.data.toList).2.2 = 2 := by unfold wq; rw [wd_long h0 h1 h2 h3]
set_option maxHeartbeats 2000000 in
set_option maxRecDepth 100000 in
theorem oword_any (s : ByteArray) (hs : s.size ≤ 100000000000000) (h0 : 0 < s.size) (hpt : part s[0] = true) (w : World) :
    Calls Tryd.prog 52 #[.string s] w fun e w' => GivesQ e s (wq s.data.toList) ∧ Below w.heap.size w w' := by
  have HM := Lib.hid (MineT.zero w)
  have HW := Lib.hid (fun x => below_box w (.cells x 31))
  have HK := Lib.hid (oisKw_any s)
  have HI := Lib.hid (oname_any s)
  have HC := Lib.hid (oclone_any s (by omega))
  have HG := Lib.hid (oint_any s (by omega))
  have h1 := fun w => oletter_any (s[0].toNat : Int) w
  have h2 := fun w => odigit_any (s[0].toNat : Int) w
  rw [ltr_of] at h1
  rw [dgt_of] at h2
  have hb := byte_lt s[0]
  cases hk : isKw s.data.toList
  · rw [hk] at HK
    cases hn : isName s.data.toList
    · rw [hn] at HI
      cases hl : letter s[0]
      · rw [hl] at h1
        have HL := Lib.hid h1
        have HWI := Lib.hid (fun e => wq_int (e := e) h0 hl)
        cases hd : digit s[0]
        · rw [hd] at h2
          have HD := Lib.hid h2
          have h95 : s[0].toNat = 95 := by
            unfold part at hpt
            rw [hl, hd] at hpt
            exact of_decide_eq_true hpt
          have HV := Lib.hid (under_bad h0 h95)
          clear h1 h2 hk hn hl hd hpt h95 HWI
          go_enter Tryd.func52, Tryd.ntmps52
          go_wp2_with fail
          refine (HK.out _).mono ?_; rintro e w1 ⟨rfl, rfl⟩
          go_wp2_with fail
          refine (HI.out _).mono ?_; rintro e w2 ⟨rfl, hb2⟩
          obtain ⟨⟨p, d0, d1, d2, d3⟩, g0, g1, g2, g3⟩ := HM.out.below hb2 (by simp)
          simp only [Nat.zero_add] at d0 d1 d2 d3
          have HB := Lib.hid (below_2 (HW.out _) hb2)
          go_wp2_with fail
          refine (HL.out _).mono ?_; rintro e w3 ⟨rfl, rfl⟩
          go_wp2_with fail
          refine (HD.out _).mono ?_; rintro e w4 ⟨rfl, rfl⟩
          go_wp2_with fail
          obtain ⟨q0, q1, q2, q3⟩ := storedT (w := w4) (b := w.heap.size) (p := p) ⟨d0, d1, d2, d3⟩ ⟨0, ⟨#[]⟩, 0, 0⟩
          simp only [Nat.zero_add] at q0 q1 q2 q3
          refine bodyPost_ret (v := .tuple #[.agg #[.int .i64 0, .string ⟨#[]⟩, .int .i64 0, .int .i64 0], .int .i64 0, .int .i64 5]) (by simp [results, Tryd.results52, go_sem, q0, q1, q2, q3]) rfl ⟨GivesQ.err zeroT 0 HV.out (by decide) rfl, storedT_below HB.out (Nat.le_refl _) _ _ _ _⟩
        · rw [hd] at h2
          have HD := Lib.hid h2
          generalize wq s.data.toList = r at HWI ⊢
          clear h1 h2 hk hn hl hd hpt
          go_enter Tryd.func52, Tryd.ntmps52
          go_wp2_with fail
          refine (HK.out _).mono ?_; rintro e w1 ⟨rfl, rfl⟩
          go_wp2_with fail
          refine (HI.out _).mono ?_; rintro e w2 ⟨rfl, hb2⟩
          go_wp2_with fail
          refine (HL.out _).mono ?_; rintro e w3 ⟨rfl, rfl⟩
          go_wp2_with fail
          refine (HD.out _).mono ?_; rintro e w4 ⟨rfl, rfl⟩
          go_wp2_with fail
          refine (HG.out _).mono ?_; rintro e w5 ⟨hG, hb5⟩
          have hG2 := HWI.out _ hG
          obtain ⟨⟨pk, pt, pn, pl⟩, E, he, hE⟩ := hG2
          have HE := Lib.hid hE
          subst he
          clear hG hE
          simp only [T.val]
          obtain ⟨⟨p, d0, d1, d2, d3⟩, g0, g1, g2, g3⟩ := (HM.out.below hb2 (by simp)).below hb5 (HM.out.below hb2 (by simp)).lt
          simp only [Nat.zero_add] at d0 d1 d2 d3
          have HB := Lib.hid (below_2 (below_2 (HW.out _) hb2) hb5)
          go_wp2_with fail
          obtain ⟨q0, q1, q2, q3⟩ := storedT (w := w5) (b := w.heap.size) (p := p) ⟨d0, d1, d2, d3⟩ ⟨pk, pt, pn, pl⟩
          simp only [Nat.zero_add] at q0 q1 q2 q3
          refine bodyPost_ret (v := .tuple #[.agg #[.int .i64 pk, .string pt, .int .i64 pn, .int .i64 pl], .int .i64 E, .int .i64 r.2.2]) (by simp [results, Tryd.results52, go_sem, q0, q1, q2, q3]) rfl ⟨⟨⟨pk, pt, pn, pl⟩, E, rfl, HE.out⟩, storedT_below HB.out (Nat.le_refl _) _ _ _ _⟩
      · rw [hl] at h1
        have HL := Lib.hid h1
        have HV := Lib.hid (wq_long h0 hl hk hn)
        clear h1 h2 hk hn hl hpt
        go_enter Tryd.func52, Tryd.ntmps52
        go_wp2_with fail
        refine (HK.out _).mono ?_; rintro e w1 ⟨rfl, rfl⟩
        go_wp2_with fail
        refine (HI.out _).mono ?_; rintro e w2 ⟨rfl, hb2⟩
        obtain ⟨⟨p, d0, d1, d2, d3⟩, g0, g1, g2, g3⟩ := HM.out.below hb2 (by simp)
        simp only [Nat.zero_add] at d0 d1 d2 d3
        have HB := Lib.hid (below_2 (HW.out _) hb2)
        go_wp2_with fail
        refine (HL.out _).mono ?_; rintro e w3 ⟨rfl, rfl⟩
        go_wp2_with fail
        obtain ⟨q0, q1, q2, q3⟩ := storedT (w := w3) (b := w.heap.size) (p := p) ⟨d0, d1, d2, d3⟩ ⟨0, ⟨#[]⟩, 0, 0⟩
        simp only [Nat.zero_add] at q0 q1 q2 q3
        refine bodyPost_ret (v := .tuple #[.agg #[.int .i64 0, .string ⟨#[]⟩, .int .i64 0, .int .i64 0], .int .i64 0, .int .i64 2]) (by simp [results, Tryd.results52, go_sem, q0, q1, q2, q3]) rfl ⟨GivesQ.err zeroT 0 HV.out (by decide) rfl, storedT_below HB.out (Nat.le_refl _) _ _ _ _⟩
    · rw [hn] at HI
      have HV := Lib.hid (wq_name hn)
      clear h1 h2 hk hn hpt
      go_enter Tryd.func52, Tryd.ntmps52
      go_wp2_with fail
      refine (HK.out _).mono ?_; rintro e w1 ⟨rfl, rfl⟩
      go_wp2_with fail
      refine (HI.out _).mono ?_; rintro e w2 ⟨rfl, hb2⟩
      go_wp2_with fail
      refine (HC.out _).mono ?_; rintro e w3 ⟨rfl, hb3⟩
      obtain ⟨⟨p, d0, d1, d2, d3⟩, g0, g1, g2, g3⟩ := (HM.out.below hb2 (by simp)).below hb3 (HM.out.below hb2 (by simp)).lt
      simp only [Nat.zero_add] at d0 d1 d2 d3
      have HB := Lib.hid (below_2 (below_2 (HW.out _) hb2) hb3)
      go_wp2_with fail
      obtain ⟨q0, q1, q2, q3⟩ := storedT (w := w3) (b := w.heap.size) (p := p) ⟨d0, d1, d2, d3⟩ ⟨1, s, 0, 0⟩
      simp only [Nat.zero_add] at q0 q1 q2 q3
      refine bodyPost_ret (v := .tuple #[.agg #[.int .i64 1, .string s, .int .i64 0, .int .i64 0], .int .i64 (s.size : Int), .int .i64 0]) (by simp [results, Tryd.results52, go_sem, q0, q1, q2, q3]) rfl ⟨GivesQ.tok ⟨1, s, 0, 0⟩ s.size HV.out rfl rfl rfl, storedT_below HB.out (Nat.le_refl _) _ _ _ _⟩
  · rw [hk] at HK
    have HV := Lib.hid (wq_kw hk)
    clear h1 h2 hk hpt
    go_enter Tryd.func52, Tryd.ntmps52
    go_wp2_with fail
    refine (HK.out _).mono ?_; rintro e w1 ⟨rfl, rfl⟩
    go_wp2_with fail
    refine (HC.out _).mono ?_; rintro e w3 ⟨rfl, hb3⟩
    obtain ⟨⟨p, d0, d1, d2, d3⟩, g0, g1, g2, g3⟩ := HM.out.below hb3 (by simp)
    simp only [Nat.zero_add] at d0 d1 d2 d3
    have HB := Lib.hid (below_2 (HW.out _) hb3)
    go_wp2_with fail
    obtain ⟨q0, q1, q2, q3⟩ := storedT (w := w3) (b := w.heap.size) (p := p) ⟨d0, d1, d2, d3⟩ ⟨2, s, 0, 0⟩
    simp only [Nat.zero_add] at q0 q1 q2 q3
    refine bodyPost_ret (v := .tuple #[.agg #[.int .i64 2, .string s, .int .i64 0, .int .i64 0], .int .i64 (s.size : Int), .int .i64 0]) (by simp [results, Tryd.results52, go_sem, q0, q1, q2, q3]) rfl ⟨GivesQ.tok ⟨2, s, 0, 0⟩ s.size HV.out rfl rfl rfl, storedT_below HB.out (Nat.le_refl _) _ _ _ _⟩
theorem tok_q {s : ByteArray} (h : 0 < s.size) (hq : s[0].toNat = 34) : tok s.data.toList = lt4 (litr [] (s.data.toList.drop 1)) := by
  have := tok_lit (s := s) (k := 0) h hq
  rwa [List.drop_zero] at this
theorem tok_wq {e : Ending} {s d : ByteArray} (h : 0 < s.size) (h1 : ¬ s[0].toNat = 34) (h2 : part s[0] = true) (hd : d.data.toList = s.data.toList.takeWhile part) (hG : GivesQ e d (wq d.data.toList)) : GivesQ e s (tok s.data.toList) := by
  have e1 := tok_w (s := s) (d := d) (k := 0) h h1 h2 (by rw [List.drop_zero]; exact hd)
  rw [List.drop_zero] at e1
  obtain ⟨p, E, he, hE⟩ := hG
  rw [e1]
  refine ⟨p, E, he, fun h0 => ?_⟩
  obtain ⟨g1, g2⟩ := hE h0
  refine ⟨?_, g2⟩
  rw [g1]
  show ((d.size - 0 : Nat) : Int) = ((s.size - (s.data.toList.dropWhile part).length : Nat) : Int)
  have := take_drop_len part s.data.toList
  rw [← hd, ← size_len, ← size_len] at this
  omega
theorem tok_mk {s : ByteArray} {m : Str} (h : 0 < s.size) (h1 : ¬ s[0].toNat = 34) (h2 : part s[0] = false) (hm : mark s.data.toList = some m) : tok s.data.toList = (⟨5, m, 0, 0⟩, s.data.toList.drop m.length, 0) := by
  rw [list_cons h] at hm ⊢
  unfold tok; simp only
  rw [if_neg h1, if_neg (by rw [h2]; decide), hm]
theorem tok_none {s : ByteArray} (h : 0 < s.size) (h1 : ¬ s[0].toNat = 34) (h2 : part s[0] = false) (hm : mark s.data.toList = none) : (tok s.data.toList).2.2 = 5 := by
  rw [list_cons h] at hm ⊢
  unfold tok; simp only
  rw [if_neg h1, if_neg (by rw [h2]; decide), hm]
theorem lead_pos {s d : ByteArray} (h : 0 < s.size) (hd : d.data.toList = s.data.toList.takeWhile part) : (part s[0] = true → 0 < d.size ∧ d.size ≤ s.size ∧ ∀ h2 : 0 < d.size, d[0] = s[0]) ∧ (part s[0] = false → d.size = 0) := by
  have hl : d.size ≤ s.size := by
    rw [size_len d, hd, size_len s]; exact (List.takeWhile_sublist part).length_le
  rw [list_cons h] at hd
  constructor
  · intro hp
    rw [List.takeWhile_cons, if_pos hp] at hd
    have hz : 0 < d.size := by rw [size_len, hd]; simp
    refine ⟨hz, hl, fun h2 => ?_⟩
    rw [list_cons h2] at hd
    exact (List.cons.inj hd).1
  · intro hp
    rw [List.takeWhile_cons, if_neg (by rw [hp]; decide)] at hd
    rw [size_len, hd]; rfl
set_option maxHeartbeats 2000000 in
set_option maxRecDepth 100000 in
theorem ofirst_any (s : ByteArray) (hs : s.size ≤ 100000000000000) (h0 : 0 < s.size) (w : World) :
    Calls Tryd.prog 28 #[.string s] w fun e w' => GivesQ e s (tok s.data.toList) ∧ Below w.heap.size w w' := by
  have HM := Lib.hid (MineT.zero w)
  have HW := Lib.hid (fun x => below_box w (.cells x 31))
  by_cases hq : s[0].toNat = 34
  · have HG := Lib.hid (oliteral_any s (by omega) h0)
    have HV := Lib.hid (tok_q h0 hq)
    have b1 : ((s[0].toNat : Int) == 34) = true := beq_iff_eq.2 (by omega)
    rw [HV.out]
    generalize lt4 (litr [] (s.data.toList.drop 1)) = r at HG ⊢
    clear HV hq
    go_enter Tryd.func28, Tryd.ntmps28
    go_wp2_with fail
    refine (HG.out _).mono ?_; rintro e w5 ⟨hG, hb5⟩
    obtain ⟨⟨pk, pt, pn, pl⟩, E, rfl, hE⟩ := hG
    have HE := Lib.hid hE
    clear hE
    simp only [T.val]
    obtain ⟨⟨p, d0, d1, d2, d3⟩, g0, g1, g2, g3⟩ := HM.out.below hb5 (by simp)
    simp only [Nat.zero_add] at d0 d1 d2 d3
    have HB := Lib.hid (below_2 (HW.out _) hb5)
    go_wp2_with fail
    obtain ⟨q0, q1, q2, q3⟩ := storedT (w := w5) (b := w.heap.size) (p := p) ⟨d0, d1, d2, d3⟩ ⟨pk, pt, pn, pl⟩
    simp only [Nat.zero_add] at q0 q1 q2 q3
    refine bodyPost_ret (v := .tuple #[.agg #[.int .i64 pk, .string pt, .int .i64 pn, .int .i64 pl], .int .i64 E, .int .i64 r.2.2]) (by simp [results, Tryd.results28, go_sem, q0, q1, q2, q3]) rfl ⟨⟨⟨pk, pt, pn, pl⟩, E, rfl, HE.out⟩, storedT_below HB.out (Nat.le_refl _) _ _ _ _⟩
  · have b1 : ((s[0].toNat : Int) == 34) = false := beq_eq_false_iff_ne.2 (by omega)
    have HLd := Lib.hid (olead_any s)
    obtain ⟨d, hd⟩ : ∃ d : ByteArray, d = ⟨(s.data.toList.takeWhile part).toArray⟩ := ⟨_, rfl⟩
    have hdl : d.data.toList = s.data.toList.takeWhile part := by rw [hd]
    rw [← hd] at HLd
    have hp := lead_pos h0 hdl
    have he := empty_of (s := d)
    cases hpt : part s[0]
    · have hz := hp.2 hpt
      rw [decide_eq_true hz] at he
      have HK := Lib.hid (omark_any s (by omega) h0)
      cases hm : mark s.data.toList
      · have HV := Lib.hid (tok_none h0 hq hpt hm)
        rw [hm] at HK
        clear hd hdl hp hpt hz hm hq
        go_enter Tryd.func28, Tryd.ntmps28
        go_wp2_with fail
        refine (HLd.out _).mono ?_; rintro e w2 ⟨rfl, hb2⟩
        go_wp2_with fail
        refine (HK.out _).mono ?_; rintro e w3 ⟨⟨m, rfl, hmm⟩, rfl⟩
        have hme : m.toList.isEmpty = true := by rw [Lib.toList_data, hmm]; rfl
        clear hmm
        obtain ⟨⟨p, d0, d1, d2, d3⟩, g0, g1, g2, g3⟩ := HM.out.below hb2 (by simp)
        simp only [Nat.zero_add] at d0 d1 d2 d3
        have HB := Lib.hid (below_2 (HW.out _) hb2)
        go_wp2_with fail
        obtain ⟨q0, q1, q2, q3⟩ := storedT (w := w3) (b := w.heap.size) (p := p) ⟨d0, d1, d2, d3⟩ ⟨0, ⟨#[]⟩, 0, 0⟩
        simp only [Nat.zero_add] at q0 q1 q2 q3
        refine bodyPost_ret (v := .tuple #[.agg #[.int .i64 0, .string ⟨#[]⟩, .int .i64 0, .int .i64 0], .int .i64 0, .int .i64 5]) (by simp [results, Tryd.results28, go_sem, q0, q1, q2, q3]) rfl ⟨GivesQ.err zeroT 0 HV.out (by decide) rfl, storedT_below HB.out (Nat.le_refl _) _ _ _ _⟩
      · rename_i m
        have HV := Lib.hid (tok_mk h0 hq hpt hm)
        rw [hm] at HK
        have hma := marks_all m (mark_some hm).1
        have hml := (mark_some hm).2.length_le
        rw [← size_len] at hml
        have HMl : Hid (1 ≤ m.length ∧ m.length ≤ 2 ∧ m.length ≤ s.size) := ⟨hma.1, hma.2.1, hml⟩
        have HLen : Hid (s.size - (s.data.toList.drop m.length).length = m.length) := by show _ = _; rw [List.length_drop, ← size_len]; omega
        clear hd hdl hp hpt hz hm hq hma hml
        go_enter Tryd.func28, Tryd.ntmps28
        go_wp2_with fail
        refine (HLd.out _).mono ?_; rintro e w2 ⟨rfl, hb2⟩
        go_wp2_with fail
        refine (HK.out _).mono ?_; rintro e w3 ⟨⟨y, rfl, hmm⟩, rfl⟩
        have hmz : y.size = m.length := by rw [size_len, hmm]; rfl
        have hme : y.toList.isEmpty = false := by rw [empty_of]; exact decide_eq_false (by have := HMl.out; omega)
        have HC := Lib.hid (oclone_any y (by have := HMl.out; omega))
        have HY : Hid (ofTok ⟨5, m, 0, 0⟩ = (⟨5, y, 0, 0⟩ : T)) := by show _ = _; unfold ofTok; congr 1; exact bytes_eq (by rw [hmm]; rfl)
        have HYs := Lib.hid hmz
        clear hmm hmz
        go_wp2_with fail
        refine (HC.out _).mono ?_; rintro e w4 ⟨rfl, hb4⟩
        obtain ⟨⟨p, d0, d1, d2, d3⟩, g0, g1, g2, g3⟩ := (HM.out.below hb2 (by simp)).below hb4 (HM.out.below hb2 (by simp)).lt
        simp only [Nat.zero_add] at d0 d1 d2 d3
        have HB := Lib.hid (below_2 (below_2 (HW.out _) hb2) hb4)
        go_wp2_with fail
        obtain ⟨q0, q1, q2, q3⟩ := storedT (w := w4) (b := w.heap.size) (p := p) ⟨d0, d1, d2, d3⟩ ⟨5, y, 0, 0⟩
        simp only [Nat.zero_add] at q0 q1 q2 q3
        refine bodyPost_ret (v := .tuple #[.agg #[.int .i64 5, .string y, .int .i64 0, .int .i64 0], .int .i64 (y.size : Int), .int .i64 0]) (by simp [results, Tryd.results28, go_sem, q0, q1, q2, q3]) rfl ⟨GivesQ.tok ⟨5, y, 0, 0⟩ y.size HV.out HY.out (by rw [HLen.out, HYs.out]) rfl, storedT_below HB.out (Nat.le_refl _) _ _ _ _⟩
    · obtain ⟨hz, hz2, hz3⟩ := hp.1 hpt
      rw [decide_eq_false (by omega)] at he
      have HG := Lib.hid (oword_any d (by omega) hz (by rw [hz3 hz]; exact hpt))
      have HT := Lib.hid (fun e => tok_wq (e := e) h0 hq hpt hdl)
      generalize tok s.data.toList = r at HT ⊢
      clear hd hdl hp hpt hz hz2 hz3 hq
      go_enter Tryd.func28, Tryd.ntmps28
      go_wp2_with fail
      refine (HLd.out _).mono ?_; rintro e w2 ⟨rfl, hb2⟩
      go_wp2_with fail
      refine (HG.out _).mono ?_; rintro e w5 ⟨hG0, hb5⟩
      have hG := HT.out _ hG0
      obtain ⟨⟨pk, pt, pn, pl⟩, E, hee, hE⟩ := hG
      have HE := Lib.hid hE
      subst hee
      clear hE hG0
      simp only [T.val]
      obtain ⟨⟨p, d0, d1, d2, d3⟩, g0, g1, g2, g3⟩ := (HM.out.below hb2 (by simp)).below hb5 (HM.out.below hb2 (by simp)).lt
      simp only [Nat.zero_add] at d0 d1 d2 d3
      have HB := Lib.hid (below_2 (below_2 (HW.out _) hb2) hb5)
      go_wp2_with fail
      obtain ⟨q0, q1, q2, q3⟩ := storedT (w := w5) (b := w.heap.size) (p := p) ⟨d0, d1, d2, d3⟩ ⟨pk, pt, pn, pl⟩
      simp only [Nat.zero_add] at q0 q1 q2 q3
      refine bodyPost_ret (v := .tuple #[.agg #[.int .i64 pk, .string pt, .int .i64 pn, .int .i64 pl], .int .i64 E, .int .i64 r.2.2]) (by simp [results, Tryd.results28, go_sem, q0, q1, q2, q3]) rfl ⟨⟨⟨pk, pt, pn, pl⟩, E, rfl, HE.out⟩, storedT_below HB.out (Nat.le_refl _) _ _ _ _⟩
end Go.Proofs.YtaimmcibdepejaaDoor.L
