/-
  What the program's own Tokenize of layer 7 returns.
-/
import Derived.Test.YtaimmcibdepejaaDoorLOF
namespace Go.Proofs.YtaimmcibdepejaaDoor.L
open Go.RowKit

theorem skp_com : ∀ l : Str, skp true l = skp false (l.dropWhile noLf)
  | [] => rfl
  | c :: r => by
    rw [skp, List.dropWhile_cons]
    by_cases h : c.toNat = 10
    · rw [if_pos h, if_neg (by unfold noLf; rw [decide_eq_false (fun h2 => h2 h)]; decide), skp, if_neg (by omega), if_pos (by omega)]
    · rw [if_neg h, if_pos (by unfold noLf; exact decide_eq_true h), skp_com r]
theorem skp_blank : ∀ l : Str, skp false l = skp false (l.dropWhile blank)
  | [] => rfl
  | c :: r => by
    rw [List.dropWhile_cons]
    by_cases h : c.toNat = 32 ∨ c.toNat = 9 ∨ c.toNat = 10
    · rw [if_pos (show blank c = true from decide_eq_true h), skp, if_neg (by omega), if_pos h, skp_blank r]
    · rw [if_neg (by rw [show blank c = false from decide_eq_false h]; decide)]
theorem drop_take (p : UInt8 → Bool) (l : Str) : l.drop (l.takeWhile p).length = l.dropWhile p := by
  have h := List.drop_left (l₁ := l.takeWhile p) (l₂ := l.dropWhile p)
  rwa [List.takeWhile_append_dropWhile] at h
theorem gap_skp (l : Str) : skp false (l.drop (gap l)) = skp false l := by
  match l with
  | [] => rfl
  | c :: r =>
    unfold gap; simp only
    by_cases h : c.toNat = 35
    · rw [if_pos h, drop_take, ← skp_com (c :: r), skp, skp, if_neg (by omega), if_pos h]
    · rw [if_neg h, drop_take, ← skp_blank]
theorem gap_no {c : UInt8} {r : Str} (h : gap (c :: r) = 0) : skp false (c :: r) = c :: r := by
  unfold gap at h; simp only at h
  by_cases h1 : c.toNat = 35
  · rw [if_pos h1, List.takeWhile_cons, if_pos (by unfold noLf; exact decide_eq_true (by omega))] at h
    simp at h
  · rw [if_neg h1, List.takeWhile_cons] at h
    by_cases h2 : c.toNat = 32 ∨ c.toNat = 9 ∨ c.toNat = 10
    · rw [if_pos (show blank c = true from decide_eq_true h2)] at h
      simp at h
    · rw [skp, if_neg h1, if_neg h2]
theorem tkz_skp {N : Nat} {l l' : Str} (h : skp false l = skp false l') : tkz N l = tkz N l' := by
  cases hs : skp false l' with
  | nil => rw [tkz_end hs, tkz_end (h.trans hs)]
  | cons c r =>
    by_cases he : (tok (c :: r)).2.2 = 0
    · rw [tkz_ok hs he, tkz_ok (h.trans hs) he]
    · rw [tkz_err hs he, tkz_err (h.trans hs) he]
def strSz (v : Value) : Nat := match v with | .string t => t.size | _ => 0
theorem nf_cut (t : Str) (g : Nat) : nf t = nf (t.take g) + nf (t.drop g) := by rw [← nf_app, List.take_append_drop]
theorem rest_0 {s : ByteArray} (he : (tok s.data.toList).2.2 = 0) : s.data.toList.drop (s.size - (tok s.data.toList).2.1.length) = (tok s.data.toList).2.1 ∧ 0 < s.size - (tok s.data.toList).2.1.length := by
  have := rest_drop (s := s) (k := 0) (Nat.zero_le _) (by rw [List.drop_zero]; exact he)
  rwa [List.drop_zero] at this
theorem tok_nf {l : Str} (he : (tok l).2.2 = 0) : nf (tok l).2.1 = nf l := by
  obtain ⟨b1, b2, _⟩ := tok_back he
  obtain ⟨_, _, _, _, _, _, _, hp⟩ := txt_head b1
  conv => rhs; rw [b2]
  rw [nf_app, nf_prt hp, Nat.zero_add]
set_option maxHeartbeats 4000000 in
set_option maxRecDepth 100000 in
theorem otz_any (s : ByteArray) (w : World) :
    Calls Tryd.prog 12 #[.string s] w fun e w' => GivesT e w' (tz s.data.toList) ∧ Below w.heap.size w w' := by
  by_cases hbig : 16384 < s.size
  · have HV : Hid (tz s.data.toList = ([], 0, 2)) := by show _ = _; unfold tz; rw [if_pos (by rw [← size_len]; exact hbig)]
    go_enter Tryd.func12, Tryd.ntmps12
    go_wp2
    go_ret3
    exact ⟨GivesT.no HV.out rfl, Below.refl _ _⟩
  · have HV : Hid (tz s.data.toList = tkz (nf s.data.toList) s.data.toList) := by show _ = _; unfold tz; rw [if_neg (by rw [← size_len]; exact hbig)]
    rw [HV.out]
    clear HV
    have hN0 := nf_len s.data.toList
    rw [← size_len] at hN0
    obtain ⟨N, hN⟩ : ∃ N, nf s.data.toList = N := ⟨_, rfl⟩
    rw [hN] at hN0 ⊢
    obtain ⟨R, hR⟩ : ∃ R, tkz N s.data.toList = R := ⟨_, rfl⟩
    rw [hR]
    have HR : Hid (joinT [] (tkz N s.data.toList) = R) := by show _ = _; rw [joinT_nil, hR]
    have HN0 : Hid (0 + nf s.data.toList = N) := by show _ = _; rw [hN, Nat.zero_add]
    have hsz : s.size ≤ 16384 := by omega
    clear hN hR
    go_enter Tryd.func12, Tryd.ntmps12
    go_wp2_with fail
    go_loopw [5, 6, 7] (fun s5 s6 s7 wr => ∃ (t : ByteArray) (acc : List Tok) (q : Nat), s7 = .string t ∧ s6 = .int .i64 ((q : Int) + 1) ∧ t.size ≤ s.size ∧ q ≤ N ∧ Hid (q + nf t.data.toList = N) ∧ acc.length + t.size ≤ s.size ∧ Hid (joinT acc (tkz N t.data.toList) = R) ∧ Hid (wr.ownsRow w.heap.size 31 4 s5 (acc.map ofTok).length (pc (acc.map ofTok))) ∧ Below w.heap.size w wr) (fun _ _ s7 _ => strSz s7)
    case atStart => exact ⟨s, [], 0, rfl, rfl, Nat.le_refl _, Nat.zero_le _, HN0, by simp, HR, World.ownsRow_nil _ _ _ _, Below.refl _ _⟩
    case round =>
      obtain ⟨t, acc, q, rfl, rfl, hts, hqN, HQ, hacc, HJ, HO, hb⟩ := hrel
      have hzr := hb.size
      have hem := empty_of (s := t)
      by_cases ht0 : t.size = 0
      · rw [decide_eq_true ht0] at hem
        have hj := HJ.out
        rw [show t.data.toList = [] from List.length_eq_zero_iff.1 (by rw [← size_len]; exact ht0), tkz_end (by rfl), joinT_end] at hj
        have HV := Lib.hid hj.symm
        obtain ⟨a1, c1, rfl, hS1⟩ := own_sl HO.out
        have HS1 := Lib.hid hS1
        clear hj hS1 HO HJ
        go_wp2_with fail
        go_ret3
        exact ⟨GivesT.ok HV.out rfl rfl HS1.out, hb⟩
      · rw [decide_eq_false ht0] at hem
        have hpos : 0 < t.size := by omega
        have HG := Lib.hid (ogap_any t (by omega) hpos)
        have hgl := gap_le t.data.toList
        rw [← size_len] at hgl
        by_cases hg : 0 < gap t.data.toList
        · have hsk := gap_skp t.data.toList
          have hnf := nf_cut t.data.toList (gap t.data.toList)
          generalize gap t.data.toList = g at HG hgl hg hsk hnf
          obtain ⟨d1, hd1, hz1, hs1⟩ := slice_to t g hgl
          obtain ⟨d2, hd2, hz2, hs2⟩ := slice_from t g hgl
          have hct := fun w => ocount_any d1 w
          rw [hd1] at hct
          rw [← hd2] at hsk hnf
          have HJ2 : Hid (joinT acc (tkz N d2.data.toList) = R) := by show _ = _; rw [tkz_skp hsk]; exact HJ.out
          have hqq := HQ.out
          generalize nf (t.data.toList.take g) = m at hct hnf
          have HQ2 : Hid (q + m + nf d2.data.toList = N) := by show _ = _; omega
          have HCt := Lib.hid hct
          have hqm : q + m ≤ N := by omega
          clear hd1 hd2 hsk hnf hct hqq HJ HQ
          go_wp2_with fail
          refine (HG.out _).mono ?_; rintro e w2 ⟨rfl, hb2⟩
          go_wp2_with fail
          refine (HCt.out _).mono ?_; rintro e w3 ⟨rfl, he⟩; obtain rfl : w2 = w3 := he.symm
          have HO2 := Lib.hid (own_belowO HO.out hb2)
          go_wp2_with fail
          go_roundw
          case rel => exact ⟨d2, acc, q + m, rfl, by go_num, by omega, hqm, HQ2, by omega, HJ2, HO2.out, below_2 hb hb2⟩
          case measure => simp [strSz]; omega
        · have hg0 : gap t.data.toList = 0 := by omega
          rw [hg0] at HG
          have hc := list_cons hpos
          have hskp : skp false t.data.toList = t[0] :: t.data.toList.drop 1 := by rw [hc]; rw [hc] at hg0; exact gap_no hg0
          have HF := Lib.hid (ofirst_any t (by omega) hpos)
          have hqq := HQ.out
          by_cases he : (tok t.data.toList).2.2 = 0
          · have hj := HJ.out
            rw [tkz_ok hskp (by rw [← hc]; exact he), joinT_joinT, ← hc] at hj
            rw [show 1 + (N : Int) - (nf t.data.toList : Int) = (q : Int) + 1 by omega] at hj
            obtain ⟨g1, g2⟩ := rest_0 he
            have g3 := tok_nf he
            generalize tok t.data.toList = r at HF he hj g1 g2 g3
            obtain ⟨⟨tk, tt, tn, tl⟩, rest, te⟩ := r
            simp only at he hj g1 g2 g3
            subst he
            obtain ⟨E2, hE2⟩ : ∃ E2, t.size - rest.length = E2 := ⟨_, rfl⟩
            rw [hE2] at g1 g2
            obtain ⟨d2, hd2, hz2, hs2⟩ := slice_from t E2 (by omega)
            rw [g1] at hd2
            rw [← hd2] at hj g3
            have HJ2 := Lib.hid hj
            have HQ2 : Hid (q + nf d2.data.toList = N) := by show _ = _; rw [g3]; exact hqq
            have hmap : (acc ++ [(⟨tk, tt, tn, (q : Int) + 1⟩ : Tok)]).map ofTok = acc.map ofTok ++ [(⟨tk, ⟨tt.toArray⟩, tn, (q : Int) + 1⟩ : T)] := by rw [List.map_append]; rfl
            have HMap := Lib.hid hmap
            have hml : (acc.map ofTok).length = acc.length := List.length_map _
            have HE2 := Lib.hid hE2
            have hacc2 : (acc ++ [(⟨tk, tt, tn, (q : Int) + 1⟩ : Tok)]).length + d2.size ≤ s.size := by rw [List.length_append]; simp only [List.length_cons, List.length_nil]; omega
            clear hj hc hskp hg hg0 hqq HJ HQ g1 g3 hd2 hmap hE2
            go_wp2_with fail
            refine (HG.out _).mono ?_; rintro e w2 ⟨rfl, hb2⟩
            go_wp2_with fail
            refine (HF.out _).mono ?_; rintro e w3 ⟨⟨⟨pk, pt, pn, pl⟩, E, rfl, hE⟩, hb3⟩
            obtain ⟨hE1, hp⟩ := hE rfl
            have hp' : (⟨pk, pt, pn, pl⟩ : T) = ⟨tk, ⟨tt.toArray⟩, tn, tl⟩ := hp
            have hE3 : E = (E2 : Int) := by rw [hE1]; show ((t.size - rest.length : Nat) : Int) = _; rw [HE2.out]
            cases hp'
            subst hE3
            clear hE hE1 hp
            have hB3 := below_2 (below_2 hb hb2) hb3
            have HO3 := Lib.hid (own_belowO (own_belowO HO.out hb2) hb3)
            have hz3 := hB3.size
            simp only [T.val]
            go_wp2_with (at_builtin; refine wpList_append_pair_at rfl (.tmp 43) (.tmp 45) rfl w.heap.size u5 (acc.map ofTok) rfl (⟨tk, ⟨tt.toArray⟩, tn, (q : Int) + 1⟩ : T) (HO3.out.alloc _) (w3.heap.size + 1) rfl (by simp) (by omega) (by simp; omega) ?_; intro v1 w5 hown1 hgrow1; have hb5 := below_app (below_2 hB3 (below_box w3 _)) (by simp; omega) hgrow1 (own_ge HO3.out))
            go_roundw
            case rel => exact ⟨d2, acc ++ [⟨tk, tt, tn, (q : Int) + 1⟩], q, rfl, rfl, by omega, hqN, HQ2, hacc2, HJ2, (by unfold Hid; rw [HMap.out]; exact hown1), hb5⟩
            case measure => simp [strSz]; omega
          · have hj := HJ.out
            rw [tkz_err hskp (by rw [← hc]; exact he), joinT_err (by rw [← hc]; exact he), ← hc] at hj
            rw [show 1 + (N : Int) - (nf t.data.toList : Int) = (q : Int) + 1 by omega] at hj
            have HV := Lib.hid hj.symm
            have bE : ((tok t.data.toList).2.2 != 0) = true := bne_iff_ne.2 he
            generalize tok t.data.toList = r at HF HV bE
            clear hj hc hskp hg hg0 hqq he HJ HQ
            go_wp2_with fail
            refine (HG.out _).mono ?_; rintro e w2 ⟨rfl, hb2⟩
            go_wp2_with fail
            refine (HF.out _).mono ?_; rintro e w3 ⟨⟨⟨pk, pt, pn, pl⟩, E, rfl, -⟩, hb3⟩
            simp only [T.val]
            go_wp2_with fail
            go_ret3
            exact ⟨GivesT.no HV.out rfl, below_2 (below_2 (below_2 hb hb2) hb3) (below_box w3 _)⟩
end Go.Proofs.YtaimmcibdepejaaDoor.L
