/-
  What the reference of layer 7 returns: Tokenize, Feeds: contracts, one a function.
-/
import Derived.Test.YtaimmcibdepejaaDoorLRefsE
namespace Go.Proofs.YtaimmcibdepejaaDoor.L
open Go.RowKit

/-- a token as the program has it -/
def ofTok (t : Tok) : T := ⟨t.k, ⟨t.t.toArray⟩, t.n, t.line⟩
theorem ofTok_tok (t : Tok) : (ofTok t).tok = t := rfl
theorem toks_of (l : List Tok) : toks (l.map ofTok) = l := by
  unfold toks
  rw [List.map_map]
  exact List.map_id l
/-- tokens, a line and an error -/
def GivesT (e : Ending) (w' : World) (r : Res) : Prop := ∃ a c, e = .returned (.tuple #[.slice a (r.1.map ofTok).length c, .int .i64 r.2.1, .int .i64 r.2.2]) ∧ Sl w' a c (r.1.map ofTok)
theorem GivesT.no {e : Ending} {w' : World} {r : Res} {x y : Int} (hr : r = ([], x, y)) (he : e = .returned (.tuple #[.slice none 0 0, .int .i64 x, .int .i64 y])) : GivesT e w' r := by
  rw [hr]; exact ⟨none, 0, he, Sl.empty _⟩
theorem GivesT.ok {e : Ending} {w' : World} {r : Res} {l : List Tok} {xs : List T} {a1 : Option Addr} {c1 : Nat} (hr : r = (l, 0, 0)) (hx : l.map ofTok = xs) (he : e = .returned (.tuple #[.slice a1 xs.length c1, .int .i64 0, .int .i64 0])) (hS : Sl w' a1 c1 xs) : GivesT e w' r := by
  subst hx; rw [hr]; exact ⟨a1, c1, he, hS⟩
theorem nf_parts (s : ByteArray) (k : Nat) : nf s.data.toList = nf (s.data.toList.take k) + nf (s.data.toList.drop k) := by
  rw [← nf_app, List.take_append_drop]
theorem rest_drop {s : ByteArray} {k : Nat} (hk : k ≤ s.size) (he : (tok (s.data.toList.drop k)).2.2 = 0) :
    s.data.toList.drop (s.size - (tok (s.data.toList.drop k)).2.1.length) = (tok (s.data.toList.drop k)).2.1 ∧ k < s.size - (tok (s.data.toList.drop k)).2.1.length := by
  obtain ⟨b1, b2, _⟩ := tok_back he
  obtain ⟨c, r, ex, _⟩ := txt_head b1
  have hl := congrArg List.length b2
  rw [List.length_append, List.length_drop, ← size_len] at hl
  have hpos : 1 ≤ (txt (tok (s.data.toList.drop k)).1).length := by rw [ex]; simp
  generalize (tok (s.data.toList.drop k)).2.1 = rest at *
  generalize txt (tok (s.data.toList.drop k)).1 = x at *
  refine ⟨?_, by omega⟩
  rw [show s.size - rest.length = k + x.length from by omega, ← List.drop_drop, b2, List.drop_left]
theorem joinT_err {acc : List Tok} {l : List Tok} {x y : Int} (h : y ≠ 0) : joinT acc (l, x, y) = ([], x, y) := by unfold joinT; rw [if_pos h]
theorem joinT_end (acc : List Tok) : joinT acc ([], 0, 0) = (acc, 0, 0) := by unfold joinT; rw [if_neg (fun h => h rfl), List.append_nil]
theorem joinT_nil {N : Nat} {l : Str} : joinT [] (tkz N l) = tkz N l := by
  have hf := tkz_form _ N l (Nat.le_refl _)
  generalize tkz N l = r at hf
  obtain ⟨r1, r2, r3⟩ := r
  unfold joinT
  simp only at hf ⊢
  by_cases hr : r3 = 0
  · rw [if_neg (fun x => x hr), hr, hf.1 hr]; rfl
  · rw [if_pos hr, hf.2 hr]
set_option maxHeartbeats 1200000 in
set_option maxRecDepth 100000 in
theorem rtz_any (s : ByteArray) (hs : s.size ≤ 9223372036854775800) (w : World) :
    Calls Tryd.prog 19 #[.string s] w fun e w' => GivesT e w' (tz s.data.toList) ∧ Below w.heap.size w w' := by
  by_cases hbig : 16384 < s.size
  · have HV : Hid (tz s.data.toList = ([], 0, 2)) := by show _ = _; unfold tz; rw [if_pos (by rw [← size_len]; exact hbig)]
    go_enter Tryd.func19, Tryd.ntmps19
    go_wp2
    go_ret3
    exact ⟨GivesT.no HV.out rfl, Below.refl _ _⟩
  · have HV : Hid (tz s.data.toList = tkz (nf s.data.toList) s.data.toList) := by show _ = _; unfold tz; rw [if_neg (by rw [← size_len]; exact hbig)]
    rw [HV.out]
    clear HV
    have HSk := Lib.hid (fun k h w => skip_any s hs k h w)
    have HFd := Lib.hid (fun k h w => feeds_any s hs k h w)
    have HTk := Lib.hid (fun k h w => rtoken_any s (by omega) k h w)
    have HN0 := Lib.hid (nf_len s.data.toList)
    obtain ⟨N, hN⟩ : ∃ N, nf s.data.toList = N := ⟨_, rfl⟩
    rw [hN]
    have HNf := Lib.hid hN
    obtain ⟨R, hR⟩ : ∃ R, tkz N s.data.toList = R := ⟨_, rfl⟩
    rw [hR]
    have HR : Hid (joinT [] (tkz N (s.data.toList.drop 0)) = R) := by show _ = _; rw [List.drop_zero, joinT_nil, hR]
    clear hN hR
    have hsz : s.size ≤ 16384 := by omega
    have hs0 := HSk.out 0 (Nat.zero_le _)
    have hs0 : ∀ w, Calls Tryd.prog 38 #[.string s, .int .i64 0] w fun e w' => e = .returned (.int .i64 ((sk false s 0 : Nat) : Int)) ∧ w' = w := hs0
    have HS0 := Lib.hid hs0
    clear hs0 hbig
    go_enter Tryd.func19, Tryd.ntmps19
    go_wp2_with fail
    refine (HS0.out _).mono ?_; rintro e w1 ⟨rfl, rfl⟩
    go_wp2_with fail
    go_loopw [5, 6] (fun s5 s6 wr => ∃ (k : Nat) (acc : List Tok), k ≤ s.size ∧ s6 = .int .i64 ((sk false s k : Nat) : Int) ∧ acc.length ≤ k ∧ Hid (joinT acc (tkz N (s.data.toList.drop k)) = R) ∧ Hid (wr.ownsRow w1.heap.size 31 4 s5 (acc.map ofTok).length (pc (acc.map ofTok))) ∧ Below w1.heap.size w1 wr) (fun _ s6 _ => s.size - (intOf s6).toNat)
    case atStart => exact ⟨0, [], Nat.zero_le _, rfl, Nat.le_refl _, HR, World.ownsRow_nil _ _ _ _, Below.refl _ _⟩
    case round =>
      obtain ⟨k, acc, hk, rfl, hacc, HJ, HO, hb⟩ := hrel
      obtain ⟨hd, hge⟩ := sk_drop s k hk
      have hle := sk_le false s k
      have hzr := hb.size
      generalize sk false s k = p at hd hge hle ⊢
      by_cases hlt : p < s.size
      · obtain ⟨c, r, hcr⟩ : ∃ c r, s.data.toList.drop p = c :: r := ⟨_, _, drop_get s p hlt⟩
        have hskp : skp false (s.data.toList.drop k) = c :: r := by rw [← hd, hcr]
        have hline : 1 + (N : Int) - nf (c :: r) = (nf (s.data.toList.take p) : Int) + 1 := by
          have := nf_parts s p
          rw [HNf.out, hcr] at this
          omega
        have hq := nf_len (s.data.toList.take p)
        rw [List.length_take] at hq
        have HF := Lib.hid (HFd.out p hle)
        have HT := HTk.out p hlt
        by_cases he : (tok (s.data.toList.drop p)).2.2 = 0
        · have he2 : (tok (c :: r)).2.2 = 0 := by rw [← hcr]; exact he
          have hj := HJ.out
          rw [tkz_ok hskp he2, joinT_joinT, hline, ← hcr] at hj
          obtain ⟨g1, g2⟩ := rest_drop hle he
          have HT := Lib.hid HT
          rw [← g1] at hj
          obtain ⟨_, _, g3, _⟩ := tok_back he
          generalize tok (s.data.toList.drop p) = t at he hj HT g1 g2 g3
          obtain ⟨⟨tk, tt, tn, tl⟩, rest, te⟩ := t
          simp only at he hj g1 g2 g3
          subst he
          have HJ2 := Lib.hid hj
          have HSK := Lib.hid (HSk.out (s.size - rest.length) (by omega))
          generalize nf (s.data.toList.take p) = q at HF HJ2 hq
          have hmap : (acc ++ [(⟨tk, tt, tn, (q : Int) + 1⟩ : Tok)]).map ofTok = acc.map ofTok ++ [(⟨tk, ⟨tt.toArray⟩, tn, (q : Int) + 1⟩ : T)] := by rw [List.map_append]; rfl
          have HMap := Lib.hid hmap
          have hml : (acc.map ofTok).length = acc.length := List.length_map _
          obtain ⟨E2, hE2⟩ : ∃ E2, s.size - rest.length = E2 := ⟨_, rfl⟩
          rw [hE2] at HSK HJ2 g2
          have HE2 := Lib.hid hE2
          have hE2s : E2 ≤ s.size := by omega
          have HMEAS : Hid (E2 ≤ sk false s E2) := (sk_drop s E2 hE2s).2
          have hacc2 : (acc ++ [(⟨tk, tt, tn, (q : Int) + 1⟩ : Tok)]).length ≤ E2 := by rw [List.length_append]; simp; omega
          clear hd hge hcr hskp hline hj g1 hmap hE2
          go_wp2_with fail
          refine (HF.out _).mono ?_; rintro e w2 ⟨rfl, rfl⟩
          go_wp2_with fail
          refine (HT.out _).mono ?_; rintro e w3 ⟨⟨E, rfl, hE⟩, hb3⟩
          have hE3 : E = (E2 : Int) := by rw [hE rfl]; show ((s.size - rest.length : Nat) : Int) = _; rw [HE2.out]
          clear hE
          subst hE3
          have hB3 := below_2 hb hb3
          have HO3 := Lib.hid (own_belowO HO.out hb3)
          have hz3 := hB3.size
          simp only
          go_wp2_with (at_builtin; refine wpList_append_pair_at rfl (.tmp 37) (.tmp 39) rfl w1.heap.size u5 (acc.map ofTok) rfl (⟨tk, ⟨tt.toArray⟩, tn, (q : Int) + 1⟩ : T) (HO3.out.alloc _) (w3.heap.size + 1) rfl (by simp) (by omega) (by simp; omega) ?_; intro v1 w5 hown1 hgrow1; have hb5 := below_app (below_2 hB3 (below_box w3 _)) (by simp; omega) hgrow1 (own_ge HO3.out))
          refine (HSK.out _).mono ?_; rintro e w6 ⟨rfl, rfl⟩
          go_wp2_with fail
          go_roundw
          case rel => exact ⟨E2, acc ++ [⟨tk, tt, tn, (q : Int) + 1⟩], hE2s, by first | rfl | trivial, hacc2, HJ2, (by unfold Hid; rw [HMap.out]; exact hown1), hb5⟩
          case measure =>
            have := HMEAS.out
            simp [intOf]; omega
        · have he2 : (tok (c :: r)).2.2 ≠ 0 := by rw [← hcr]; exact he
          have hj := HJ.out
          rw [tkz_err hskp he2, joinT_err he2, hline, ← hcr] at hj
          have HV := Lib.hid hj.symm
          have HT := Lib.hid HT
          have bE : ((tok (s.data.toList.drop p)).2.2 != 0) = true := bne_iff_ne.2 he
          generalize nf (s.data.toList.take p) = q at HF HV hq
          generalize tok (s.data.toList.drop p) = t at bE HT HV
          obtain ⟨⟨tk, tt, tn, tl⟩, rest, te⟩ := t
          simp only at bE HV
          clear hd hge hcr hskp hline hj he he2
          go_wp2_with fail
          refine (HF.out _).mono ?_; rintro e w2 ⟨rfl, rfl⟩
          go_wp2_with fail
          refine (HT.out _).mono ?_; rintro e w3 ⟨⟨E, rfl, -⟩, hb3⟩
          simp only
          go_wp2_with fail
          go_ret3
          exact ⟨GivesT.no HV.out rfl, below_2 (below_2 hb hb3) (below_box w3 _)⟩
      · have hp : p = s.size := by omega
        have hj := HJ.out
        rw [tkz_end (by rw [← hd, hp, drop_all]), joinT_end] at hj
        have HV := Lib.hid hj.symm
        obtain ⟨a1, c1, rfl, hS1⟩ := own_sl HO.out
        have HS1 := Lib.hid hS1
        clear hd hj hS1 HO hp
        go_wp2_with fail
        go_ret3
        exact ⟨GivesT.ok HV.out rfl rfl HS1.out, hb⟩
end Go.Proofs.YtaimmcibdepejaaDoor.L
