/-
  What the program's own Decode of layer 6 returns: its contract.
-/
import Derived.Test.YtieloegadhgipaaSOL
namespace Go.Proofs.Ytieloegadhgipaa.S
open Go.RowKit
open Go.Proofs.Ytieloegadhgipaa.V (ret_bool ret_int ret_string below_2 below_box below_box2 size_len tripV)

theorem own_setCell {w : World} {B n size b o : Nat} {e : TypeId} {v u : Value} {xs : List Value} (h : w.ownsRow B e size v n xs) (hne : v.ownBlock ≠ some b) : (w.setCell ⟨b, o, none⟩ u).ownsRow B e size v n xs := by
  refine ⟨h.1, ?_⟩
  rcases h.2 with h0 | ⟨g, cap, cur, rfl, hB, hg, r⟩
  · exact Or.inl h0
  · exact Or.inr ⟨g, cap, cur, rfl, hB, (Below.heap_setCell _ _ _ _ (fun e => hne (by show some g = some b; rw [e]))).trans hg, r⟩
theorem own_stored {w : World} {B n size b : Nat} {e : TypeId} {v x y z u : Value} {xs : List Value} (h : w.ownsRow B e size v n xs) (hne : v.ownBlock ≠ some b) :
    ((((w.setCell ⟨b, 0, none⟩ x).setCell ⟨b, 1, none⟩ y).setCell ⟨b, 2, none⟩ z).setCell ⟨b, 3, none⟩ u).ownsRow B e size v n xs := own_setCell (own_setCell (own_setCell (own_setCell h hne) hne) hne) hne
theorem dp_ok {l : List UInt8} {a : Int} (hx : W.xE l a 24 = 0) (hd : (V.ds l (W.xN l a 24)).2.2 = 0) : dpV l a = (ofPr (W.xV l a 24, (V.ds l (W.xN l a 24)).1), (V.ds l (W.xN l a 24)).2.1, 0) := by unfold dpV; rw [if_pos hx, if_pos hd]
theorem dp_val {l : List UInt8} {a : Int} (hx : W.xE l a 24 = 0) (hd : (V.ds l (W.xN l a 24)).2.2 ≠ 0) : dpV l a = (zeroP, 0, (V.ds l (W.xN l a 24)).2.2) := by unfold dpV; rw [if_pos hx, if_neg hd]
theorem dp_key {l : List UInt8} {a : Int} (hx : W.xE l a 24 ≠ 0) : dpV l a = (zeroP, 0, W.xE l a 24) := by unfold dpV; rw [if_neg hx]
set_option maxHeartbeats 4000000 in
set_option maxRecDepth 100000 in
theorem odecs_any (s : ByteArray) (hs : s.size ≤ 1000000000000) (at_ : Int) (h0 : -9223372036854775808 ≤ at_) (h1 : at_ ≤ 9223372036854775807) (w : World) :
    Calls Try.prog 25 #[.string s, .int .i64 at_] w fun e w' => GivesD e w' (decs s.data.toList at_) ∧ Below w.heap.size w w' := by
  have hC := fun w => W.takeCount_any s at_ 2147483647 h0 h1 (by decide) (by decide) hs w
  have HP := Lib.hid (fun a h0 h1 w => odp_any s hs a h0 h1 w)
  have hsl := size_len s
  by_cases e0 : W.xE s.data.toList at_ 2147483647 = 0
  · have hbd := x_bd e0
    have HE := Lib.hid (fun r (hr : rds s.data.toList (W.cV s.data.toList at_ 2147483647).toNat (W.cN s.data.toList at_ 2147483647) = r) => decs_end e0 hr)
    rw [e0] at hC
    have HC := Lib.hid hC
    generalize decs s.data.toList at_ = R at HE ⊢
    obtain ⟨n, hn⟩ : ∃ n : Nat, W.cV s.data.toList at_ 2147483647 = n := ⟨(W.cV s.data.toList at_ 2147483647).toNat, by omega⟩
    rw [hn] at HC HE hbd
    generalize W.cN s.data.toList at_ 2147483647 = a0 at HC HE hbd
    clear hC hn e0
    rw [show ((n : Int).toNat) = n from rfl] at HE
    obtain ⟨b0, b1, b2, b3, b4, b5⟩ := hbd
    go_enter Try.func25, Try.ntmps25
    go_wp2_with fail
    refine (HC.out _).mono ?_; rintro e w1 ⟨rfl, rfl⟩
    have hsz := hs
    go_wp2_with fail
    go_loopw [8, 10, 23] (fun s8 s10 s23 wr => ∃ (i : Nat) (a : Int) (l : List Pr), i ≤ n ∧ s23 = .int .i64 i ∧ s8 = .int .i64 a ∧ 0 ≤ a ∧ a ≤ s.size ∧ l.length = i ∧ Hid (Rs s.data.toList n a0 i l a) ∧ Hid (Okl s l) ∧ Hid (wr.ownsRow w.heap.size 33 4 s10 (l.map ofPr).length (pc (l.map ofPr))) ∧ Below w.heap.size w wr) (fun _ _ s23 _ => n - (intOf s23).toNat)
    case atStart => exact ⟨0, a0, [], Nat.zero_le _, rfl, rfl, b2, by omega, rfl, Rs.start _ _ _, fun p hp => (by cases hp), World.ownsRow_nil _ _ _ _, Below.refl _ _⟩
    case round =>
      obtain ⟨i, a, l, hi, rfl, rfl, ha0, ha1, hl, HR, HK, HO, hb⟩ := hrel
      have hzr := hb.size
      have HB := Lib.hid hb
      have HM := Lib.hid (MineP.zero wr)
      have HB1 := Lib.hid (below_2 hb (below_box wr (.cells #[.string ⟨#[]⟩, .int .i64 0, .int .i64 0, .string ⟨#[]⟩] 33)))
      by_cases hlt : i < n
      · have hp := HP.out a (by omega) (by omega)
        by_cases ex : W.xE s.data.toList a 24 = 0
        · by_cases ed : (V.ds s.data.toList (W.xN s.data.toList a 24)).2.2 = 0
          · have HN := Lib.hid (HR.out.next hlt ex ed)
            have hdb := ds_bd ed
            have hdh := ds_held s.data.toList (W.xN s.data.toList a 24)
            have hxl := xV_len (l := s.data.toList) (a := a) (m := 24)
            have HK2 : Hid (Okl s (l ++ [(W.xV s.data.toList a 24, (V.ds s.data.toList (W.xN s.data.toList a 24)).1)])) := by
              intro p hp
              rcases List.mem_append.1 hp with hp | hp
              · exact HK.out p hp
              · obtain rfl := List.mem_singleton.1 hp
                exact ⟨by show (W.xV s.data.toList a 24).length ≤ _; omega, by show (V.ds s.data.toList (W.xN s.data.toList a 24)).1.s.length ≤ _; omega, hdh.2.1, hdh.2.2⟩
            rw [dp_ok ex ed] at hp
            simp only [pairV] at hp
            generalize (V.ds s.data.toList (W.xN s.data.toList a 24)).2.1 = nx at hp HN hdb
            generalize (W.xV s.data.toList a 24, (V.ds s.data.toList (W.xN s.data.toList a 24)).1) = pr at hp HN HK2
            have hmap : (l ++ [pr]).map ofPr = l.map ofPr ++ [ofPr pr] := by rw [List.map_append]; rfl
            have HMap := Lib.hid hmap
            have hll : (l.map ofPr).length = i := by rw [List.length_map]; exact hl
            generalize ofPr pr = q at hp HMap
            have HPP := Lib.hid hp
            clear ex ed hdh hmap hp hb
            go_wp2_with fail
            refine (HPP.out _).mono ?_; rintro e w3 ⟨rfl, hb3⟩
            have hM3 := HM.out.below hb3 HM.out.lt
            obtain ⟨⟨p0, d0, d1, d2, d3⟩, g0, g1, g2, g3⟩ := hM3
            simp only [Nat.zero_add] at d0 d1 d2 d3
            have hst := storedP (w := w3) (b := wr.heap.size) (p := p0) ⟨d0, d1, d2, d3⟩ q
            have HST := Lib.hid hst
            have hne : u10.ownBlock ≠ some wr.heap.size := fun e => absurd (own_lt HO.out _ e) (Nat.lt_irrefl _)
            have HO3 := Lib.hid (own_stored (x := .string q.key) (y := .int .i64 q.k) (z := .int .i64 q.n) (u := .string q.s) (own_belowO (HO.out.alloc _) hb3) hne)
            have HB3 := Lib.hid (storedP_below (below_2 HB1.out hb3) hzr (.string q.key) (.int .i64 q.k) (.int .i64 q.n) (.string q.s))
            have hz3 := HB3.out.size
            clear hst hne
            go_wp2_with (at_builtin; refine wpList_append_pair_at rfl (.tmp 35) (.tmp 37) rfl w.heap.size u10 (l.map ofPr) rfl q HO3.out _ rfl (by simp) (by omega) (by simpa using hz3) ?_; intro v1 w5 hown1 hgrow1; have hb5 := below_app HB3.out (by simpa using hz3) hgrow1 (own_ge HO.out))
            go_roundw
            case rel => exact ⟨i + 1, nx, l ++ [pr], by omega, by go_num, by first | rfl | trivial, hdb.1, by omega, by rw [List.length_append, hl]; rfl, HN, HK2, (by unfold Hid; rw [HMap.out]; exact hown1), hb5⟩
            case measure => simp [intOf]; omega
          · have HV := Lib.hid ((HE.out _ (HR.out.val_err hlt ex ed)).1 ed)
            have bE : ((V.ds s.data.toList (W.xN s.data.toList a 24)).2.2 != 0) = true := bne_iff_ne.2 ed
            rw [dp_val ex ed] at hp
            simp only [pairV, zeroP] at hp
            generalize (V.ds s.data.toList (W.xN s.data.toList a 24)).2.2 = E at hp HV bE
            have HPP := Lib.hid hp
            clear ex ed hp hb
            go_wp2_with fail
            refine (HPP.out _).mono ?_; rintro e w3 ⟨rfl, hb3⟩
            obtain ⟨⟨p0, d0, d1, d2, d3⟩, g0, g1, g2, g3⟩ := HM.out.below hb3 HM.out.lt
            simp only [Nat.zero_add] at d0 d1 d2 d3
            have HB3 := Lib.hid (storedP_below (below_2 HB1.out hb3) hzr (.string ⟨#[]⟩) (.int .i64 0) (.int .i64 0) (.string ⟨#[]⟩))
            go_wp2_with fail
            go_ret3
            exact ⟨GivesD.no HV.out rfl, HB3.out⟩
        · have HV := Lib.hid ((HE.out _ (HR.out.key_err hlt ex)).1 ex)
          have bE : (W.xE s.data.toList a 24 != 0) = true := bne_iff_ne.2 ex
          rw [dp_key ex] at hp
          simp only [pairV, zeroP] at hp
          generalize W.xE s.data.toList a 24 = E at hp HV bE
          have HPP := Lib.hid hp
          clear ex hp hb
          go_wp2_with fail
          refine (HPP.out _).mono ?_; rintro e w3 ⟨rfl, hb3⟩
          obtain ⟨⟨p0, d0, d1, d2, d3⟩, g0, g1, g2, g3⟩ := HM.out.below hb3 HM.out.lt
          simp only [Nat.zero_add] at d0 d1 d2 d3
          have HB3 := Lib.hid (storedP_below (below_2 HB1.out hb3) hzr (.string ⟨#[]⟩) (.int .i64 0) (.int .i64 0) (.string ⟨#[]⟩))
          go_wp2_with fail
          go_ret3
          exact ⟨GivesD.no HV.out rfl, HB3.out⟩
      · obtain rfl : n = i := by omega
        obtain ⟨_, hv0, hv1⟩ := HE.out _ HR.out.done
        obtain ⟨a1, c1, rfl, hS1⟩ := own_sl HO.out
        have HS1 := Lib.hid hS1
        have hvs := oval_any a1 c1 (l.map ofPr) (HK.out.fits hs (by omega)).z wr hS1.prs
        rw [prs_ofPr] at hvs
        cases hv : vs l
        · have HV := Lib.hid (hv0 rfl hv)
          rw [hv] at hvs
          have HVS := Lib.hid hvs
          generalize l.map ofPr = xs at HVS HS1 ⊢
          clear hv0 hv1 hvs hv hS1 HO
          go_wp2_with fail
          refine HVS.out.mono ?_; rintro e w2 ⟨rfl, hb2⟩
          go_wp2_with fail
          go_ret3
          exact ⟨GivesD.no HV.out rfl, below_2 hb hb2⟩
        · have HV := Lib.hid (hv1 rfl hv)
          rw [hv] at hvs
          have HVS := Lib.hid hvs
          generalize hxs : l.map ofPr = xs at HVS HS1 ⊢
          have HXS := Lib.hid hxs
          clear hv0 hv1 hvs hv hS1 HO hxs
          go_wp2_with fail
          refine HVS.out.mono ?_; rintro e w2 ⟨rfl, hb2⟩
          go_wp2_with fail
          go_ret3
          exact ⟨GivesD.ok HV.out HXS.out rfl (HS1.out.below hb2), below_2 hb hb2⟩
  · have HR := Lib.hid (decs_cnt e0)
    have bE : (W.xE s.data.toList at_ 2147483647 != 0) = true := bne_iff_ne.2 e0
    have HC := Lib.hid hC
    generalize decs s.data.toList at_ = R at HR ⊢
    generalize W.xE s.data.toList at_ 2147483647 = E at HC HR bE
    generalize W.cV s.data.toList at_ 2147483647 = x at HC
    generalize W.cN s.data.toList at_ 2147483647 = y at HC
    clear hC e0
    go_enter Try.func25, Try.ntmps25
    go_wp2_with fail
    refine (HC.out _).mono ?_; rintro e w1 ⟨rfl, rfl⟩
    go_wp2_with fail
    go_ret3
    exact ⟨GivesD.no HR.out rfl, Below.refl _ _⟩
/-- what the program's own nine functions return is what they must -/
theorem own_holds : Own where
  valid := fun a c xs hf w h => oval_any a c xs hf.z w h.prs
  get := fun a c xs q hf w h => oget_any a c xs q hf.z w h.prs
  same := fun a b c d xs ys hf hg w h1 h2 => osame_any a b c d xs ys hf.z.len w h1.prs h2.prs
  apply := fun a b c d xs ys hf hg w h1 h2 => oapply_any a b c d xs ys hf.z hg.z (by have := hf.len; have := hg.len; omega) w h1 h2
  slice := fun a c xs f t hf h1 h2 w h => oslice_any a c xs f t hf.z h1 h2 w h.prs
  union := fun a b c d xs ys hf hg w h1 h2 => ounion_any a b c d xs ys hf.z hg.z (fun _ _ => by have := mrg_len chU chU_len _ xs ys (Nat.le_refl _); have := hf.len; have := hg.len; omega) w h1 h2
  diff := fun a b c d xs ys hf hg w h1 h2 => odiff_any a b c d xs ys hf.z hg.z (by have := hf.len; have := hg.len; omega) w h1 h2
  enc := fun a c xs hf hsz w h => oencs_any a c xs hf hsz w h.prs
  dec := fun s hs a h0 h1 w => odecs_any s hs a h0 h1 w
end Go.Proofs.Ytieloegadhgipaa.S
