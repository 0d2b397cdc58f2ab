/-
  What the program's own Join of layer 7 returns; the program's own functions keep what the laws' walks ask (own_holds).
-/
import Derived.Test.YtaimmcibdepejaaDoorLOH
import Derived.Lib.AppendStr
namespace Go.Proofs.YtaimmcibdepejaaDoor.L
open Go.RowKit

/-- a text appended -/
theorem wpList_append_text {w : World} {ops : Array Oper} {rest : List Oper} {o : Oper} {a : Act} {Q : Exit → Act → World → Prop} (hgd : o.guard = none) (sl x : Operand)
    (ho : o.op = .call { callee := .builtin .append, args := #[sl, x], argTypes := #[39, 9] })
    (base : Nat) (v : Value) (l : Str) (hs : a.eval sl = v) (hown : Own8 w base v l) (s : ByteArray) (hx : a.eval x = .string s) (hn : l.length ≤ 100000000000000) (hs2 : s.size ≤ 1000000) (hbase : base ≤ w.heap.size)
    (h : ∀ v' w', Own8 w' base v' (l ++ s.data.toList) → w.grownBy w' v.ownBlock → wpList Tryd.prog ops Q rest (a.put o.dst v') w') : wpList Tryd.prog ops Q (o :: rest) a w := by
  obtain ⟨i0, hi, hz0, hz1, hz2⟩ := info_parts info8
  refine Lib.wpList_append_own_string w hgd sl x 39 9 ho base 5 i0 Tryd.underlying39 Tryd.underlying9 hi hz0 hz1 hz2 v l.length (bc l) hs hown s hx (by unfold maxLen; omega) (by omega) hbase ?_
  intro v' w' h1 h2 _
  refine h v' w' ?_ h2
  unfold Own8
  rw [List.length_append, bc_app, ← size_len]
  exact h1
theorem jn_pre {xs : List T} {k : Nat} (h1 : (toks (xs.take k)).all valid = true) (hn : ∀ t ∈ toks xs, t.n ≤ 9223372036854775807) : (jn (toks (xs.take k))).length ≤ 131 * k := by
  have hsub : ∀ t ∈ toks (xs.take k), t ∈ toks xs := by
    intro t ht
    obtain ⟨p, hp, rfl⟩ := List.mem_map.1 ht
    exact List.mem_map.2 ⟨p, List.mem_of_mem_take hp, rfl⟩
  have := jn_len (l := toks (xs.take k)) h1 (fun t ht => hn t (hsub t ht))
  rw [toks_len, List.length_take] at this
  have : min k xs.length ≤ k := Nat.min_le_left _ _
  omega
theorem txt_small {t : Tok} (h1 : valid t = true) (hn : t.n ≤ 9223372036854775807) : (txt t).length ≤ 131 := by
  have := jn_len (l := [t]) (by simp [h1]) (fun u hu => by simp at hu; subst hu; exact hn)
  exact this
theorem below_text {B : Nat} {w1 wr w2 : World} {v : Value} (hb : Below B w1 wr) (hB : B ≤ wr.heap.size) (hg : wr.grownBy w2 v.ownBlock) (hv : ∀ g, v.ownBlock = some g → B ≤ g) : Below B w1 w2 := hb.grown hg hB hv
set_option maxHeartbeats 4000000 in
set_option maxRecDepth 100000 in
theorem ojoin_any (a : Option Addr) (c : Nat) (xs : List T) (hF : FitsT xs) (w : World) (hT : Tab w) (hA : Tks w a xs) :
    Calls Tryd.prog 11 #[.slice a xs.length c] w fun e w' => e = .returned (pairS (join (toks xs))) ∧ Below w.heap.size w w' := by
  have HA := Lib.hid hA
  have HT := Lib.hid hT
  have HLn := Lib.hid hF.each
  have hx := hF.len
  clear hA hT hF
  have HLm : Hid (∀ t ∈ toks xs, t.n ≤ 9223372036854775807) := by
    intro t ht
    obtain ⟨p, hp, rfl⟩ := List.mem_map.1 ht
    obtain ⟨j, hj, rfl⟩ := List.getElem_of_mem hp
    exact (HLn.out j hj).2.2
  obtain ⟨n, hn⟩ : ∃ n, xs.length = n := ⟨_, rfl⟩
  have HL := Lib.hid hn
  rw [hn] at hx ⊢
  clear hn
  go_enter Tryd.func11, Tryd.ntmps11
  go_wp2
  go_loopw [4, 11] (fun v i wr => ∃ k : Nat, k ≤ n ∧ i = .int .i64 k ∧ Hid (Own8 wr w.heap.size v (jn (toks (xs.take k)))) ∧ Hid ((toks (xs.take k)).all valid = true) ∧ Below w.heap.size w wr) (fun _ i _ => n - (intOf i).toNat)
  case atStart => exact ⟨0, Nat.zero_le _, rfl, World.ownsRow_nil _ _ _ _, rfl, Below.refl _ _⟩
  case round =>
    obtain ⟨k, hk, rfl, HO, HK, hb⟩ := hrel
    have hzr := hb.size
    have hlen := jn_pre HK.out HLm.out
    by_cases hlt : k < n
    · have hlx : k < xs.length := by rw [HL.out]; exact hlt
      obtain ⟨b1, o1, rfl, hc⟩ := (HA.out.below hb).open hlx
      obtain ⟨c0, c1, c2, c3⟩ := hc k hlx
      obtain ⟨f1, f2, f3⟩ := HLn.out k hlx
      have HTx := Lib.hid (fun w => otext_any xs[k] f1 f2 f3 w)
      have HTW := Lib.hid (fun x => (HT.out.below hb).below (below_box wr x))
      cases hv : valid xs[k].tok
      · have HB := Lib.hid (join_bad (all_not hlx hv))
        have HVd := Lib.hid hv
        generalize xs[k] = p at c0 c1 c2 c3 HTx HVd
        clear hc hv f1 f2 f3 HK
        go_wp2_with fail
        refine (HTx.out _ (HTW.out _)).mono ?_; rintro e w2 ⟨⟨d, y, rfl, hy, -⟩, hb2⟩
        rw [HVd.out] at hy
        subst hy
        have HB2 := Lib.hid (below_2 (below_2 hb (below_box wr _)) hb2)
        clear hb2
        go_wp2_with fail
        go_ret2
        exact ⟨ret_pair HB.out rfl, HB2.out⟩
      · have HN := Lib.hid (all_snoc hlx HK.out hv)
        have hts := txt_small hv f3
        have HVd := Lib.hid hv
        have HN0 := Lib.hid (jn_next0 hlx)
        have HN1 := Lib.hid (jn_next hlx)
        generalize xs[k] = p at c0 c1 c2 c3 HTx HVd hts HN0 HN1
        have HTs := Lib.hid hts
        clear hc hv hts f1 f2 f3 HK
        by_cases hk0 : k = 0
        · have bk : decide (0 < k) = false := decide_eq_false (by omega)
          have HNk := Lib.hid (HN0.out hk0)
          clear HN0 HN1 hk0
          go_wp2_with fail
          refine (HTx.out _ (HTW.out _)).mono ?_; rintro e w2 ⟨⟨d, y, rfl, hy, hd⟩, hb2⟩
          rw [HVd.out] at hy
          subst hy
          have hd2 := hd rfl
          have hdz : d.size ≤ 1000000 := by rw [size_len, hd2]; have := HTs.out; omega
          have HD := Lib.hid hd2
          have HO2 := Lib.hid ((HO.out.alloc _).below hb2)
          have HB2 := Lib.hid (below_2 (below_2 hb (below_box wr _)) hb2)
          have hz2 := HB2.out.size
          clear hb2 hd hd2
          go_wp2_with (at_builtin; refine wpList_append_text rfl _ _ rfl w.heap.size u4 _ rfl HO2.out d rfl (by omega) hdz (by omega) ?_; intro v1 w3 hown1 hgrow1; have hb3 := below_text HB2.out (by omega) hgrow1 HO2.out.ge)
          go_roundw
          case rel => exact ⟨k + 1, by omega, by go_num, (by unfold Hid; rw [HNk.out, ← HD.out]; exact hown1), HN, hb3⟩
          case measure => simp [intOf]; omega
        · have bk : decide (0 < k) = true := decide_eq_true (by omega)
          have HNk := Lib.hid (HN1.out hk0)
          clear HN0 HN1 hk0
          go_wp2_with fail
          refine (HTx.out _ (HTW.out _)).mono ?_; rintro e w2 ⟨⟨d, y, rfl, hy, hd⟩, hb2⟩
          rw [HVd.out] at hy
          subst hy
          have hd2 := hd rfl
          have hdz : d.size ≤ 1000000 := by rw [size_len, hd2]; have := HTs.out; omega
          have HD := Lib.hid hd2
          have HO2 := Lib.hid ((HO.out.alloc _).below hb2)
          have HB2 := Lib.hid (below_2 (below_2 hb (below_box wr _)) hb2)
          have hz2 := HB2.out.size
          clear hb2 hd hd2
          go_wp2_with (first
            | (at_builtin; refine wpList_append_byte rfl _ _ rfl w.heap.size u4 _ rfl _ HO2.out w2.heap.size rfl rfl (by omega) (by omega) 32 rfl ?_; intro v1 w3 hown1 hgrow1; have hb3 := below_app HB2.out (by omega) hgrow1 HO2.out.ge; have hz3 := hb3.size)
            | (at_builtin; refine wpList_append_text rfl _ _ rfl w.heap.size v1 _ rfl hown1 d rfl (by rw [List.length_append]; simp only [List.length_cons, List.length_nil]; omega) hdz (by omega) ?_; intro v2 w4 hown2 hgrow2; have hb4 := below_text hb3 (by omega) hgrow2 hown1.ge))
          go_roundw
          case rel => exact ⟨k + 1, by omega, by go_num, (by unfold Hid; rw [HNk.out, ← HD.out]; exact hown2), HN, hb4⟩
          case measure => simp [intOf]; omega
    · obtain rfl : n = k := by omega
      have hto : toks (xs.take n) = toks xs := by rw [List.take_of_length_le (by rw [HL.out]; exact Nat.le_refl _)]
      rw [hto] at HO HK hlen
      obtain ⟨a0, c0, hvv⟩ := row_len HO.out
      subst hvv
      have hcv := HO.out.back
      by_cases hbig : 16384 < (jn (toks xs)).length
      · have HB := Lib.hid (join_long HK.out hbig)
        generalize (jn (toks xs)).length = L at hbig hcv hlen
        clear hto hcv
        go_wp2_with fail
        go_ret2
        exact ⟨ret_pair HB.out rfl, hb⟩
      · have HB := Lib.hid (join_ok HK.out hbig)
        generalize hjl : (jn (toks xs)).length = L at hbig hcv hlen
        generalize jn (toks xs) = J at hcv HB
        clear hto hjl
        go_wp2_with fail
        go_ret2
        exact ⟨ret_pair HB.out rfl, hb⟩
theorem own_holds : Own true Tab :=
  ⟨fun _ _ h hb => h.below hb, fun s _ w _ => (oisKw_any s w).mono fun _ _ h => ⟨h.1, h.2 ▸ Below.refl _ _⟩, fun s _ w _ => oname_any s w, fun s _ w _ => oquote_any s w, fun s _ w _ => otz_any s w, fun _ a c xs hF w hT hA => ojoin_any a c xs hF w hT hA⟩
/-- what stands without the tables -/
theorem own_plain : Own false (fun _ => True) :=
  ⟨fun _ _ _ _ => trivial, fun s _ w _ => (oisKw_any s w).mono fun _ _ h => ⟨h.1, h.2 ▸ Below.refl _ _⟩, fun s _ w _ => oname_any s w, fun s _ w _ => oquote_any s w, fun s _ w _ => otz_any s w, fun h => by cases h⟩
end Go.Proofs.YtaimmcibdepejaaDoor.L
