/-
  What the reference of layer 6 returns: Encode, Decode: contracts, one a function.
-/
import Derived.Test.YtieloegadhgipaaSDiffs
namespace Go.Proofs.Ytieloegadhgipaa.S
open Go.RowKit
open Go.Proofs.Ytieloegadhgipaa.V (ret_bool ret_int ret_string below_2 below_box below_box2 size_len bytes_eq append_list tripV)
open Go.Proofs.Ytieloegadhgipaa.W (tV tN tE xV xN xE cV cN text)

/-! ### Encode -/

theorem body_next {xs : List P} {k : Nat} (h : k < xs.length) : body (prs (xs.take (k + 1))) = body (prs (xs.take k)) ++ text xs[k].key.data.toList ++ V.enc ⟨xs[k].k, xs[k].n, xs[k].s.data.toList⟩ := by
  rw [List.take_succ_eq_append_getElem h]
  unfold prs body
  rw [List.map_append, List.flatMap_append, List.append_assoc]
  congr 1
  show text xs[k].key.data.toList ++ V.enc _ ++ [] = _
  rw [List.append_nil]; rfl
theorem body_take {xs : List P} (k : Nat) : (body (prs (xs.take k))).length ≤ (body (prs xs)).length := by
  have h : prs xs = prs (xs.take k) ++ prs (xs.drop k) := by
    unfold prs
    rw [← List.map_append, List.take_append_drop]
  rw [h]
  unfold body
  rw [List.flatMap_append, List.length_append]
  omega
/-- the encoding so far -/
def encT (xs : List P) (k : Nat) : ByteArray := ⟨(Lib.uvarint xs.length ++ body (prs (xs.take k))).toArray⟩
theorem encT_next {xs : List P} {k : Nat} (h : k < xs.length) : encT xs k ++ ⟨(text xs[k].key.data.toList).toArray⟩ ++ ⟨(V.enc ⟨xs[k].k, xs[k].n, xs[k].s.data.toList⟩).toArray⟩ = encT xs (k + 1) := by
  refine bytes_eq ?_
  rw [append_list, append_list]
  unfold encT
  show _ ++ _ ++ _ = Lib.uvarint xs.length ++ body (prs (xs.take (k + 1)))
  rw [body_next h]
  simp only [List.append_assoc]
theorem encT_size (xs : List P) (k : Nat) : (encT xs k).size ≤ (encs (prs xs)).length := by
  rw [size_len]
  unfold encT encs
  show (Lib.uvarint xs.length ++ body (prs (xs.take k))).length ≤ _
  rw [List.length_append, List.length_append, prs_len]
  have := body_take (xs := xs) k
  omega
theorem encT_all (xs : List P) : encT xs xs.length = ⟨(encs (prs xs)).toArray⟩ := by
  unfold encT encs
  rw [List.take_length, prs_len]
theorem encT_none (xs : List P) : encT xs 0 = ⟨(Lib.uvarint xs.length).toArray⟩ := by
  unfold encT
  rw [List.take_zero]
  show ByteArray.mk (Lib.uvarint xs.length ++ []).toArray = _
  rw [List.append_nil]
set_option maxHeartbeats 4000000 in
set_option maxRecDepth 100000 in
theorem renc_any (a : Option Addr) (c : Nat) (xs : List P) (hf : Fits xs) (hsz : (encs (prs xs)).length ≤ 1000000000000) (w : World) (hA : Prs w a xs) :
    Calls Try.prog 28 #[.slice a xs.length c] w fun e w' => e = .returned (.string ⟨(encs (prs xs)).toArray⟩) ∧ Below w.heap.size w w' := by
  have hx := hf.len
  have HA := Lib.hid hA
  have HF := Lib.hid hf
  have h1 := W.ruint_any xs.length (by omega)
  have HE := Lib.hid (encT_all xs)
  have HZ := Lib.hid (encT_size xs)
  rw [← encT_none] at h1
  clear hA hf
  obtain ⟨n, hn⟩ : ∃ n, xs.length = n := ⟨_, rfl⟩
  have HL := Lib.hid hn
  rw [hn] at hx h1 HE ⊢
  have H1 := Lib.hid h1
  clear hn h1
  go_enter Try.func28, Try.ntmps28
  go_wp2_with fail
  refine (H1.out _).mono ?_; rintro e w1 ⟨rfl, hb1⟩
  have HB1 := Lib.hid hb1
  have HA1 := Lib.hid (HA.out.below hb1)
  clear hb1
  go_wp2_with fail
  go_loopw [3, 4] (fun vs vi wr => ∃ k : Nat, k ≤ n ∧ vi = .int .i64 k ∧ vs = .string (encT xs k) ∧ Below w1.heap.size w1 wr) (fun _ vi _ => n - (intOf vi).toNat)
  case atStart => exact ⟨0, Nat.zero_le _, rfl, rfl, Below.refl _ _⟩
  case round =>
    obtain ⟨k, hk, rfl, rfl, hb⟩ := hrel
    by_cases hlt : k < n
    · have hlx : k < xs.length := by rw [HL.out]; exact hlt
      obtain ⟨z0, z1, z2, z3⟩ := HF.out.at hlx
      have g1 := W.rtext_any xs[k].key z0
      have g2 := V.renc_any xs[k].k xs[k].n z2 z3 xs[k].s z1
      have HN := Lib.hid (encT_next hlx)
      have y0 := HZ.out k
      have y1 := HZ.out (k + 1)
      rw [← HN.out] at y1
      simp only [ByteArray.size_append] at y1
      obtain ⟨b1, o1, rfl, hc⟩ := (HA1.out.below hb).open hlx
      obtain ⟨c0, c1, c2, c3⟩ := (hc k hlx).grown
      generalize ByteArray.mk (text xs[k].key.data.toList).toArray = T at g1 HN y1
      generalize ByteArray.mk (V.enc ⟨xs[k].k, xs[k].n, xs[k].s.data.toList⟩).toArray = U at g2 HN y1
      have C1 := Lib.hid (grownW (W := wr) g1)
      have C2 := Lib.hid (grownW (W := wr) g2)
      generalize hE2 : encT xs (k + 1) = E2 at HN
      have HE2 := Lib.hid hE2
      generalize encT xs k = E1 at HN y0 y1
      generalize xs[k] = p at c0 c1 c2 c3 C1 C2
      clear g1 g2 hc z0 z1 z2 z3 hE2
      go_wp2_with fail
      refine wp_region_quiet_below (by kernel_rfl) (by kernel_rfl) ?_
      repeat (go_big_quiet_step (first | with_reducible exact C1.out _ _ | with_reducible exact C2.out _ _))
      refine wpQuiet_nil ?_
      intro w4 hw'
      have hb4 : Below wr.heap.size wr w4 := by
        obtain ⟨⟨dq, osq⟩, hw''⟩ := hw'
        rw [hw'']
        exact below_regrown _ dq osq
      clear hw' c0 c1 c2 c3
      go_wp2_with fail
      go_roundw
      case rel => exact ⟨k + 1, by omega, by go_num, by rw [HN.out, HE2.out], below_2 hb hb4⟩
      case measure => simp [intOf]; omega
    · obtain rfl : n = k := by omega
      go_wp2_with fail
      go_ret
      exact ⟨ret_string HE.out, below_2 HB1.out hb⟩

/-! ### Decode -/

/-- a pair as the program has it -/
def ofPr (p : Pr) : P := ⟨⟨p.1.toArray⟩, p.2.k, p.2.n, ⟨p.2.s.toArray⟩⟩
theorem ofPr_pr (p : Pr) : (ofPr p).pr = p := rfl
theorem prs_ofPr (l : List Pr) : prs (l.map ofPr) = l := by
  unfold prs
  rw [List.map_map]
  exact List.map_id l
/-- what was decoded can be held -/
def Okl (s : ByteArray) (l : List Pr) : Prop := ∀ p ∈ l, p.1.length ≤ s.size ∧ p.2.s.length ≤ s.size ∧ -9223372036854775808 ≤ p.2.n ∧ p.2.n ≤ 9223372036854775807
theorem xV_len {l : List UInt8} {a m : Int} : (xV l a m).length ≤ l.length := by
  have := V.xV_size (l := l) (a := a) (m := m)
  rw [size_len] at this
  exact this
theorem ds_held (l : List UInt8) (a : Int) : (V.ds l a).1.s.length ≤ l.length ∧ -9223372036854775808 ≤ (V.ds l a).1.n ∧ (V.ds l a).1.n ≤ 9223372036854775807 := by
  have hz : ([] : List UInt8).length ≤ l.length ∧ (-9223372036854775808 : Int) ≤ 0 ∧ (0 : Int) ≤ 9223372036854775807 := ⟨Nat.zero_le _, by decide, by decide⟩
  by_cases h0 : tE l a = 0
  · by_cases k0 : tV l a = 0
    · rw [V.ds_nil h0 k0]; exact hz
    · by_cases k1 : tV l a = 1
      · rw [V.ds_int h0 k1]
        split
        · exact hz
        · have h1 := W.tV_bd l (tN l a)
          have h2 := W.unz_bd (u := (tV l (tN l a)).toNat) (by omega)
          exact ⟨Nat.zero_le _, h2⟩
      · by_cases k2 : tV l a = 2
        · rw [V.ds_str h0 k2]
          split
          · exact hz
          · split
            · exact ⟨xV_len, hz.2⟩
            · exact hz
        · rw [V.ds_bad h0 k0 k1 k2]; exact hz
  · rw [V.ds_err h0]; exact hz
theorem Okl.fits {s : ByteArray} {l : List Pr} (h : Okl s l) (hs : s.size ≤ 1000000000000) (hl : l.length ≤ s.size) : Fits (l.map ofPr) := by
  refine ⟨by rw [List.length_map]; omega, fun p hp => ?_, fun p hp => ?_⟩
  · obtain ⟨q, hq, rfl⟩ := List.mem_map.1 hp
    obtain ⟨h1, h2, _⟩ := h q hq
    exact ⟨by rw [size_len]; show q.1.length ≤ _; omega, by rw [size_len]; show q.2.s.length ≤ _; omega⟩
  · obtain ⟨q, hq, rfl⟩ := List.mem_map.1 hp
    exact (h q hq).2.2
theorem decs_cnt {s : List UInt8} {a : Int} (h : xE s a 2147483647 ≠ 0) : decs s a = ([], 0, xE s a 2147483647) := by unfold decs; rw [if_pos h]
theorem decs_end {s : List UInt8} {a : Int} (h : xE s a 2147483647 = 0) {r : List Pr × Int × Int} (hr : rds s (cV s a 2147483647).toNat (cN s a 2147483647) = r) :
    (r.2.2 ≠ 0 → decs s a = ([], 0, r.2.2)) ∧ (r.2.2 = 0 → vs r.1 = false → decs s a = ([], 0, 5)) ∧ (r.2.2 = 0 → vs r.1 = true → decs s a = (r.1, r.2.1, 0)) := by
  subst hr
  unfold decs
  rw [if_neg (fun x => x h)]
  refine ⟨fun h1 => by rw [if_pos h1], fun h1 h2 => by rw [if_neg (fun x => x h1), h2]; rfl, fun h1 h2 => by rw [if_neg (fun x => x h1), h2]; rfl⟩
/-- a list, an offset and an error, returned -/
def GivesD (e : Ending) (w' : World) (r : List Pr × Int × Int) : Prop := ∃ a c, e = .returned (.tuple #[.slice a (r.1.map ofPr).length c, .int .i64 r.2.1, .int .i64 r.2.2]) ∧ Sl w' a c (r.1.map ofPr)
theorem GivesD.no {e : Ending} {w' : World} {r : List Pr × Int × Int} {E : Int} (hr : r = ([], 0, E)) (he : e = .returned (.tuple #[.slice none 0 0, .int .i64 0, .int .i64 E])) : GivesD e w' r := by
  rw [hr]; exact ⟨none, 0, he, Sl.empty _⟩
theorem GivesD.ok {e : Ending} {w' : World} {r : List Pr × Int × Int} {l : List Pr} {a : Int} {xs : List P} {a1 : Option Addr} {c1 : Nat} (hr : r = (l, a, 0)) (hx : l.map ofPr = xs) (he : e = .returned (.tuple #[.slice a1 xs.length c1, .int .i64 a, .int .i64 0])) (hS : Sl w' a1 c1 xs) : GivesD e w' r := by
  subst hx; rw [hr]; exact ⟨a1, c1, he, hS⟩
set_option maxHeartbeats 4000000 in
set_option maxRecDepth 100000 in
theorem rdecs_any (s : ByteArray) (hs : s.size ≤ 1000000000000) (at_ : Int) (h0 : -9223372036854775808 ≤ at_) (h1 : at_ ≤ 9223372036854775807) (w : World) :
    Calls Try.prog 26 #[.string s, .int .i64 at_] w fun e w' => GivesD e w' (decs s.data.toList at_) ∧ Below w.heap.size w w' := by
  have hC := fun w => W.rtakeCount_any s at_ 2147483647 h0 h1 (by decide) (by decide) hs w
  have HX := Lib.hid (fun a h0 h1 w => W.rtakeText_any s a 24 h0 h1 (by decide) (by decide) hs w)
  have HD := Lib.hid (fun a h0 h1 w => V.rdec_any s hs a h0 h1 w)
  have hsl := size_len s
  by_cases e0 : xE s.data.toList at_ 2147483647 = 0
  · have hbd := x_bd e0
    have HE := Lib.hid (fun r (hr : rds s.data.toList (cV s.data.toList at_ 2147483647).toNat (cN s.data.toList at_ 2147483647) = r) => decs_end e0 hr)
    rw [e0] at hC
    have HC := Lib.hid hC
    generalize decs s.data.toList at_ = R at HE ⊢
    obtain ⟨n, hn⟩ : ∃ n : Nat, cV s.data.toList at_ 2147483647 = n := ⟨(cV s.data.toList at_ 2147483647).toNat, by omega⟩
    rw [hn] at HC HE hbd
    generalize cN s.data.toList at_ 2147483647 = a0 at HC HE hbd
    clear hC hn e0
    rw [show ((n : Int).toNat) = n from rfl] at HE
    obtain ⟨b0, b1, b2, b3, b4, b5⟩ := hbd
    go_enter Try.func26, Try.ntmps26
    go_wp2_with fail
    refine (HC.out _).mono ?_; rintro e w1 ⟨rfl, rfl⟩
    have hsz := hs
    go_wp2_with fail
    go_loopw [8, 10, 11] (fun s8 s10 s11 wr => ∃ (i : Nat) (a : Int) (l : List Pr), i ≤ n ∧ s11 = .int .i64 i ∧ s8 = .int .i64 a ∧ 0 ≤ a ∧ a ≤ s.size ∧ l.length = i ∧ Hid (Rs s.data.toList n a0 i l a) ∧ Hid (Okl s l) ∧ Hid (wr.ownsRow w.heap.size 33 4 s10 (l.map ofPr).length (pc (l.map ofPr))) ∧ Below w.heap.size w wr) (fun _ _ s11 _ => n - (intOf s11).toNat)
    case atStart => exact ⟨0, a0, [], Nat.zero_le _, rfl, rfl, b2, by omega, rfl, Rs.start _ _ _, fun p hp => (by cases hp), World.ownsRow_nil _ _ _ _, Below.refl _ _⟩
    case round =>
      obtain ⟨i, a, l, hi, rfl, rfl, ha0, ha1, hl, HR, HK, HO, hb⟩ := hrel
      have hzr := hb.size
      by_cases hlt : i < n
      · have HXa := Lib.hid (HX.out a (by omega) (by omega) wr)
        by_cases ex : xE s.data.toList a 24 = 0
        · have hxb := x_bd ex
          have HDa := Lib.hid (HD.out (xN s.data.toList a 24) (by omega) (by omega) wr)
          rw [ex] at HXa
          by_cases ed : (V.ds s.data.toList (xN s.data.toList a 24)).2.2 = 0
          · have HN := Lib.hid (HR.out.next hlt ex ed)
            have hdb := ds_bd ed
            have hdh := ds_held s.data.toList (xN s.data.toList a 24)
            have hxl := xV_len (l := s.data.toList) (a := a) (m := 24)
            have HK2 : Hid (Okl s (l ++ [(xV s.data.toList a 24, (V.ds s.data.toList (xN s.data.toList a 24)).1)])) := by
              intro p hp
              rcases List.mem_append.1 hp with hp | hp
              · exact HK.out p hp
              · obtain rfl := List.mem_singleton.1 hp
                exact ⟨by show (xV s.data.toList a 24).length ≤ _; omega, by show (V.ds s.data.toList (xN s.data.toList a 24)).1.s.length ≤ _; omega, hdh.2.1, hdh.2.2⟩
            simp only [tripV] at HDa
            rw [ed] at HDa
            generalize (V.ds s.data.toList (xN s.data.toList a 24)).2.1 = nx at HDa HN hdb
            generalize (V.ds s.data.toList (xN s.data.toList a 24)).1 = v at HDa HN HK2
            generalize xV s.data.toList a 24 = T at HXa HN HK2
            generalize xN s.data.toList a 24 = N at HXa HDa
            have hmap : (l ++ [(T, v)]).map ofPr = l.map ofPr ++ [ofPr (T, v)] := by rw [List.map_append]; rfl
            have HMap := Lib.hid hmap
            have hll : (l.map ofPr).length = i := by rw [List.length_map]; exact hl
            clear ex ed hxb hdh hxl hmap
            go_wp2_with fail
            refine HXa.out.mono ?_; rintro e w2 ⟨rfl, he⟩; obtain rfl : wr = w2 := he
            go_wp2_with fail
            refine HDa.out.mono ?_; rintro e w3 ⟨rfl, hb3⟩
            have hB3 := below_2 hb hb3
            have HO3 := Lib.hid (own_belowO HO.out hb3)
            have hz3 := hB3.size
            go_wp2_with (at_builtin; refine wpList_append_pair_at rfl _ _ rfl w.heap.size u10 (l.map ofPr) rfl (ofPr (T, v)) (HO3.out.alloc _) (w3.heap.size + 1) rfl (by simp) (by omega) (by simp; omega) ?_; intro v1 w5 hown1 hgrow1; have hb5 := below_app (below_2 hB3 (below_box w3 _)) (by simp; omega) hgrow1 (own_ge HO3.out))
            go_roundw
            case rel => exact ⟨i + 1, nx, l ++ [(T, v)], by omega, by go_num, by first | rfl | trivial, hdb.1, by omega, by rw [List.length_append, hl]; rfl, HN, HK2, (by unfold Hid; rw [HMap.out]; exact hown1), hb5⟩
            case measure => simp [intOf]; omega
          · have HV := Lib.hid ((HE.out _ (HR.out.val_err hlt ex ed)).1 ed)
            have bE : ((V.ds s.data.toList (xN s.data.toList a 24)).2.2 != 0) = true := bne_iff_ne.2 ed
            simp only [tripV] at HDa
            generalize (V.ds s.data.toList (xN s.data.toList a 24)).2.2 = E at HDa HV bE
            generalize (V.ds s.data.toList (xN s.data.toList a 24)).2.1 = nx at HDa
            generalize (V.ds s.data.toList (xN s.data.toList a 24)).1 = v at HDa
            generalize xV s.data.toList a 24 = T at HXa
            generalize xN s.data.toList a 24 = N at HXa HDa
            clear ex ed hxb
            go_wp2_with fail
            refine HXa.out.mono ?_; rintro e w2 ⟨rfl, he⟩; obtain rfl : wr = w2 := he
            go_wp2_with fail
            refine HDa.out.mono ?_; rintro e w3 ⟨rfl, hb3⟩
            go_wp2_with fail
            go_ret3
            exact ⟨GivesD.no HV.out rfl, below_2 hb (below_2 hb3 (below_box w3 _))⟩
        · have HV := Lib.hid ((HE.out _ (HR.out.key_err hlt ex)).1 ex)
          have bE : (xE s.data.toList a 24 != 0) = true := bne_iff_ne.2 ex
          generalize xE s.data.toList a 24 = E at HXa HV bE
          generalize xV s.data.toList a 24 = T at HXa
          generalize xN s.data.toList a 24 = N at HXa
          clear ex
          go_wp2_with fail
          refine HXa.out.mono ?_; rintro e w2 ⟨rfl, he⟩; obtain rfl : wr = w2 := he
          go_wp2_with fail
          go_ret3
          exact ⟨GivesD.no HV.out rfl, hb⟩
      · obtain rfl : n = i := by omega
        obtain ⟨_, hv0, hv1⟩ := HE.out _ HR.out.done
        obtain ⟨a1, c1, rfl, hS1⟩ := own_sl HO.out
        have HS1 := Lib.hid hS1
        have hvs := rvs_all a1 c1 (l.map ofPr) (HK.out.fits hs (by omega)) wr hS1.prs
        rw [prs_ofPr] at hvs
        cases hv : vs l
        · have HV := Lib.hid (hv0 rfl hv)
          rw [hv] at hvs
          have HVS := Lib.hid hvs
          generalize l.map ofPr = xs at HVS HS1 ⊢
          clear hv0 hv1 hvs hv hS1 HO
          go_wp2_with fail
          refine HVS.out.mono ?_; rintro e w2 ⟨rfl, hb2⟩
          go_wp2_with fail
          go_ret3
          exact ⟨GivesD.no HV.out rfl, below_2 hb hb2⟩
        · have HV := Lib.hid (hv1 rfl hv)
          rw [hv] at hvs
          have HVS := Lib.hid hvs
          generalize hxs : l.map ofPr = xs at HVS HS1 ⊢
          have HXS := Lib.hid hxs
          clear hv0 hv1 hvs hv hS1 HO hxs
          go_wp2_with fail
          refine HVS.out.mono ?_; rintro e w2 ⟨rfl, hb2⟩
          go_wp2_with fail
          go_ret3
          exact ⟨GivesD.ok HV.out HXS.out rfl (HS1.out.below hb2), below_2 hb hb2⟩
  · have HR := Lib.hid (decs_cnt e0)
    have bE : (xE s.data.toList at_ 2147483647 != 0) = true := bne_iff_ne.2 e0
    have HC := Lib.hid hC
    generalize decs s.data.toList at_ = R at HR ⊢
    generalize xE s.data.toList at_ 2147483647 = E at HC HR bE
    generalize cV s.data.toList at_ 2147483647 = x at HC
    generalize cN s.data.toList at_ 2147483647 = y at HC
    clear hC e0
    go_enter Try.func26, Try.ntmps26
    go_wp2_with fail
    refine (HC.out _).mono ?_; rintro e w1 ⟨rfl, rfl⟩
    go_wp2_with fail
    go_ret3
    exact ⟨GivesD.no HR.out rfl, Below.refl _ _⟩
end Go.Proofs.Ytieloegadhgipaa.S
