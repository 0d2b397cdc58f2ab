/-
  What the program's functions stmt and list of layer 11 return: contracts for all statements.
  What the program's functions of layer 11 return: repeats, and whether a parameter has the type bool: contracts.
  What the program's functions of layer 11 return: check, Check, Vars: contracts.
-/
import Derived.Test.YtnelpgeiioflmaaGreatDoorM15
import Derived.Test.YtnelpgeiioflmaaGreatDoorSYOF1
import Derived.Test.YtnelpgeiioflmaaGreatDoorSYOF2
import Derived.Test.YtnelpgeiioflmaaGreatDoorSYOF3
import Derived.Test.YtnelpgeiioflmaaGreatDoorSYOF4
import Derived.Test.YtnelpgeiioflmaaGreatDoorSYOF5
import Derived.Test.YtnelpgeiioflmaaGreatDoorSYOF6
import Derived.Test.YtnelpgeiioflmaaGreatDoorSYOF8
import Derived.Test.YtnelpgeiioflmaaGreatDoorM10
import Derived.Test.YtnelpgeiioflmaaGreatDoorM11
namespace Go.Proofs.YtnelpgeiioflmaaGreatDoor.Y
open Go.RowKit
open L (Str isName prt size_len below_2 below_box ret_bool ret_int eql_eq bytes_eq)
open A (Ex St Pm Pr V arity vE vEs absent exV exO Bx RowK Own1 exV_mk exO_mk okE cE PmsAt Stays Bodies stC)

theorem ostmt_any {w0 : World} (hT : Tb w0) {s : St} (hqb : QL w0 s.body) (hqe : QL w0 s.els) (hg : gS s) (hlb : s.body.length ≤ 1000000000000000) (hle : s.els.length ≤ 1000000000000000) (a1 a2 a3 a4 : Option Addr) (c1 c2 c3 c4 : Nat)
    (hK1 : A.Kids w0 a1 s.a.args) (hK2 : A.Kids w0 a2 s.b.args) (hK3 : Bodies w0 a3 s.body) (hK4 : Bodies w0 a4 s.els) {g bv bl n : Nat} {X : Nat → Prop} {c : Cx} {w : World} (hb : Below w0.heap.size w0 w) (hC : CK w w0.heap.size X g bv bl n c) (hn : n + 2 * (dS s).length ≤ 900000) :
    Calls Tryz.prog 102 #[.pointer (some ⟨g, 0, none⟩), stC s a1 c1 a2 c2 a3 c3 a4 c4] w (PL w0 X g bv bl (n + 2 * (dS s).length) w (ckS c s)) := by
  by_cases h1 : (tyE c.vis s.a).2 = 0
  · by_cases h2 : (tyE c.vis s.b).2 = 0
    · obtain ⟨⟨d0, hgood⟩, -, -⟩ := gS_open hg
      have hop := op_rng hgood
      rcases (show s.op = 1 ∨ s.op = 2 ∨ s.op = 3 ∨ s.op = 4 ∨ s.op = 5 ∨ s.op = 6 ∨ s.op = 7 ∨ s.op = 8 by omega) with ho | ho | ho | ho | ho | ho | ho | ho
      · exact ostmt_1 hT hg a1 a2 a3 a4 c1 c2 c3 c4 hK1 hK2 hb hC hn h1 h2 ho
      · exact ostmt_2 hT hg a1 a2 a3 a4 c1 c2 c3 c4 hK1 hK2 hb hC h1 h2 ho
      · exact ostmt_3 hT hg a1 a2 a3 a4 c1 c2 c3 c4 hK1 hK2 hb hC h1 h2 ho
      · exact ostmt_4 hT hg a1 a2 a3 a4 c1 c2 c3 c4 hK1 hK2 hb hC h1 h2 ho
      · exact ostmt_5 hT hqb hqe hg hlb hle a1 a2 a3 a4 c1 c2 c3 c4 hK1 hK2 hK3 hK4 hb hC hn h1 h2 ho
      · exact ostmt_6 hT hqb hg hlb a1 a2 a3 a4 c1 c2 c3 c4 hK1 hK2 hK3 hb hC hn h1 h2 ho
      · exact ostmt_7 hT hg a1 a2 a3 a4 c1 c2 c3 c4 hK1 hK2 hb hC h1 h2 ho
      · exact ostmt_8 hT hg a1 a2 a3 a4 c1 c2 c3 c4 hK1 hK2 hb hC h1 h2 ho
    · exact ostmt_e hT hg a1 a2 a3 a4 c1 c2 c3 c4 hK1 hK2 hb hC (Or.inr h2)
  · exact ostmt_e hT hg a1 a2 a3 a4 c1 c2 c3 c4 hK1 hK2 hb hC (Or.inl h1)
theorem gB_get : ∀ {l : List St}, gB l → ∀ j (h : j < l.length), gS l[j]
  | e :: r, h, 0, _ => by rw [gB] at h; exact h.1
  | e :: r, h, j + 1, hj => by rw [gB] at h; exact gB_get h.2 j (by simpa using hj)
theorem ckB_drop {c : Cx} {l : List St} {k : Nat} (hk : k < l.length) : ckB c (l.drop k) = if (ckS c l[k]).2 ≠ 0 then ckS c l[k] else ckB (ckS c l[k]).1 (l.drop (k + 1)) := by
  rw [List.drop_eq_getElem_cons hk, ckB]
theorem dels_drop {f : Env} {l : List St} {k : Nat} (hk : k < l.length) : dels f (l.drop k) = dels (if l[k].op = 1 then del f l[k].name else f) (l.drop (k + 1)) := by
  rw [List.drop_eq_getElem_cons hk, dels]
theorem dB_drop {l : List St} {k : Nat} (hk : k < l.length) : (dB (l.drop k)).length = (dS l[k]).length + (dB (l.drop (k + 1))).length := by
  rw [List.drop_eq_getElem_cons hk, dB, List.length_append]
theorem name_sz {s : St} (hg : gS s) (h : s.op = 1) : s.name.size ≤ 1000 := by
  obtain ⟨⟨d0, hgood⟩, -, -⟩ := gS_open hg
  have h1 : A.uN s.op = true := decide_eq_true (Or.inl h)
  have := nam_size (hgood.name h1)
  omega
set_option maxHeartbeats 8000000 in
set_option maxRecDepth 100000 in
theorem olist_step {w0 : World} (hT : Tb w0) {l : List St} (hq : ∀ j (h : j < l.length), QL w0 (l[j]).body ∧ QL w0 (l[j]).els) (hok : A.okB l) : QL w0 l := by
  intro a cap g bv bl n X c w hg hl hb hK hC hn
  have HST := Lib.hid (fun j (h : j < l.length) => hq j h)
  have HG := Lib.hid (fun j (h : j < l.length) => gB_get hg j h)
  have HOK := Lib.hid (fun j (h : j < l.length) => A.okS_open (hok.get j h))
  have HT := Lib.hid hT
  have HK := Lib.hid hK
  have HB := Lib.hid hb
  have HC := Lib.hid hC
  obtain ⟨R, hR⟩ : ∃ R, ckB c l = R := ⟨_, rfl⟩
  rw [hR]
  have HR : Hid (ckB c (l.drop 0) = R) := hR
  obtain ⟨D, hD⟩ : ∃ D, (dB l).length = D := ⟨_, rfl⟩
  have HD : Hid ((dB (l.drop 0)).length = D) := hD
  rw [hD] at hn ⊢
  obtain ⟨m, hm⟩ : ∃ m, l.length = m := ⟨_, rfl⟩
  have HL := Lib.hid hm
  rw [hm] at hl ⊢
  clear hm hD hR hC hb hK hT hok hg hq
  go_enter Tryz.func86, Tryz.ntmps86
  go_wp2_with fail
  go_loopw [12] (fun s12 wr => ∃ (k : Nat) (ck : Cx) (nk : Nat), k ≤ m ∧ s12 = .int .i64 k ∧ Hid (ckB ck (l.drop k) = R) ∧ Hid (nk + 2 * (dB (l.drop k)).length ≤ n + 2 * D) ∧ Hid (CK wr w0.heap.size X g bv bl nk ck) ∧ Hid (Kx w0.heap.size X w wr)) (fun s12 _ => m - (intOf s12).toNat)
  case atStart => exact ⟨0, c, n, Nat.zero_le _, rfl, HR, by show _ ≤ _; rw [HD.out]; exact Nat.le_refl _, HC, Kx.refl _ _ _⟩
  case round =>
    obtain ⟨k, ck, nk, hk, rfl, HX, HN, HCk, HKx⟩ := hrel
    by_cases hlt : k < m
    · have hlx : k < l.length := by rw [HL.out]; exact hlt
      have hB0 := HB.out.trans HKx.out.below
      obtain ⟨b3, i3, rfl, hat⟩ := HK.out.open hlx
      obtain ⟨a1, c1, a2, c2, a3, c3, a4, c4, hcc0, hkk⟩ := hat.open
      have hcc := hcc0.below hB0
      have hgs := HG.out k hlx
      have hoks := HOK.out k hlx
      have hx := HX.out
      have hnn := HN.out
      rw [ckB_drop hlx] at hx
      rw [dB_drop hlx] at hnn
      obtain ⟨hq1, hq2⟩ := HST.out k hlx
      have hST := fun w' hb (hC : CK w' w0.heap.size X g bv bl nk ck) hn => ostmt_any HT.out hq1 hq2 hgs hoks.bodyLen hoks.elsLen a1 a2 a3 a4 c1 c2 c3 c4 hkk.a hkk.b hkk.body hkk.els (X := X) (g := g) (bv := bv) (bl := bl) (n := nk) (c := ck) (w := w') hb hC hn
      have hb0 := below_box wr (A.stO l[k] a1 c1 a2 c2 a3 c3 a4 c4)
      have hs := hST _ (hB0.trans (hb0.mono (Nat.le_of_lt HCk.out.size))) (HCk.out.below hb0) (by omega)
      have HS := Lib.hid hs
      have HB1 : Hid (Kx w0.heap.size X w (wr.alloc (A.stO l[k] a1 c1 a2 c2 a3 c3 a4 c4))) := HKx.out.trans (Kx.of hb0 (Nat.le_of_lt HCk.out.size) HCk.out.xs)
      have f0 := hcc.k0
      have f1 := hcc.k1
      have f2 := hcc.k2
      have f3 := hcc.k3
      have f4 := hcc.k4
      have f5 := hcc.k5
      have f6 := hcc.k6
      have f7 := hcc.k7
      have f8 := hcc.k8
      have f9 := hcc.k9
      have f10 := hcc.k10
      have f11 := hcc.k11
      have f12 := hcc.k12
      clear hST hs hb0 hB0 hat hcc0 hkk hcc hgs hoks hq1 hq2
      generalize ckS ck l[k] = r1 at *
      generalize (dS l[k]).length = d1 at *
      unfold A.stO at HB1 HS
      unfold stC at HS
      generalize l[k].a.args.length = n1 at *
      generalize l[k].b.args.length = n2 at *
      generalize l[k].a.op = o1 at *
      generalize l[k].a.n = m1 at *
      generalize l[k].a.s = s1 at *
      generalize l[k].b.op = o2 at *
      generalize l[k].b.n = m2 at *
      generalize l[k].b.s = s2 at *
      generalize l[k].body.length = n3 at *
      generalize l[k].els.length = n4 at *
      generalize l[k].op = o0 at *
      generalize l[k].name = s0 at *
      generalize l[k].mx = m0 at *
      have HXX := Lib.hid hx
      have HNN := Lib.hid hnn
      clear hx hnn
      go_wp2_with fail
      refine HS.out.mono ?_; rintro e' w2 ⟨rfl, hc2, hk2⟩
      have HC2 := Lib.hid hc2
      have HK2 := Lib.hid (HB1.out.trans hk2)
      clear hc2 hk2 f0 f1 f2 f3 f4 f5 f6 f7 f8 f9 f10 f11 f12
      by_cases hz : r1.2 = 0
      · have b1 : (r1.2 != 0) = false := by rw [hz]; rfl
        have HX2 : Hid (ckB r1.1 (l.drop (k + 1)) = R) := by
          have := HXX.out
          rw [if_neg (fun z => z hz)] at this; exact this
        clear hz
        go_wp2_with fail
        go_roundw
        case rel => exact ⟨k + 1, r1.1, nk + 2 * d1, by omega, by go_num, HX2.out, by have := HNN.out; show _ ≤ _; omega, HC2.out, HK2.out⟩
        case measure => simp [intOf]; omega
      · have b1 : (r1.2 != 0) = true := bne_iff_ne.2 hz
        have HP : Hid (PL w0 X g bv bl (n + 2 * D) w (lst R l) (.returned (.int .i64 r1.2)) w2) := by
          have h1 : r1 = R := by
            have := HXX.out
            rw [if_pos hz] at this; exact this
          rw [← h1, lst_bad hz]
          exact ⟨rfl, HC2.out.mono (by have := HNN.out; omega), HK2.out⟩
        clear hz
        go_wp2_with fail
        go_ret
        exact HP.out
    · have hX := HX.out
      rw [List.drop_of_length_le (by rw [HL.out]; omega), ckB] at hX
      have HR2 : Hid (lst R l = (⟨dels ck.vis l, ck.loops, ck.decl⟩, 0)) := by
        show _ = _
        rw [← hX]; unfold lst; rw [if_neg (fun z => z rfl)]
      have hn2 : nk ≤ n + 2 * D := by have := HN.out; omega
      have HC0 := Lib.hid (HCk.out.mono hn2)
      have HKx0 := Lib.hid HKx.out
      clear hX hn2 HX HN HCk HR
      go_wp2_with fail
      go_loopw [25] (fun s25 w3 => ∃ (k : Nat) (f : Env), k ≤ m ∧ s25 = .int .i64 k ∧ Hid (dels f (l.drop k) = dels ck.vis l) ∧ Hid (CK w3 w0.heap.size X g bv bl (n + 2 * D) ⟨f, ck.loops, ck.decl⟩) ∧ Hid (Kx w0.heap.size X w w3)) (fun s25 _ => m - (intOf s25).toNat)
      case atStart => exact ⟨0, ck.vis, Nat.zero_le _, rfl, rfl, HC0.out, HKx0.out⟩
      case round =>
        obtain ⟨k2, f, hk2, rfl, HX, HC2, HK2⟩ := hrel
        by_cases hlt2 : k2 < m
        · have hlx : k2 < l.length := by rw [HL.out]; exact hlt2
          have hB0 := HB.out.trans HK2.out.below
          obtain ⟨b3, i3, rfl, hat⟩ := HK.out.open hlx
          obtain ⟨a1, c1, a2, c2, a3, c3, a4, c4, hcc0, hkk⟩ := hat.open
          have hcc := hcc0.below hB0
          have hx := HX.out
          rw [dels_drop hlx] at hx
          have hns := name_sz (HG.out k2 hlx)
          have hb0 := below_box wr (A.stO l[k2] a1 c1 a2 c2 a3 c3 a4 c4)
          have HC3 := Lib.hid (HC2.out.below hb0)
          have HK3 := Lib.hid (HK2.out.trans (Kx.of hb0 (Nat.le_of_lt HC2.out.size) HC2.out.xs))
          have f0 := hcc.k0
          have f1 := hcc.k1
          have f2 := hcc.k2
          have f3 := hcc.k3
          have f4 := hcc.k4
          have f5 := hcc.k5
          have f6 := hcc.k6
          have f7 := hcc.k7
          have f8 := hcc.k8
          have f9 := hcc.k9
          have f10 := hcc.k10
          have f11 := hcc.k11
          have f12 := hcc.k12
          clear hb0 hB0 hat hcc0 hkk hcc
          unfold A.stO at HC3 HK3
          generalize l[k2].a.args.length = n1 at *
          generalize l[k2].b.args.length = n2 at *
          generalize l[k2].a.op = o1 at *
          generalize l[k2].a.n = m1 at *
          generalize l[k2].a.s = s1 at *
          generalize l[k2].b.op = o2 at *
          generalize l[k2].b.n = m2 at *
          generalize l[k2].b.s = s2 at *
          generalize l[k2].body.length = n3 at *
          generalize l[k2].els.length = n4 at *
          generalize l[k2].op = o0 at *
          generalize l[k2].name = s0 at *
          generalize l[k2].mx = m0 at *
          by_cases ho : o0 = 1
          · have hs0 := hns ho
            subst ho
            have HX2 : Hid (dels (del f s0) (l.drop (k2 + 1)) = dels ck.vis l) := by rw [if_pos rfl] at hx; exact hx
            obtain ⟨p7, q7, hk8⟩ := HC3.out
            have hkd := hk8.below (L.below_drew _)
            obtain ⟨w8, hrun, hm8, ho8⟩ := hkd.vis.del_run (y := s0) (by unfold maxLen; omega) 103 0 Tryz.underlying103
            have hkx8 := Only.kx (X := X) ho8 hkd.lo.2.1 (Nat.le_of_lt hkd.size) hkd.off.2.1
            have HK8 := Lib.hid (HK3.out.trans ((Kx.of (L.below_drew _) (Nat.le_of_lt hk8.size) hk8.xs).trans hkx8))
            have HC8 : Hid (CK w8 w0.heap.size X g bv bl (n + 2 * D) ⟨del f s0, ck.loops, ck.decl⟩) := ⟨_, _, hkd.only_v ho8 (Nat.le_refl _) hm8⟩
            have g0 := hk8.box.cell 0
            simp only [List.getElem?_toArray, List.getElem?_cons_zero] at g0
            clear hx hns hk8 hkd hm8 ho8 hkx8
            go_wp2_with fail
            go_region
            clear f0 f1 f2 f3 f4 f5 f6 f7 f8 f9 f10 f11 f12 g0 hrun
            go_wp2_with fail
            go_roundw
            case rel => exact ⟨k2 + 1, _, by omega, by go_num, HX2.out, HC8.out, HK8.out⟩
            case measure => simp [intOf]; omega
          · have b1 : (o0 == 1) = false := beq_eq_false_iff_ne.2 ho
            have HX2 : Hid (dels f (l.drop (k2 + 1)) = dels ck.vis l) := by rw [if_neg ho] at hx; exact hx
            clear hx ho hns
            go_wp2_with fail
            go_roundw
            case rel => exact ⟨k2 + 1, f, by omega, by go_num, HX2.out, HC3.out, HK3.out⟩
            case measure => simp [intOf]; omega
        · have hX := HX.out
          rw [List.drop_of_length_le (by rw [HL.out]; omega), dels] at hX
          have HP : Hid (PL w0 X g bv bl (n + 2 * D) w (lst R l) (.returned (.int .i64 0)) wr) := by
            rw [HR2.out, ← hX]
            exact ⟨rfl, HC2.out, HK2.out⟩
          clear hX
          go_wp2_with fail
          go_ret
          exact HP.out
theorem olist_any {w0 : World} (hT : Tb w0) : ∀ l : List St, A.okB l → QL w0 l := by
  have := A.body_ind (Q := fun l => A.okB l → QL w0 l) fun l ih hok => olist_step hT (fun j h => ⟨(ih j h).1 (A.okS_open (hok.get j h)).body, (ih j h).2 (A.okS_open (hok.get j h)).els⟩) hok
  exact this
end Go.Proofs.YtnelpgeiioflmaaGreatDoor.Y
namespace Go.Proofs.YtnelpgeiioflmaaGreatDoor.Y
open Go.RowKit
open L (Str isName prt size_len below_2 below_box ret_bool ret_int eql_eq bytes_eq)
open A (Ex St Pm Pr V arity vE vEs absent exV exO Bx RowK Own1 exV_mk exO_mk okE cE PmsAt StrsAt pmV)

theorem isIn_app (x y : ByteArray) (l : List ByteArray) : isIn x (l ++ [y]) = (decide (y = x) || isIn x l) := by
  unfold isIn
  rw [List.any_append, Bool.or_comm]
  simp
theorem rep_drop {l : List ByteArray} {k : Nat} (hk : k < l.length) : rep (l.take k) (l.drop k) = (isIn l[k] (l.take k) || rep (l.take (k + 1)) (l.drop (k + 1))) := by
  rw [List.drop_eq_getElem_cons hk, rep, List.take_succ_eq_append_getElem hk]
theorem setB_is (m : List ByteArray) (x : ByteArray) : setB (fun y => isIn y m) x = fun y => isIn y (m ++ [x]) := by
  funext y
  rw [isIn_app]; rfl
set_option maxHeartbeats 4000000 in
set_option maxRecDepth 100000 in
theorem orepeats_any (l : List ByteArray) (a : Option Addr) (c : Nat) (hl : l.length ≤ 100000) (hs : ∀ x ∈ l, x.size ≤ 1000000000000000) (w : World) (hK : StrsAt w a l) :
    Calls Tryz.prog 84 #[.slice a l.length c] w fun e' w' => e' = .returned (.bool (rep [] l)) ∧ Below w.heap.size w w' := by
  have HK := Lib.hid hK
  have HS := Lib.hid hs
  obtain ⟨R, hR⟩ : ∃ R, rep [] l = R := ⟨_, rfl⟩
  rw [hR]
  have HR : Hid (rep (l.take 0) (l.drop 0) = R) := hR
  have HM0 := Lib.hid (MB.made w)
  obtain ⟨m, hm⟩ : ∃ m, l.length = m := ⟨_, rfl⟩
  have HL := Lib.hid hm
  rw [hm] at hl ⊢
  have hmm := @run_makeMap Tryz.prog
  clear hm hR hK hs
  go_enter Tryz.func84, Tryz.ntmps84
  go_wp2_with fail
  go_loopw [9] (fun s9 wr => ∃ k : Nat, k ≤ m ∧ s9 = .int .i64 k ∧ Hid (rep (l.take k) (l.drop k) = R) ∧ Hid (MB wr w.heap.size k (fun y => isIn y (l.take k))) ∧ Hid (Below w.heap.size w wr)) (fun s9 _ => m - (intOf s9).toNat)
  case atStart => exact ⟨0, Nat.zero_le _, rfl, HR, HM0, (Below.refl _ _).alloc (Nat.le_refl _) _⟩
  case round =>
    obtain ⟨k, hk, rfl, HX, HM, HB⟩ := hrel
    by_cases hlt : k < m
    · have hlx : k < l.length := by rw [HL.out]; exact hlt
      obtain ⟨b3, i3, rfl, hc⟩ := (HK.out.below HB.out).open hlx
      have f0 := hc k hlx
      have hx := HX.out
      rw [rep_drop hlx] at hx
      have hsz := HS.out _ (List.getElem_mem hlx)
      have htk : l.take (k + 1) = l.take k ++ [l[k]] := List.take_succ_eq_append_getElem hlx
      have HTK := Lib.hid htk
      generalize l[k] = x at f0 hx hsz HTK
      have hlook := HM.out.look (x := x) (by unfold maxLen; omega) 54 Tryz.underlying54
      have HM2 := Lib.hid HM.out
      obtain ⟨y, hy⟩ : ∃ y, isIn x (l.take k) = y := ⟨_, rfl⟩
      simp only [hy] at hlook hx
      clear hc htk hy
      cases y
      · rw [Bool.false_or] at hx
        have HX2 := Lib.hid hx
        clear hx
        go_wp2_with (at_mapUpdate; refine wpList_set rfl _ _ _ 54 rfl Tryz.underlying54 w.heap.size k _ rfl HM2.out (by unfold maxLen; omega) x rfl (by unfold maxLen; omega) rfl ?_; intro w5 hm5 ho5)
        have HM5 : Hid (MB w5 w.heap.size (k + 1) (fun y => isIn y (l.take (k + 1)))) := by
          show MB _ _ _ _
          rw [HTK.out, ← setB_is]; exact hm5
        have HB5 : Hid (Below w.heap.size w w5) := HB.out.grown ho5.grown HB.out.size (fun j hj => by cases hj; exact Nat.le_refl _)
        clear hm5 ho5
        go_wp2_with fail
        go_roundw
        case rel => exact ⟨k + 1, by omega, by go_num, HX2.out, HM5.out, HB5.out⟩
        case measure => simp [intOf]; omega
      · rw [Bool.true_or] at hx
        have HX2 := Lib.hid hx
        clear hx
        go_wp2_with fail
        go_ret
        exact ⟨ret_bool HX2.out, HB.out⟩
    · have HV : Hid (false = R) := by
        show _ = _
        rw [← HX.out, List.drop_of_length_le (by rw [HL.out]; omega), rep]
      go_wp2_with fail
      go_ret
      exact ⟨ret_bool HV.out, HB.out⟩
set_option maxHeartbeats 2000000 in
set_option maxRecDepth 100000 in
theorem oisBool_any (q : Pm) (w : World) : Calls Tryz.prog 82 #[pmV q] w fun e' w' => e' = .returned (.bool (decide (q.ty = 3))) ∧ Below w.heap.size w w' := by
  have HW := Lib.hid (below_box w (.cells #[.string q.name, .int .i64 q.ty] 49))
  have hb : (q.ty == 3) = decide (q.ty = 3) := Bool.beq_eq_decide_eq _ _
  generalize decide (q.ty = 3) = y at *
  unfold pmV
  go_enter Tryz.func82, Tryz.ntmps82
  go_wp2_with fail
  go_ret
  exact ⟨rfl, HW.out⟩
def idxB : List Pm → Nat → Int
  | [], _ => -1
  | q :: r, k => if decide (q.ty = 3) = true then (k : Int) else idxB r (k + 1)
theorem idxB_any : ∀ (l : List Pm) (k : Nat), decide (0 ≤ idxB l k) = l.any (fun q => decide (q.ty = 3))
  | [], k => rfl
  | q :: r, k => by
    rw [idxB, List.any_cons]
    cases h : decide (q.ty = 3)
    · rw [if_neg (by decide), Bool.false_or]; exact idxB_any r (k + 1)
    · rw [if_pos rfl, Bool.true_or]; exact decide_eq_true (by omega)
set_option maxHeartbeats 4000000 in
set_option maxRecDepth 100000 in
theorem oindexB_any (l : List Pm) (a : Option Addr) (c : Nat) (hl : l.length ≤ 1000000000000000) (w : World) (hK : PmsAt w a l) :
    Calls Tryz.prog 101 #[.slice a l.length c, .func (Fn.func 82) #[] #[]] w fun e' w' => e' = .returned (.int .i64 (idxB l 0)) ∧ Below w.heap.size w w' := by
  have HK := Lib.hid hK
  obtain ⟨R, hR⟩ : ∃ R, idxB l 0 = R := ⟨_, rfl⟩
  rw [hR]
  have HR : Hid (idxB (l.drop 0) 0 = R) := hR
  obtain ⟨m, hm⟩ : ∃ m, l.length = m := ⟨_, rfl⟩
  have HL := Lib.hid hm
  rw [hm] at hl ⊢
  clear hm hR hK
  go_enter Tryz.func101, Tryz.ntmps101
  go_wp2_with fail
  go_loopw [8] (fun s8 wr => ∃ k : Nat, k ≤ m ∧ s8 = .int .i64 k ∧ Hid (idxB (l.drop k) k = R) ∧ Hid (Below w.heap.size w wr)) (fun s8 _ => m - (intOf s8).toNat)
  case atStart => exact ⟨0, Nat.zero_le _, rfl, HR, Below.refl _ _⟩
  case round =>
    obtain ⟨k, hk, rfl, HX2, HB⟩ := hrel
    by_cases hlt : k < m
    · have hlx : k < l.length := by rw [HL.out]; exact hlt
      have hx := HX2.out
      rw [List.drop_eq_getElem_cons hlx, idxB] at hx
      obtain ⟨b3, i3, rfl, hc⟩ := (HK.out.below HB.out).open hlx
      obtain ⟨f0, f1⟩ := hc k hlx
      have HC := Lib.hid (oisBool_any l[k] wr)
      generalize l[k] = q at f0 f1 HC hx
      generalize decide (q.ty = 3) = y at HC hx
      unfold pmV at HC
      clear hc
      cases y
      · rw [if_neg (by decide)] at hx
        have HN := Lib.hid hx
        clear hx
        go_wp2_with fail
        refine HC.out.mono ?_; rintro e w2 ⟨rfl, hb2⟩
        have HB2 := Lib.hid (below_2 HB.out hb2)
        clear hb2
        go_wp2_with fail
        go_roundw
        case rel => exact ⟨k + 1, by omega, by go_num, HN, HB2⟩
        case measure => simp [intOf]; omega
      · rw [if_pos rfl] at hx
        have HV := Lib.hid hx
        clear hx
        go_wp2_with fail
        refine HC.out.mono ?_; rintro e w2 ⟨rfl, hb2⟩
        have HB2 := Lib.hid (below_2 HB.out hb2)
        clear hb2
        go_wp2_with fail
        go_ret
        exact ⟨ret_int HV.out, HB2.out⟩
    · have HV : Hid (-1 = R) := by
        show _ = _
        rw [← HX2.out, List.drop_of_length_le (by rw [HL.out]; omega), idxB]
      go_wp2_with fail
      go_ret
      exact ⟨ret_int HV.out, HB.out⟩
set_option maxHeartbeats 2000000 in
set_option maxRecDepth 100000 in
theorem ocontainsB_any (l : List Pm) (a : Option Addr) (c : Nat) (hl : l.length ≤ 1000000000000000) (w : World) (hK : PmsAt w a l) :
    Calls Tryz.prog 83 #[.slice a l.length c, .func (Fn.func 82) #[] #[]] w fun e' w' => e' = .returned (.bool (l.any (fun q => decide (q.ty = 3)))) ∧ Below w.heap.size w w' := by
  have HC := Lib.hid (oindexB_any l a c hl w hK)
  have hv := idxB_any l 0
  generalize idxB l 0 = r at HC hv
  generalize l.any (fun q => decide (q.ty = 3)) = y at hv ⊢
  generalize l.length = m at HC ⊢
  clear hl hK
  go_enter Tryz.func83, Tryz.ntmps83
  go_wp2_with fail
  refine HC.out.mono ?_; rintro e w2 ⟨rfl, hb2⟩
  have HB2 := Lib.hid hb2
  clear hb2
  go_wp2_with fail
  go_ret
  exact ⟨rfl, HB2.out⟩
end Go.Proofs.YtnelpgeiioflmaaGreatDoor.Y
namespace Go.Proofs.YtnelpgeiioflmaaGreatDoor.Y
open Go.RowKit
open L (Str isName prt size_len below_2 below_box ret_bool ret_int eql_eq bytes_eq)
open A (Ex St Pm Pr V arity vE vEs absent exV exO Bx RowK Own1 exV_mk exO_mk okE cE PmsAt StrsAt pmV PrIn OkP prV prO names valE GivesN)

theorem CK.new (w : World) : CK (((w.alloc (.map #[] 0)).alloc (.map #[] 0)).alloc (.cells #[.map (some w.heap.size), .map (some (w.heap.size + 1)), .slice none 0 0] 105)) w.heap.size (fun _ => False) (w.heap.size + 1 + 1) w.heap.size (w.heap.size + 1) 0 cx0 := by
  have z1 : (w.alloc (.map #[] 0)).heap.size = w.heap.size + 1 := by simp
  have z2 : ((w.alloc (.map #[] 0)).alloc (.map #[] 0)).heap.size = w.heap.size + 1 + 1 := by simp
  refine ⟨none, 0, ?_, ?_, ?_, Own1.nil, ⟨by omega, by omega, by omega⟩, ⟨by omega, by omega, by omega⟩, ⟨fun h => h, fun h => h, fun h => h⟩, Nat.le_refl _, fun k h => h.elim⟩
  · have := Bx.new ((w.alloc (.map #[] 0)).alloc (.map #[] 0)) #[.map (some w.heap.size), .map (some (w.heap.size + 1)), .slice none 0 0] 105
    rw [z2] at this; exact this
  · exact ((MI.made w).below (below_box _ _)).below (below_box _ _)
  · have := MB.made (w.alloc (.map #[] 0))
    rw [z1] at this
    exact this.below (below_box _ _)
theorem val_body {p : Pr} (h : valE p = 0) : gB p.body ∧ (dB p.body).length ≤ 400 ∧ (∀ q ∈ p.params, 1 ≤ q.ty ∧ q.ty ≤ 3) ∧ (∀ q ∈ p.params, q.name.size ≤ 16) ∧ p.params.length ≤ 6 ∧ ∀ x ∈ names p, x.size ≤ 16 := by
  obtain ⟨-, hp2, hp3, hp4⟩ := A.val_parts h
  have hw := A.walk_full hp4
  refine ⟨gB_of p.body 1 fun s d hm => A.first_each hp3 s d (by rw [hw]; exact hm), ?_, par_ty hp2, fun q hq => nam_size ((A.par_each hp2).2 q hq), (A.par_each hp2).1, fun x hx => nam_size (A.declared h hx).1⟩
  rw [← dB_walk p.body 1, ← hw]
  exact Nat.le_trans (List.length_filterMap_le _ _) hp4
theorem decls_drop (c : Cx) {l : List Pm} {k : Nat} (hk : k < l.length) : c.decls (l.drop k) = (c.declare l[k].name l[k].ty).decls (l.drop (k + 1)) := by
  rw [List.drop_eq_getElem_cons hk, Cx.decls]
def GivesC (w : World) (r : List Pm × Int) (e' : Ending) (w' : World) : Prop := ∃ p q, e' = .returned (.tuple #[.slice p r.1.length q, .int .i64 r.2]) ∧ r.1.length ≤ q ∧ PmsAt w' p r.1 ∧ Below w.heap.size w w'
theorem GivesC.bad {w w' : World} {x : Int} (h : Below w.heap.size w w') : GivesC w ([], x) (.returned (.tuple #[.slice none 0 0, .int .i64 x])) w' := ⟨none, 0, rfl, Nat.le_refl _, Or.inl rfl, h⟩
set_option maxHeartbeats 8000000 in
set_option maxRecDepth 100000 in
theorem ocheck_any (p : Pr) (a1 a2 : Option Addr) (c1 c2 : Nat) (hok : OkP p) (hsz : A.cB p.body ≤ 900000) (hpl : p.params.length ≤ 1000) (hps : ∀ j (h : j < p.params.length), p.params[j].name.size ≤ 281474976710656) (hc1 : p.params.length ≤ c1) (w : World) (ht : Tb w) (hK : PrIn w p a1 a2) :
    Calls Tryz.prog 64 #[prV p a1 c1 a2 c2] w (GivesC w (chk p)) := by
  have hb := below_box w (prO p a1 c1 a2 c2)
  have hbx := Bx.new w #[.string p.name, .slice a1 p.params.length c1, .slice a2 p.body.length c2] 25
  have HV := Lib.hid (A.ovalidate_any p a1 a2 c1 c2 hok hsz hc1 _ (hK.below hb))
  have HC := Lib.hid (fun w' hK => ocontainsB_any p.params a1 c1 (by omega) w' hK)
  have HNM := Lib.hid (fun w' hK => A.onames_any p a1 a2 c1 c2 hok hsz hpl hps w' hK)
  have HQ := Lib.hid (fun (w0 : World) (hT : Tb w0) => olist_any hT p.body hok.body)
  have hbl := hok.bodyLen
  have hnl := A.names_len p hpl
  have HB := Lib.hid hb
  have HBX := Lib.hid hbx
  have HK := Lib.hid (hK.below hb)
  have HT := Lib.hid (ht.below hb)
  have HVB := Lib.hid (val_body (p := p))
  have hch : chk p = if valE p ≠ 0 then ([], valE p) else if anyB p then ([], 10) else if rep [] (names p) then ([], 8) else if (run p).2 ≠ 0 then ([], (run p).2) else ((run p).1.decl, 0) := rfl
  obtain ⟨R, hR⟩ : ∃ R, chk p = R := ⟨_, rfl⟩
  rw [hR] at hch ⊢
  have HR := Lib.hid hch
  have hmm := @run_makeMap Tryz.prog
  have HAB : Hid (p.params.any (fun q => decide (q.ty = 3)) = anyB p) := rfl
  obtain ⟨m, hm⟩ : ∃ m, p.params.length = m := ⟨_, rfl⟩
  have HL := Lib.hid hm
  unfold prO at *
  unfold prV at *
  rw [hm] at HV HC HNM HB HBX HK HT hpl ⊢
  clear hok hsz hps hc1 hK hb hbx ht hm hch hR
  by_cases h0 : valE p = 0
  case neg =>
    have b1 : (valE p != 0) = true := bne_iff_ne.2 h0
    have hr : R = ([], valE p) := by rw [HR.out, if_pos h0]
    have HP : Hid (∀ w', Below w.heap.size w w' → GivesC w R (.returned (.tuple #[.slice none 0 0, .int .i64 (valE p)])) w') := fun w' h => by rw [hr]; exact GivesC.bad h
    clear hr h0
    generalize valE p = x at *
    go_enter Tryz.func64, Tryz.ntmps64
    go_wp2_with fail
    refine HV.out.mono ?_; rintro e' w2 ⟨rfl, hb2⟩
    have HB2 := Lib.hid (below_2 HB.out hb2)
    clear hb2
    go_wp2_with fail
    go_ret2
    exact HP.out _ HB2.out
  have hvb := HVB.out h0
  rw [h0] at HV
  have HR0 : Hid (R = if anyB p then ([], 10) else if rep [] (names p) then ([], 8) else if (run p).2 ≠ 0 then ([], (run p).2) else ((run p).1.decl, 0)) := by show _ = _; rw [HR.out, if_neg (fun z => z h0)]
  clear h0 HVB
  go_enter Tryz.func64, Tryz.ntmps64
  go_wp2_with fail
  refine HV.out.mono ?_; rintro e' w2 ⟨rfl, hb2⟩
  have HB2 := Lib.hid hb2
  have hbx2 := HBX.out.below hb2
  have x1 := hbx2.cell 1
  simp at x1
  have HC2 := Lib.hid (HC.out w2 (HK.out.below hb2).params)
  rw [HAB.out] at HC2
  have HBX2 := Lib.hid hbx2
  clear hb2 hbx2
  go_wp2_with fail
  refine HC2.out.mono ?_; rintro e' w3 ⟨rfl, hb3⟩
  have HB3 := Lib.hid (below_2 HB2.out hb3)
  clear hb3 x1
  cases hab : anyB p
  case true =>
    have hr : R = ([], 10) := by rw [HR0.out, if_pos hab]
    have HP : Hid (GivesC w R (.returned (.tuple #[.slice none 0 0, .int .i64 10])) w3) := by rw [hr]; exact GivesC.bad (below_2 HB.out HB3.out)
    clear hr hab
    go_wp2_with fail
    go_ret2
    exact HP.out
  have HR1 : Hid (R = if rep [] (names p) then ([], 8) else if (run p).2 ≠ 0 then ([], (run p).2) else ((run p).1.decl, 0)) := by show _ = _; rw [HR0.out, if_neg (by rw [hab]; decide)]
  have hbx3 := HBX.out.below HB3.out
  have x0 := hbx3.cell 0
  have x1 := hbx3.cell 1
  have x2 := hbx3.cell 2
  simp at x0 x1 x2
  have HN3 := Lib.hid (HNM.out w3 (HK.out.below HB3.out))
  clear hab hbx3 HC2
  go_wp2_with fail
  refine HN3.out.mono ?_; rintro e' w4 ⟨pn, qn, rfl, hqn, hsn, hb4⟩
  have HRP := Lib.hid (orepeats_any (names p) pn qn (by omega) (fun x hx => by have := hvb.2.2.2.2.2 x hx; omega) w4 hsn)
  have HB4 := Lib.hid (below_2 HB3.out hb4)
  generalize (names p).length = nn at *
  generalize rep [] (names p) = rp at *
  clear hb4 x0 x1 x2 hsn hqn
  go_wp2_with fail
  refine HRP.out.mono ?_; rintro e' w5 ⟨rfl, hb5⟩
  have HB5 := Lib.hid (below_2 HB4.out hb5)
  clear hb5
  cases rp
  case true =>
    have hr : R = ([], 8) := by rw [HR1.out, if_pos rfl]
    have HP : Hid (GivesC w R (.returned (.tuple #[.slice none 0 0, .int .i64 8])) w5) := by rw [hr]; exact GivesC.bad (below_2 HB.out HB5.out)
    clear hr
    go_wp2_with fail
    go_ret2
    exact HP.out
  have HR2 : Hid (R = if (run p).2 ≠ 0 then ([], (run p).2) else ((run p).1.decl, 0)) := by show _ = _; rw [HR1.out, if_neg (by decide)]
  have HK0 := Lib.hid (CK.new w5)
  have hbx5 := HBX.out.below HB5.out
  have hKb := (HK.out.below HB5.out)
  have HBX5 := Lib.hid hbx5
  have HKb := Lib.hid hKb
  have HT5 := Lib.hid (HT.out.below HB5.out)
  have x1 := hbx5.cell 1
  simp at x1
  have x1a := ((below_box w5 (.map #[] 0)).cell (block_lt_of_cell x1)).trans x1
  have x1b := ((below_box _ (.map #[] 0)).cell (block_lt_of_cell x1a)).trans x1a
  have x1c := ((below_box _ (.cells #[.map (some w5.heap.size), .map (some (w5.heap.size + 1)), .slice none 0 0] 105)).cell (block_lt_of_cell x1b)).trans x1b
  have HX0 : Hid (cx0.decls (p.params.drop 0) = cx0.decls p.params) := rfl
  clear hbx5 hKb
  go_wp2_with fail
  go_loopw [30] (fun s30 wr => ∃ (k : Nat) (ck : Cx) (nk : Nat), k ≤ m ∧ s30 = .int .i64 k ∧ Hid (ck.decls (p.params.drop k) = cx0.decls p.params) ∧ Hid (nk ≤ k) ∧ Hid (CK wr w5.heap.size (fun _ => False) (w5.heap.size + 1 + 1) w5.heap.size (w5.heap.size + 1) nk ck) ∧ Hid (Below w5.heap.size w5 wr)) (fun s30 _ => m - (intOf s30).toNat)
  case atStart => exact ⟨0, cx0, 0, Nat.zero_le _, rfl, HX0, Nat.le_refl _, HK0, below_2 (below_2 (below_box _ _) (below_box _ _)) (below_box _ _)⟩
  case round =>
    obtain ⟨k, ck, nk, hk, rfl, HX, HN, HCk, HBr⟩ := hrel
    by_cases hlt : k < m
    · have hlx : k < p.params.length := by rw [HL.out]; exact hlt
      obtain ⟨b3, i3, rfl, hcc⟩ := (HKb.out.params.below HBr.out).open hlx
      obtain ⟨f0, f1⟩ := hcc k hlx
      have hx := HX.out
      rw [decls_drop _ hlx] at hx
      have hqt := hvb.2.2.1 _ (List.getElem_mem hlx)
      have hqn := hvb.2.2.2.1 _ (List.getElem_mem hlx)
      generalize p.params[k] = q at f0 f1 hx hqt hqn
      have HX2 := Lib.hid hx
      have hb0 := below_box wr (.cells #[.string q.name, .int .i64 q.ty] 49)
      have HD := Lib.hid (odeclare_any (HCk.out.below hb0) q.name (by omega) q.ty (by omega) (by have := HN.out; omega))
      have HB0 := Lib.hid (below_2 HBr.out hb0)
      clear hcc hx hb0 x1 x1a x1b x1c
      go_wp2_with fail
      refine HD.out.mono ?_; rintro e' w7 ⟨rfl, hc7, hk7⟩
      have HC7 := Lib.hid hc7
      have HB7 : Hid (Below w5.heap.size w5 w7) := HB0.out.trans hk7.below
      clear hc7 hk7
      go_wp2_with fail
      go_roundw
      case rel => exact ⟨k + 1, ck.declare q.name q.ty, nk + 1, by omega, by go_num, HX2.out, by have := HN.out; show _ ≤ _; omega, HC7.out, HB7.out⟩
      case measure => simp [intOf]; omega
    · have hX := HX.out
      rw [List.drop_of_length_le (by rw [HL.out]; omega), Cx.decls] at hX
      subst hX
      have hbx6 := HBX5.out.below HBr.out
      have x2 := hbx6.cell 2
      simp at x2
      have HLS := Lib.hid (HQ.out w5 HT5.out a2 c2 _ _ _ nk _ _ wr hvb.1 hbl HBr.out HKb.out.body HCk.out (by have := hvb.2.1; have := HN.out; omega))
      have hrun : run p = lst (ckB (cx0.decls p.params) p.body) p.body := rfl
      rw [hrun] at HR2
      generalize lst (ckB (cx0.decls p.params) p.body) p.body = r at HLS HR2
      clear hbx6 x1 x1a x1b x1c hrun
      go_wp2_with fail
      refine HLS.out.mono ?_; rintro e' w7 ⟨rfl, hc7, hk7⟩
      have HB7 : Hid (Below w.heap.size w w7) := below_2 HB.out (below_2 HB5.out (HBr.out.trans hk7.below))
      by_cases hz : r.2 = 0
      · have b1 : (r.2 != 0) = false := by rw [hz]; rfl
        have hr : R = (r.1.decl, 0) := by rw [HR2.out, if_neg (fun z => z hz)]
        obtain ⟨p9, q9, hk9⟩ := hc7
        have g2 := hk9.box.cell 2
        simp only [List.getElem?_toArray, List.getElem?_cons_succ, List.getElem?_cons_zero] at g2
        have HP : Hid (GivesC w R (.returned (.tuple #[.slice p9 r.1.decl.length q9, .int .i64 0])) w7) := by
          rw [hr]
          obtain ⟨_, _, hsh, hle⟩ := hk9.row.shape
          have hq : r.1.decl.length ≤ q9 := by injection hsh with h1 h2 h3; omega
          exact ⟨p9, q9, rfl, hq, own_pms hk9.row, HB7.out⟩
        clear hr hz hk9 hk7
        go_wp2_with fail
        go_ret2
        exact HP.out
      · have b1 : (r.2 != 0) = true := bne_iff_ne.2 hz
        have hr : R = ([], r.2) := by rw [HR2.out, if_pos hz]
        have HP : Hid (GivesC w R (.returned (.tuple #[.slice none 0 0, .int .i64 r.2])) w7) := by rw [hr]; exact GivesC.bad HB7.out
        clear hr hz hc7 hk7
        go_wp2_with fail
        go_ret2
        exact HP.out
set_option maxHeartbeats 4000000 in
set_option maxRecDepth 100000 in
theorem oCheck_any (p : Pr) (a1 a2 : Option Addr) (c1 c2 : Nat) (hok : OkP p) (hsz : A.cB p.body ≤ 900000) (hpl : p.params.length ≤ 1000) (hps : ∀ j (h : j < p.params.length), p.params[j].name.size ≤ 281474976710656) (hc1 : p.params.length ≤ c1) (w : World) (ht : Tb w) (hK : PrIn w p a1 a2) :
    Calls Tryz.prog 43 #[prV p a1 c1 a2 c2] w fun e' w' => e' = .returned (.int .i64 (chk p).2) ∧ Below w.heap.size w w' := by
  have hb := below_box w (prO p a1 c1 a2 c2)
  have HC := Lib.hid (ocheck_any p a1 a2 c1 c2 hok hsz hpl hps hc1 _ (ht.below hb) (hK.below hb))
  have HB := Lib.hid hb
  generalize chk p = R at *
  obtain ⟨r1, r2⟩ := R
  unfold prO at *
  unfold prV at *
  clear hok hsz hpl hps hc1 hK hb ht
  go_enter Tryz.func43, Tryz.ntmps43
  go_wp2_with fail
  refine HC.out.mono ?_; rintro e' w2 ⟨p9, q9, rfl, hle, hp, hb2⟩
  have HB2 := Lib.hid (below_2 HB.out hb2)
  clear hle hp hb2
  go_wp2_with fail
  go_ret
  exact ⟨rfl, HB2.out⟩
end Go.Proofs.YtnelpgeiioflmaaGreatDoor.Y
