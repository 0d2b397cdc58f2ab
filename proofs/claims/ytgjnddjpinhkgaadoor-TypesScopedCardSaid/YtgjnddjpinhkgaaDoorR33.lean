/-
  Declarations of texts that lie merged: what further laws need of YLM, YLQ, YIS, YLS, YLT.
-/
import Derived.Test.YtgjnddjpinhkgaaDoorR32
import Derived.Test.YtgjnddjpinhkgaaDoorR31
import Derived.Test.YtgjnddjpinhkgaaDoorR30
import Derived.Test.YtgjnddjpinhkgaaDoorM19
import Derived.Test.YtgjnddjpinhkgaaDoorM10
import Derived.Test.YtgjnddjpinhkgaaDoorQYLR
import Derived.Test.YtgjnddjpinhkgaaDoorQYLK
import Derived.Test.YtgjnddjpinhkgaaDoorQARM
import Derived.Deep.AppendLies
import Derived.Deep.QuietTactic
import Derived.BigQuiet
namespace Go.Proofs.YtgjnddjpinhkgaaDoor.Y
open Go.RowKit
open L (Str isName prt size_len below_2 below_box ret_bool ret_int eql_eq bytes_eq)
open A (Ex St Pm Pr V arity vE vEs absent exV exO exV_mk Bx okE okEs cE cEs PmsAt StrsAt PrIn OkP prV prO names valE ExsAt ExAt StsAt StAt Bodies RowK Own1 Stays okS okB cS cB preS preB preR preE walk VT vcs vs small)
open P (G Kd On off_of wp_region_G)
theorem small_fx {p : Pr} {m : Nat} (h : small p m = true) : p.params.length ≤ 40 ∧ (∀ j (h : j < p.params.length), p.params[j].name.size ≤ 281474976710656) ∧ cB p.body ≤ m := by
  unfold small at h
  simp only [Bool.and_eq_true, decide_eq_true_iff, List.all_eq_true] at h
  obtain ⟨⟨⟨h1, h2⟩, h3⟩, h4⟩ := h
  exact ⟨h1, fun j hj => by have := h3 _ (List.getElem_mem hj); omega, h4⟩
end Go.Proofs.YtgjnddjpinhkgaaDoor.Y
namespace Go.Proofs.YtgjnddjpinhkgaaDoor.Y
open Go.RowKit
open L (Str isName prt size_len below_2 below_box ret_bool ret_int eql_eq bytes_eq)
open A (Ex St Pm Pr V arity vE vEs absent exV exO exV_mk Bx okE okEs cE cEs PmsAt StrsAt PrIn OkP prV prO names valE ExsAt ExAt StsAt StAt Bodies RowK Own1 Stays)
open P (G Kd On off_of wp_region_G)
theorem isIn_drop {x : ByteArray} {l : List ByteArray} {k : Nat} (hk : k < l.length) : isIn x (l.drop k) = (decide (l[k] = x) || isIn x (l.drop (k + 1))) := by
  rw [List.drop_eq_getElem_cons hk]; unfold isIn; rw [List.any_cons]
set_option maxHeartbeats 4000000 in
set_option maxRecDepth 100000 in
theorem has_any (l : List ByteArray) (a : Option Addr) (c : Nat) (x : ByteArray) (hl : l.length ≤ 1000000000000000) (w : World) (hK : StrsAt w a l) :
    Calls Tryd.prog 20 #[.slice a l.length c, .string x] w fun e' w' => e' = .returned (.bool (isIn x l)) ∧ w' = w := by
  have HK := Lib.hid hK
  obtain ⟨R, hR⟩ : ∃ R, isIn x l = R := ⟨_, rfl⟩
  rw [hR]
  have HR : Hid (isIn x (l.drop 0) = R) := hR
  obtain ⟨m, hm⟩ : ∃ m, l.length = m := ⟨_, rfl⟩
  have HL := Lib.hid hm
  rw [hm] at hl ⊢
  clear hm hR hK
  go_enter Tryd.func20, Tryd.ntmps20
  go_wp2_with fail
  go_loopw [5] (fun s5 wr => ∃ k : Nat, k ≤ m ∧ s5 = .int .i64 k ∧ Hid (isIn x (l.drop k) = R) ∧ wr = w) (fun s5 _ => m - (intOf s5).toNat)
  case atStart => exact ⟨0, Nat.zero_le _, rfl, HR, rfl⟩
  case round =>
    obtain ⟨k, hk, rfl, HX, rfl⟩ := hrel
    by_cases hlt : k < m
    · have hlx : k < l.length := by rw [HL.out]; exact hlt
      obtain ⟨b3, i3, rfl, hcc⟩ := HK.out.open hlx
      have f0 := hcc k hlx
      have hx := HX.out
      rw [isIn_drop hlx] at hx
      generalize l[k] = q at f0 hx
      have hb := A.bytes_dec q x
      clear hcc
      by_cases hn : q = x
      · rw [decide_eq_true hn] at hb hx
        have HV : Hid (true = R) := hx
        clear hn hx
        go_wp2_with fail
        go_ret
        exact ⟨ret_bool HV.out, rfl⟩
      · rw [decide_eq_false hn] at hb hx
        have HX2 : Hid (isIn x (l.drop (k + 1)) = R) := hx
        clear hn hx
        go_wp2_with fail
        go_roundw
        case rel => exact ⟨k + 1, by omega, by go_num, HX2, trivial⟩
        case measure => simp [intOf]; omega
    · have hx := HX.out
      rw [List.drop_of_length_le (by have := HL.out; omega)] at hx
      have HV : Hid (false = R) := hx
      clear hx
      go_wp2_with fail
      go_ret
      exact ⟨ret_bool HV.out, rfl⟩
theorem knEs_drop {ns : List ByteArray} {l : List Ex} {k : Nat} (hk : k < l.length) : knEs ns (l.drop k) = (knE ns l[k] && knEs ns (l.drop (k + 1))) := by
  rw [List.drop_eq_getElem_cons hk, knEs]
def QN (ns : List ByteArray) (e : Ex) : Prop := ∀ (a : Option Addr) (c : Nat) (la : Option Addr) (lc : Nat) (w : World), okE e → StrsAt w la ns → A.Kids w a e.args →
  Calls Tryd.prog 42 #[exV e a c, .slice la ns.length lc] w fun e' w' => e' = .returned (.bool (knE ns e)) ∧ Below w.heap.size w w'
set_option maxHeartbeats 8000000 in
set_option maxRecDepth 100000 in
theorem known_any {ns : List ByteArray} (hns : ns.length ≤ 1000000000000000) : ∀ e, QN ns e := by
  refine A.Ex.ind (P := QN ns) ?_
  intro o n s l ih a c la lc w hok hS hK
  have hK' : A.Kids w a l := hK
  have hb := below_box w (exO (.mk o n s l) a c)
  have hbx := Bx.new w #[.int .i64 o, .int .i64 n, .string s, .slice a l.length c] 52
  have HB := Lib.hid hb
  have HX := Lib.hid hbx
  have HK := Lib.hid (hK'.below hb)
  have HS := Lib.hid (hS.below hb)
  have HH := Lib.hid (fun w' h => has_any ns la lc s hns w' h)
  have hokl : ∀ x ∈ l, okE x := by
    rw [okE] at hok
    exact fun x hx => by
      obtain ⟨j, hj, rfl⟩ := List.getElem_of_mem hx
      exact A.okEs.get hok.2.2.2.2 j hj
  have hll : l.length ≤ 1000000000000000 := by rw [okE] at hok; exact hok.2.2.2.1
  have HIH : Hid (∀ (k : Nat) (h : k < l.length) a2 c2 w', StrsAt w' la ns → A.Kids w' a2 l[k].args → Calls Tryd.prog 42 #[exV l[k] a2 c2, .slice la ns.length lc] w' fun e' w'' => e' = .returned (.bool (knE ns l[k])) ∧ Below w'.heap.size w' w'') :=
    fun k h a2 c2 w' h1 h2 => ih k h a2 c2 la lc w' (hokl _ (List.getElem_mem h)) h1 h2
  rw [knE]
  simp only [exV_mk]
  simp only [A.exO_mk] at HX HB HK HS
  obtain ⟨g, hg⟩ : ∃ g, l.length = g := ⟨_, rfl⟩
  have HL := Lib.hid hg
  obtain ⟨mm, hmm⟩ : ∃ g, ns.length = g := ⟨_, rfl⟩
  simp only [hmm] at HH HIH ⊢
  rw [hg] at hll HX HB HK HS ⊢
  have HG : Hid (knEs ns (l.drop 0) = knEs ns l) := rfl
  obtain ⟨R, hR⟩ : ∃ R, knEs ns l = R := ⟨_, rfl⟩
  rw [hR] at HG ⊢
  clear hg hmm hR ih hok hS hK hK' hb hbx hokl
  generalize isIn s ns = q at HH ⊢
  by_cases h3 : o = 3
  · subst h3
    have x0 := HX.out.cell 0
    go_enter Tryd.func42, Tryd.ntmps42
    go_wp2_with fail
    refine (HH.out _ HS.out).mono ?_; rintro e w2 ⟨rfl, rfl⟩
    cases q with
    | false =>
      go_wp2_with fail
      go_ret
      exact ⟨ret_bool (by simp), HB.out⟩
    | true =>
      go_wp2_with fail
      go_loopw [5] (fun s5 wr => ∃ k : Nat, k ≤ g ∧ s5 = .int .i64 k ∧ Hid (knEs ns (l.drop k) = R) ∧ Hid (Below (w.alloc (.cells #[.int .i64 3, .int .i64 n, .string s, .slice a g c] 52)).heap.size (w.alloc (.cells #[.int .i64 3, .int .i64 n, .string s, .slice a g c] 52)) wr)) (fun s5 _ => g - (intOf s5).toNat)
      case atStart => exact ⟨0, Nat.zero_le _, rfl, HG, Below.refl _ _⟩
      case round =>
        obtain ⟨k, hk, rfl, HG2, HBr⟩ := hrel
        have z0 := (HX.out.below HBr.out).cell 0
        have z1 := (HX.out.below HBr.out).cell 1
        have z2 := (HX.out.below HBr.out).cell 2
        have z3 := (HX.out.below HBr.out).cell 3
        have HBB := Lib.hid (below_2 HB.out HBr.out)
        by_cases hlt : k < g
        · have hlx : k < l.length := by rw [HL.out]; exact hlt
          obtain ⟨b2, i2, rfl, hat⟩ := (HK.out.below HBr.out).open hlx
          obtain ⟨d0, d1, d2, a2, cc, d3, hk2⟩ := hat.open
          have HCC := Lib.hid (HIH.out k hlx a2 cc _ (HS.out.below HBr.out) hk2)
          have hG := HG2.out
          rw [knEs_drop hlx] at hG
          clear hat hk2
          unfold exV at HCC
          generalize knE ns l[k] = y at HCC hG
          generalize l[k].args.length = m2 at d3 HCC
          generalize l[k].op = o2 at d0 HCC
          generalize l[k].n = n2 at d1 HCC
          generalize l[k].s = s2 at d2 HCC
          cases y with
          | false =>
            have HV : Hid (false = R) := hG
            clear hG
            go_wp2_with fail
            refine HCC.out.mono ?_; rintro e w2 ⟨rfl, hb2⟩
            have HB2 := Lib.hid (below_2 HBB.out hb2)
            clear hb2 z0 z1 z2 z3
            go_wp2_with fail
            go_ret
            exact ⟨ret_bool (by rw [← HV.out]; simp), HB2.out⟩
          | true =>
            have HG3 : Hid (knEs ns (l.drop (k + 1)) = R) := hG
            clear hG
            go_wp2_with fail
            refine HCC.out.mono ?_; rintro e w2 ⟨rfl, hb2⟩
            have HB2 := Lib.hid (below_2 HBr.out hb2)
            clear hb2 z0 z1 z2 z3
            go_wp2_with fail
            go_roundw
            case rel => exact ⟨k + 1, by omega, by go_num, HG3, HB2.out⟩
            case measure => simp [intOf]; omega
        · have hG := HG2.out
          rw [List.drop_of_length_le (by have := HL.out; omega)] at hG
          have HV : Hid (true = R) := hG
          clear hG
          go_wp2_with fail
          go_ret
          exact ⟨ret_bool (by rw [← HV.out]; simp_all), HBB.out⟩
  · have b3 : (o == 3) = false := beq_eq_false_iff_ne.2 h3
    have b4 : decide (o = 3) = false := decide_eq_false h3
    rw [b4]
    clear h3 b4
    go_enter Tryd.func42, Tryd.ntmps42
    go_wp2_with fail
    go_loopw [5] (fun s5 wr => ∃ k : Nat, k ≤ g ∧ s5 = .int .i64 k ∧ Hid (knEs ns (l.drop k) = R) ∧ Hid (Below (w.alloc (.cells #[.int .i64 o, .int .i64 n, .string s, .slice a g c] 52)).heap.size (w.alloc (.cells #[.int .i64 o, .int .i64 n, .string s, .slice a g c] 52)) wr)) (fun s5 _ => g - (intOf s5).toNat)
    case atStart => exact ⟨0, Nat.zero_le _, rfl, HG, Below.refl _ _⟩
    case round =>
      obtain ⟨k, hk, rfl, HG2, HBr⟩ := hrel
      have z0 := (HX.out.below HBr.out).cell 0
      have z1 := (HX.out.below HBr.out).cell 1
      have z2 := (HX.out.below HBr.out).cell 2
      have z3 := (HX.out.below HBr.out).cell 3
      have HBB := Lib.hid (below_2 HB.out HBr.out)
      by_cases hlt : k < g
      · have hlx : k < l.length := by rw [HL.out]; exact hlt
        obtain ⟨b2, i2, rfl, hat⟩ := (HK.out.below HBr.out).open hlx
        obtain ⟨d0, d1, d2, a2, cc, d3, hk2⟩ := hat.open
        have HCC := Lib.hid (HIH.out k hlx a2 cc _ (HS.out.below HBr.out) hk2)
        have hG := HG2.out
        rw [knEs_drop hlx] at hG
        clear hat hk2
        unfold exV at HCC
        generalize knE ns l[k] = y at HCC hG
        generalize l[k].args.length = m2 at d3 HCC
        generalize l[k].op = o2 at d0 HCC
        generalize l[k].n = n2 at d1 HCC
        generalize l[k].s = s2 at d2 HCC
        cases y with
        | false =>
          have HV : Hid (false = R) := hG
          clear hG
          go_wp2_with fail
          refine HCC.out.mono ?_; rintro e w2 ⟨rfl, hb2⟩
          have HB2 := Lib.hid (below_2 HBB.out hb2)
          clear hb2 z0 z1 z2 z3
          go_wp2_with fail
          go_ret
          exact ⟨ret_bool (by rw [← HV.out]; simp), HB2.out⟩
        | true =>
          have HG3 : Hid (knEs ns (l.drop (k + 1)) = R) := hG
          clear hG
          go_wp2_with fail
          refine HCC.out.mono ?_; rintro e w2 ⟨rfl, hb2⟩
          have HB2 := Lib.hid (below_2 HBr.out hb2)
          clear hb2 z0 z1 z2 z3
          go_wp2_with fail
          go_roundw
          case rel => exact ⟨k + 1, by omega, by go_num, HG3, HB2.out⟩
          case measure => simp [intOf]; omega
      · have hG := HG2.out
        rw [List.drop_of_length_le (by have := HL.out; omega)] at hG
        have HV : Hid (true = R) := hG
        clear hG
        go_wp2_with fail
        go_ret
        exact ⟨ret_bool (by rw [← HV.out]; simp_all), HBB.out⟩
end Go.Proofs.YtgjnddjpinhkgaaDoor.Y
namespace Go.Proofs.YtgjnddjpinhkgaaDoor.P
open Go.RowKit
structure IS (F : Nat → Value → World → Prop) (W : World) (l : Array Bool) (w : World) (vs : List Value) : Prop where
  bel : Below W.heap.size W w
  f : ∀ j, On l j → F j (vs.getD j undef) w
theorem IS.step {F : Nat → Value → World → Prop} (hF : ∀ j x w w', F j x w → Below w.heap.size w w' → F j x w') {W : World} {l : Array Bool} {w w' : World} {vs : List Value} (h : IS F W l w vs) {i : Nat} (h0 : l.getD i true = false) (hi : i < vs.length) (hb : Below w.heap.size w w') {x : Value} (hx : F i x w') :
    IS F W (l.setIfInBounds i true) w' (vs.set i x) := by
  refine ⟨h.bel.trans (hb.mono h.bel.size), fun j hj => ?_⟩
  by_cases e : j = i
  · subst e; rw [getD_self hi]; exact hx
  · rw [getD_other e]
    exact hF _ _ _ _ (h.f j (((on_set h0 j).1 hj).resolve_left e)) hb
theorem IS.start (F : Nat → Value → World → Prop) (W : World) {l : Array Bool} (hl : ∀ j, ¬ On l j) (vs : List Value) : IS F W l { W with drawn := W.drawn + 1 } vs := ⟨L.below_drew W, fun j hj => absurd hj (hl j)⟩
end Go.Proofs.YtgjnddjpinhkgaaDoor.P
namespace Go.Proofs.YtgjnddjpinhkgaaDoor.Y
open Go.RowKit
open L (Str isName prt size_len below_2 below_box ret_bool ret_int eql_eq bytes_eq)
open A (Ex St Pm Pr V arity vE vEs absent exV exO exV_mk Bx okE okEs cE cEs PmsAt StrsAt PrIn OkP prV prO names valE ExsAt ExAt StsAt StAt Bodies RowK Own1 Stays kN okB okS cB cS)
open P (On off_of wp_region_inv IS)
theorem scB_drop {seen ls : List ByteArray} {l : List St} {k : Nat} (hk : k < l.length) : scB seen ls (l.drop k) = (scS seen ls l[k] && scB (if (l[k]).op = 1 then seen ++ [(l[k]).name] else seen) ls (l.drop (k + 1))) := by
  rw [List.drop_eq_getElem_cons hk, scB]
theorem cB_drop {l : List St} {k : Nat} (hk : k < l.length) : cB (l.drop k) = cS l[k] + cB (l.drop (k + 1)) := by
  rw [List.drop_eq_getElem_cons hk, cB]
theorem cB_drop_le {l : List St} : ∀ k, cB (l.drop k) ≤ cB l := by
  intro k
  induction k generalizing l with
  | zero => exact Nat.le_refl _
  | succ k ih =>
    cases l with
    | nil => exact Nat.le_refl _
    | cons s r => rw [List.drop_succ_cons, cB]; have := @ih r; omega
theorem cS_open (s : St) : cS s = 1 + s.name.size / 64 + cE s.a + cE s.b + cB s.body + cB s.els := by
  obtain ⟨o, nm, mx, a, b, bd, el⟩ := s
  rw [cS]; rfl
theorem scS_open (seen ls : List ByteArray) (s : St) : scS seen ls s = ((knE seen s.a && knE seen s.b && !(decide (s.op = 2) && (!isIn s.name seen || isIn s.name ls))) &&
      (scB (if s.op = 6 then seen ++ [s.name] else seen) (if s.op = 6 then ls ++ [s.name] else ls) s.body && scB seen ls s.els)) := by
  obtain ⟨o, nm, mx, a, b, bd, el⟩ := s
  rw [scS]; rfl
def QS (l : List St) : Prop := ∀ (a : Option Addr) (c : Nat) (seen : List ByteArray) (sa : Option Addr) (sc : Nat) (ls : List ByteArray) (la : Option Addr) (lc : Nat) (w : World), okB l → l.length ≤ 1000000000000000 → StrsAt w sa seen → StrsAt w la ls → Bodies w a l →
  seen.length + cB l ≤ 90000 → ls.length + cB l ≤ 90000 → Calls Tryd.prog 21 #[.slice a l.length c, .slice sa seen.length sc, .slice la ls.length lc] w fun e' w' => e' = .returned (.bool (scB seen ls l)) ∧ Below w.heap.size w w'
def P9 (N : Nat) (s0 : ByteArray) (x y : Value) (l1 l2 : List ByteArray) (n1 n2 : Nat) : Nat → Value → World → Prop
  | 0, v, _ => v = x
  | 1, v, _ => v = .pointer (some ⟨N, 1, none⟩)
  | 2, v, _ => v = .string s0
  | 3, v, w => ∃ p q, v = .slice p (n1 + 1) q ∧ StrsAt w p l1
  | 4, v, _ => v = y
  | 5, v, _ => v = .pointer (some ⟨N, 1, none⟩)
  | 6, v, _ => v = .string s0
  | 7, v, w => ∃ p q, v = .slice p (n2 + 1) q ∧ StrsAt w p l2
  | 8, v, w => ∃ p q, v = .slice p (n1 + 1) q ∧ StrsAt w p l1
  | 9, v, w => ∃ p q, v = .slice p (n2 + 1) q ∧ StrsAt w p l2
  | _, _, _ => True
theorem P9.mono {N : Nat} {s0 : ByteArray} {x y : Value} {l1 l2 : List ByteArray} {n1 n2 : Nat} : ∀ j v w w', P9 N s0 x y l1 l2 n1 n2 j v w → Below w.heap.size w w' → P9 N s0 x y l1 l2 n1 n2 j v w' := by
  intro j v w w' h hb
  match j, h with
  | 0, h => exact h
  | 1, h => exact h
  | 2, h => exact h
  | 3, ⟨p, q, h1, h2⟩ => exact ⟨p, q, h1, h2.below hb⟩
  | 4, h => exact h
  | 5, h => exact h
  | 6, h => exact h
  | 7, ⟨p, q, h1, h2⟩ => exact ⟨p, q, h1, h2.below hb⟩
  | 8, ⟨p, q, h1, h2⟩ => exact ⟨p, q, h1, h2.below hb⟩
  | 9, ⟨p, q, h1, h2⟩ => exact ⟨p, q, h1, h2.below hb⟩
  | _ + 10, _ => trivial
set_option maxHeartbeats 8000000 in
set_option maxRecDepth 100000 in
theorem scoped_step {l : List St} (hq : ∀ j (h : j < l.length), QS (l[j]).body ∧ QS (l[j]).els) : QS l := by
  intro a c seen sa sc ls la lc w hok hl hS hLs hK hn1 hn2
  have HST := Lib.hid hq
  have HOK := Lib.hid hok
  have HK := Lib.hid hK
  have HLs := Lib.hid hLs
  obtain ⟨R, hR⟩ : ∃ R, scB seen ls l = R := ⟨_, rfl⟩
  rw [hR]
  have HR : Hid (scB seen ls (l.drop 0) = R) := hR
  have HN1 : Hid (seen.length + cB (l.drop 0) ≤ 90000) := hn1
  have HN2 := Lib.hid hn2
  have HSn := Lib.hid hS
  have hlsl : ls.length ≤ 90000 := by omega
  obtain ⟨m, hm⟩ : ∃ m, l.length = m := ⟨_, rfl⟩
  have HL := Lib.hid hm
  obtain ⟨nl, hnl⟩ : ∃ m, ls.length = m := ⟨_, rfl⟩
  have HNL := Lib.hid hnl
  rw [hm] at hl ⊢
  rw [hnl]
  clear hm hR hS hLs hK hn1 hn2 hq hok hnl
  go_enter Tryd.func21, Tryd.ntmps21
  go_wp2_with fail
  go_loopw [1, 7] (fun s1 s7 wr => ∃ (k : Nat) (sn : List ByteArray) (ka : Option Addr) (kc : Nat), k ≤ m ∧ s7 = .int .i64 k ∧ s1 = .slice ka sn.length kc ∧ Hid (scB sn ls (l.drop k) = R) ∧ Hid (sn.length + cB (l.drop k) ≤ 90000) ∧ Hid (StrsAt wr ka sn) ∧ Hid (Below w.heap.size w wr)) (fun _ s7 _ => m - (intOf s7).toNat)
  case atStart => exact ⟨0, seen, sa, sc, Nat.zero_le _, rfl, rfl, HR, HN1, HSn, Below.refl _ _⟩
  case round =>
    obtain ⟨k, sn, ka, kc, hk, rfl, rfl, HX, HN, HSk, HBr⟩ := hrel
    by_cases hlt : k < m
    · have hlx : k < l.length := by rw [HL.out]; exact hlt
      obtain ⟨b3, i3, rfl, hat⟩ := HK.out.open hlx
      obtain ⟨a1, c1, a2, c2, a3, c3, a4, c4, hcc0, hkk⟩ := hat.open
      have hcc := hcc0.below HBr.out
      have hoks := A.okS_open (HOK.out.get k hlx)
      have hcd := cB_drop hlx
      have hcs := cS_open l[k]
      have hcl := cB_drop_le (l := l) k
      have hnn := HN.out
      have hnn2 := HN2.out
      have hsn : sn.length ≤ 90000 := by omega
      have hx := HX.out
      rw [scB_drop hlx, scS_open] at hx
      obtain ⟨hqb, hqe⟩ := HST.out k hlx
      have KA : Hid (∀ wk, Below wr.heap.size wr wk → Calls Tryd.prog 42 #[exV (l[k]).a a1 c1, .slice ka sn.length kc] wk fun e' w' => e' = .returned (.bool (knE sn (l[k]).a)) ∧ Below wk.heap.size wk w') := fun wk hb => known_any (by omega) _ a1 c1 ka kc wk hoks.a (HSk.out.below hb) ((hkk.a.below HBr.out).below hb)
      have KB : Hid (∀ wk, Below wr.heap.size wr wk → Calls Tryd.prog 42 #[exV (l[k]).b a2 c2, .slice ka sn.length kc] wk fun e' w' => e' = .returned (.bool (knE sn (l[k]).b)) ∧ Below wk.heap.size wk w') := fun wk hb => known_any (by omega) _ a2 c2 ka kc wk hoks.b (HSk.out.below hb) ((hkk.b.below HBr.out).below hb)
      have H1 : Hid (∀ wk, Below wr.heap.size wr wk → Calls Tryd.prog 20 #[.slice ka sn.length kc, .string (l[k]).name] wk fun e' w' => e' = .returned (.bool (isIn (l[k]).name sn)) ∧ w' = wk) := fun wk hb => has_any sn ka kc _ (by omega) wk (HSk.out.below hb)
      have H2 : Hid (∀ wk, Below wr.heap.size wr wk → Calls Tryd.prog 20 #[.slice la nl lc, .string (l[k]).name] wk fun e' w' => e' = .returned (.bool (isIn (l[k]).name ls)) ∧ w' = wk) := fun wk hb => by
        have := has_any ls la lc (l[k]).name (by omega) wk ((HLs.out.below HBr.out).below hb)
        rw [HNL.out] at this
        exact this
      have M1 : Hid (∀ wk, Below wr.heap.size wr wk → Calls Tryd.prog 43 #[.slice ka sn.length kc, .string (l[k]).name] wk fun e' w' => ∃ p q, e' = .returned (.slice p (sn.length + 1) q) ∧ StrsAt w' p (sn ++ [(l[k]).name]) ∧ Below wk.heap.size wk w') := fun wk hb => more_any sn ka kc _ (by omega) wk (HSk.out.below hb)
      have M2 : Hid (∀ wk, Below wr.heap.size wr wk → Calls Tryd.prog 43 #[.slice la nl lc, .string (l[k]).name] wk fun e' w' => ∃ p q, e' = .returned (.slice p (nl + 1) q) ∧ StrsAt w' p (ls ++ [(l[k]).name]) ∧ Below wk.heap.size wk w') := fun wk hb => by
        have := more_any ls la lc (l[k]).name (by omega) wk ((HLs.out.below HBr.out).below hb)
        rw [HNL.out] at this
        exact this
      have SB : Hid (∀ wk, Below wr.heap.size wr wk → Calls Tryd.prog 21 #[.slice a3 (l[k]).body.length c3, .slice ka sn.length kc, .slice la nl lc] wk fun e' w' => e' = .returned (.bool (scB sn ls (l[k]).body)) ∧ Below wk.heap.size wk w') := fun wk hb => by
        have := hqb a3 c3 sn ka kc ls la lc wk hoks.body hoks.bodyLen (HSk.out.below hb) ((HLs.out.below HBr.out).below hb) ((hkk.body.below HBr.out).below hb) (by omega) (by omega)
        rw [HNL.out] at this
        exact this
      have SE : Hid (∀ wk, Below wr.heap.size wr wk → Calls Tryd.prog 21 #[.slice a4 (l[k]).els.length c4, .slice ka sn.length kc, .slice la nl lc] wk fun e' w' => e' = .returned (.bool (scB sn ls (l[k]).els)) ∧ Below wk.heap.size wk w') := fun wk hb => by
        have := hqe a4 c4 sn ka kc ls la lc wk hoks.els hoks.elsLen (HSk.out.below hb) ((HLs.out.below HBr.out).below hb) ((hkk.els.below HBr.out).below hb) (by omega) (by omega)
        rw [HNL.out] at this
        exact this
      have SL : Hid (∀ wk p q p2 q2, Below wr.heap.size wr wk → StrsAt wk p (sn ++ [(l[k]).name]) → StrsAt wk p2 (ls ++ [(l[k]).name]) → Calls Tryd.prog 21 #[.slice a3 (l[k]).body.length c3, .slice p (sn.length + 1) q, .slice p2 (nl + 1) q2] wk fun e' w' => e' = .returned (.bool (scB (sn ++ [(l[k]).name]) (ls ++ [(l[k]).name]) (l[k]).body)) ∧ Below wk.heap.size wk w') := fun wk p q p2 q2 hb h1 h2 => by
        have := hqb a3 c3 (sn ++ [(l[k]).name]) p q (ls ++ [(l[k]).name]) p2 q2 wk hoks.body hoks.bodyLen h1 h2 ((hkk.body.below HBr.out).below hb) (by rw [List.length_append]; simp only [List.length_cons, List.length_nil]; omega) (by rw [List.length_append]; simp only [List.length_cons, List.length_nil]; omega)
        rw [List.length_append, List.length_append, HNL.out] at this
        exact this
      have HN3 : Hid (sn.length + cB (l.drop (k + 1)) ≤ 90000) := by show _ ≤ _; omega
      have HN4 : Hid ((sn ++ [(l[k]).name]).length + cB (l.drop (k + 1)) ≤ 90000) := by show _ ≤ _; rw [List.length_append]; simp only [List.length_cons, List.length_nil]; omega
      have HL4 : Hid ((sn ++ [(l[k]).name]).length = sn.length + 1) := by show _ = _; simp
      have hbz := below_box wr (A.stO l[k] a1 c1 a2 c2 a3 c3 a4 c4)
      have hxz := Bx.new wr #[.int .i64 (l[k]).op, .string (l[k]).name, .int .i64 (l[k]).mx, .int .i64 (l[k]).a.op, .int .i64 (l[k]).a.n, .string (l[k]).a.s, .slice a1 (l[k]).a.args.length c1, .int .i64 (l[k]).b.op, .int .i64 (l[k]).b.n, .string (l[k]).b.s, .slice a2 (l[k]).b.args.length c2, .slice a3 (l[k]).body.length c3, .slice a4 (l[k]).els.length c4] 56
      have f0 := hcc.k0
      have f1 := hcc.k1
      have f2 := hcc.k2
      have f3 := hcc.k3
      have f4 := hcc.k4
      have f5 := hcc.k5
      have f6 := hcc.k6
      have f7 := hcc.k7
      have f8 := hcc.k8
      have f9 := hcc.k9
      have f10 := hcc.k10
      have f11 := hcc.k11
      have f12 := hcc.k12
      clear hat hcc0 hkk hcc hoks hqb hqe hcd hcs hcl hnn hnn2 HX HN
      unfold A.stO at hbz
      unfold exV at KA KB
      generalize (l[k]).a.args.length = n1 at *
      generalize (l[k]).b.args.length = n2 at *
      generalize knE sn (l[k]).a = qa at *
      generalize knE sn (l[k]).b = qb at *
      generalize scB sn ls (l[k]).els = re at *
      generalize (l[k]).a.op = o1 at *
      generalize (l[k]).a.n = m1 at *
      generalize (l[k]).a.s = s1 at *
      generalize (l[k]).b.op = o2 at *
      generalize (l[k]).b.n = m2 at *
      generalize (l[k]).b.s = s2 at *
      generalize hrb : scB sn ls (l[k]).body = rb at *
      generalize hrl : scB (sn ++ [(l[k]).name]) (ls ++ [(l[k]).name]) (l[k]).body = rl at *
      generalize (l[k]).body.length = n3 at *
      generalize (l[k]).els.length = n4 at *
      generalize (l[k]).op = o0 at *
      generalize (l[k]).name = s0 at *
      generalize (l[k]).mx = m0 at *
      generalize isIn s0 sn = i1 at *
      generalize isIn s0 ls = i2 at *
      have HXz := Lib.hid hxz
      have HBz := Lib.hid hbz
      clear hxz hbz
      go_wp2_with fail
      refine (KA.out _ HBz.out).mono ?_; rintro e' w1 ⟨rfl, hb⟩
      have HBw1 := Lib.hid (below_2 HBz.out hb)
      have HXw1 := Lib.hid (HXz.out.below hb)
      clear hb
      have yw10 := HXw1.out.cell 0
      have yw11 := HXw1.out.cell 1
      have yw17 := HXw1.out.cell 7
      have yw18 := HXw1.out.cell 8
      have yw19 := HXw1.out.cell 9
      have yw110 := HXw1.out.cell 10
      have yw111 := HXw1.out.cell 11
      have yw112 := HXw1.out.cell 12
      cases qa with
      | false =>
        go_wp2_with fail
        have HV : Hid (false = R) := by show _ = _; simpa using hx
        go_ret
        exact ⟨ret_bool HV.out, below_2 HBr.out HBw1.out⟩
      | true =>
        go_wp2_with fail
        refine (KB.out _ HBw1.out).mono ?_; rintro e' w2 ⟨rfl, hb⟩
        have HBw2 := Lib.hid (below_2 HBw1.out hb)
        have HXw2 := Lib.hid (HXw1.out.below hb)
        clear hb
        have yw20 := HXw2.out.cell 0
        have yw21 := HXw2.out.cell 1
        have yw23 := HXw2.out.cell 3
        have yw24 := HXw2.out.cell 4
        have yw25 := HXw2.out.cell 5
        have yw26 := HXw2.out.cell 6
        have yw27 := HXw2.out.cell 7
        have yw28 := HXw2.out.cell 8
        have yw29 := HXw2.out.cell 9
        have yw210 := HXw2.out.cell 10
        have yw211 := HXw2.out.cell 11
        have yw212 := HXw2.out.cell 12
        cases qb with
        | false =>
          go_wp2_with fail
          have HV : Hid (false = R) := by show _ = _; simpa using hx
          go_ret
          exact ⟨ret_bool HV.out, below_2 HBr.out HBw2.out⟩
        | true =>
          by_cases h2 : o0 = 2
          · subst h2
            rw [if_neg (by decide), if_neg (by decide), if_neg (by decide), hrb] at hx
            go_wp2_with fail
            refine (H1.out _ HBw2.out).mono ?_; rintro e' wx ⟨rfl, rfl⟩
            cases i1 with
            | false =>
              go_wp2_with fail
              have HV : Hid (false = R) := by show _ = _; simpa using hx
              go_ret
              exact ⟨ret_bool HV.out, below_2 HBr.out HBw2.out⟩
            | true =>
              go_wp2_with fail
              refine (H2.out _ HBw2.out).mono ?_; rintro e' wx ⟨rfl, rfl⟩
              cases i2 with
              | false =>
                go_wp2_with fail
                refine (SB.out _ HBw2.out).mono ?_; rintro e' wb ⟨rfl, hb⟩
                have HBwb := Lib.hid (below_2 HBw2.out hb)
                have HXwb := Lib.hid (HXw2.out.below hb)
                clear hb
                have ywb0 := HXwb.out.cell 0
                have ywb1 := HXwb.out.cell 1
                have ywb3 := HXwb.out.cell 3
                have ywb4 := HXwb.out.cell 4
                have ywb5 := HXwb.out.cell 5
                have ywb6 := HXwb.out.cell 6
                have ywb7 := HXwb.out.cell 7
                have ywb8 := HXwb.out.cell 8
                have ywb9 := HXwb.out.cell 9
                have ywb10 := HXwb.out.cell 10
                have ywb11 := HXwb.out.cell 11
                have ywb12 := HXwb.out.cell 12
                cases rb with
                | false =>
                  go_wp2_with fail
                  have HV : Hid (false = R) := by show _ = _; simpa using hx
                  go_ret
                  exact ⟨ret_bool HV.out, below_2 HBr.out HBwb.out⟩
                | true =>
                  go_wp2_with fail
                  refine (SE.out _ HBwb.out).mono ?_; rintro e' we ⟨rfl, hb⟩
                  have HBwe := Lib.hid (below_2 HBwb.out hb)
                  have HXwe := Lib.hid (HXwb.out.below hb)
                  clear hb
                  have ywe0 := HXwe.out.cell 0
                  have ywe1 := HXwe.out.cell 1
                  cases re with
                  | false =>
                    go_wp2_with fail
                    have HV : Hid (false = R) := by show _ = _; simpa using hx
                    go_ret
                    exact ⟨ret_bool HV.out, below_2 HBr.out HBwe.out⟩
                  | true =>
                    have HX2 : Hid (scB sn ls (l.drop (k + 1)) = R) := by show _ = _; simpa using hx
                    go_wp2_with fail
                    go_roundw
                    case rel => exact ⟨k + 1, sn, ka, kc, by omega, by go_num, rfl, HX2, HN3, HSk.out.below HBwe.out, below_2 HBr.out HBwe.out⟩
                    case measure => simp [intOf]; omega
              | true =>
                go_wp2_with fail
                have HV : Hid (false = R) := by show _ = _; simpa using hx
                go_ret
                exact ⟨ret_bool HV.out, below_2 HBr.out HBw2.out⟩
          by_cases h6 : o0 = 6
          · subst h6
            rw [if_pos rfl, if_pos rfl, if_neg (by decide), hrl] at hx
            clear h2 hrb
            go_wp2_with fail
            have HHx := Lib.hid hx
            clear hx KA KB H1 H2 SB HXz HXw1 HBz HBw1 f0 f1 f2 f3 f4 f5 f6 f7 f8 f9 f10 f11 f12 yw10 yw11 yw17 yw18 yw19 yw110 yw111 yw112 yw20 yw23 yw24 yw25 yw26 yw27 yw28 yw29 yw210 yw211 yw212
            refine wp_region_inv rfl (fun l a w' => ∃ v0 v1 v2 v3 v4 v5 v6 v7 v8 v9 : Value, a = { tmps := #[.slice (some ⟨b3, i3, none⟩) m c, .slice ka sn.length kc, .slice la nl lc, undef, undef, undef, u6, .int .i64 (k : Int), .pointer (some ⟨wr.heap.size, 0, none⟩), v8, v9, .int .i64 (k : Int), .slice (some ⟨b3, i3, none⟩) m c, .int .i64 (m : Int), .bool true, u15, u16, .slice (some ⟨b3, i3, none⟩) m c, .int .i64 (k : Int), .pointer (some ⟨b3, i3 + k * 13, none⟩), .agg #[.int .i64 6, .string s0, .int .i64 m0, .int .i64 o1, .int .i64 m1, .string s1, .slice a1 n1 c1, .int .i64 o2, .int .i64 m2, .string s2, .slice a2 n2 c2, .slice a3 n3 c3, .slice a4 n4 c4], .pointer (some ⟨wr.heap.size, 3, none⟩), .agg #[.int .i64 o1, .int .i64 m1, .string s1, .slice a1 n1 c1], .slice ka sn.length kc, .bool true, .bool false, .bool false, .pointer (some ⟨wr.heap.size, 7, none⟩), .agg #[.int .i64 o2, .int .i64 m2, .string s2, .slice a2 n2 c2], .slice ka sn.length kc, .bool true, .bool false, .bool false, .bool false, .pointer (some ⟨wr.heap.size, 0, none⟩), .int .i64 6, .bool false, .bool false, undef, undef, undef, undef, undef, undef, undef, undef, undef, undef, undef, .bool false, .bool false, .slice ka sn.length kc, .slice la nl lc, .pointer (some ⟨wr.heap.size, 0, none⟩), .int .i64 6, .bool true, v0, v1, v2, v3, v4, v5, v6, v7, u64, u65, u66, u67, u68, u69, u70, u71, u72, u73, u74, u75, u76, u77, u78, u79, u80, u81, u82, u83, u84], defers := [] } ∧ IS (P9 wr.heap.size s0 (.slice ka sn.length kc) (.slice la nl lc) (sn ++ [s0]) (ls ++ [s0]) sn.length nl) w2 l w' [v0, v1, v2, v3, v4, v5, v6, v7, v8, v9]) (by kernel_rfl) ?_ ?_ ?_
            · intro l hl
              exact ⟨_, _, _, _, _, _, _, _, _, _, rfl, IS.start _ _ hl _⟩
            · rintro l a w' ⟨v0, v1, v2, v3, v4, v5, v6, v7, v8, v9, rfl, F⟩ i hi h0 hall
              match i, hi, h0, hall with
              | 0, _, h0, hall =>
                have HF := Lib.hid (F.step P9.mono h0 (show 0 < 10 by decide) (Below.refl _ _) (x := .slice ka sn.length kc) rfl)
                clear F hall h0
                refine wpOp_step (by rfl) (fun K' hK => ?_)
                have HKk := Lib.hid hK
                clear hK
                go_simp
                exact HKk.out _ _ ⟨_, _, _, _, _, _, _, _, _, _, rfl, HF.out⟩
              | 1, _, h0, hall =>
                have HF := Lib.hid (F.step P9.mono h0 (show 1 < 10 by decide) (Below.refl _ _) (x := .pointer (some ⟨wr.heap.size, 1, none⟩)) rfl)
                clear F hall h0
                refine wpOp_step (by rfl) (fun K' hK => ?_)
                have HKk := Lib.hid hK
                clear hK
                go_simp
                exact HKk.out _ _ ⟨_, _, _, _, _, _, _, _, _, _, rfl, HF.out⟩
              | 2, _, h0, hall =>
                obtain rfl : v1 = .pointer (some ⟨wr.heap.size, 1, none⟩) := F.f 1 (hall 1 (by decide +kernel))
                have y1 : w'.cell? ⟨wr.heap.size, 1, none⟩ = some (.string s0) := (HXw2.out.below F.bel).cell 1
                have HF := Lib.hid (F.step P9.mono h0 (show 2 < 10 by decide) (Below.refl _ _) (x := .string s0) rfl)
                clear F hall h0
                refine wpOp_step (by rfl) (fun K' hK => ?_)
                have HKk := Lib.hid hK
                clear hK
                go_simp
                exact HKk.out _ _ ⟨_, _, _, _, _, _, _, _, _, _, rfl, HF.out⟩
              | 3, _, h0, hall =>
                obtain rfl : v0 = .slice ka sn.length kc := F.f 0 (hall 0 (by decide +kernel))
                obtain rfl : v2 = .string s0 := F.f 2 (hall 2 (by decide +kernel))
                have HC := Lib.hid (M1.out _ (below_2 HBw2.out F.bel))
                have HF := Lib.hid (fun w'' hb x hx => F.step P9.mono h0 (show 3 < 10 by decide) (w' := w'') hb (x := x) hx)
                clear F hall h0
                refine wpOp_step (by rfl) (fun K' hK => ?_)
                have HKk := Lib.hid hK
                clear hK
                go_simp
                go_at_call 43
                refine HC.out.mono ?_; rintro e' w5 ⟨p, q, rfl, hs5, hb5⟩
                have HF5 := Lib.hid (HF.out w5 hb5 _ (show P9 _ _ _ _ _ _ _ _ 3 (.slice p _ q) w5 from ⟨p, q, rfl, hs5⟩))
                clear hs5 hb5 HF HC
                exact HKk.out _ _ ⟨_, _, _, _, _, _, _, _, _, _, rfl, HF5.out⟩
              | 4, _, h0, hall =>
                have HF := Lib.hid (F.step P9.mono h0 (show 4 < 10 by decide) (Below.refl _ _) (x := .slice la nl lc) rfl)
                clear F hall h0
                refine wpOp_step (by rfl) (fun K' hK => ?_)
                have HKk := Lib.hid hK
                clear hK
                go_simp
                exact HKk.out _ _ ⟨_, _, _, _, _, _, _, _, _, _, rfl, HF.out⟩
              | 5, _, h0, hall =>
                have HF := Lib.hid (F.step P9.mono h0 (show 5 < 10 by decide) (Below.refl _ _) (x := .pointer (some ⟨wr.heap.size, 1, none⟩)) rfl)
                clear F hall h0
                refine wpOp_step (by rfl) (fun K' hK => ?_)
                have HKk := Lib.hid hK
                clear hK
                go_simp
                exact HKk.out _ _ ⟨_, _, _, _, _, _, _, _, _, _, rfl, HF.out⟩
              | 6, _, h0, hall =>
                obtain rfl : v5 = .pointer (some ⟨wr.heap.size, 1, none⟩) := F.f 5 (hall 5 (by decide +kernel))
                have y1 : w'.cell? ⟨wr.heap.size, 1, none⟩ = some (.string s0) := (HXw2.out.below F.bel).cell 1
                have HF := Lib.hid (F.step P9.mono h0 (show 6 < 10 by decide) (Below.refl _ _) (x := .string s0) rfl)
                clear F hall h0
                refine wpOp_step (by rfl) (fun K' hK => ?_)
                have HKk := Lib.hid hK
                clear hK
                go_simp
                exact HKk.out _ _ ⟨_, _, _, _, _, _, _, _, _, _, rfl, HF.out⟩
              | 7, _, h0, hall =>
                obtain rfl : v4 = .slice la nl lc := F.f 4 (hall 4 (by decide +kernel))
                obtain rfl : v6 = .string s0 := F.f 6 (hall 6 (by decide +kernel))
                have HC := Lib.hid (M2.out _ (below_2 HBw2.out F.bel))
                have HF := Lib.hid (fun w'' hb x hx => F.step P9.mono h0 (show 7 < 10 by decide) (w' := w'') hb (x := x) hx)
                clear F hall h0
                refine wpOp_step (by rfl) (fun K' hK => ?_)
                have HKk := Lib.hid hK
                clear hK
                go_simp
                go_at_call 43
                refine HC.out.mono ?_; rintro e' w5 ⟨p, q, rfl, hs5, hb5⟩
                have HF5 := Lib.hid (HF.out w5 hb5 _ (show P9 _ _ _ _ _ _ _ _ 7 (.slice p _ q) w5 from ⟨p, q, rfl, hs5⟩))
                clear hs5 hb5 HF HC
                exact HKk.out _ _ ⟨_, _, _, _, _, _, _, _, _, _, rfl, HF5.out⟩
              | 8, _, h0, hall =>
                obtain ⟨p, q, rfl, hs⟩ : ∃ p q, v3 = .slice p (sn.length + 1) q ∧ StrsAt w' p (sn ++ [s0]) := F.f 3 (hall 3 (by decide +kernel))
                have HF := Lib.hid (F.step P9.mono h0 (show 8 < 10 by decide) (Below.refl _ _) (x := .slice p (sn.length + 1) q) ⟨p, q, rfl, hs⟩)
                clear F hall h0
                refine wpOp_step (by rfl) (fun K' hK => ?_)
                have HKk := Lib.hid hK
                clear hK
                go_simp
                exact HKk.out _ _ ⟨_, _, _, _, _, _, _, _, _, _, rfl, HF.out⟩
              | 9, _, h0, hall =>
                obtain ⟨p, q, rfl, hs⟩ : ∃ p q, v7 = .slice p (nl + 1) q ∧ StrsAt w' p (ls ++ [s0]) := F.f 7 (hall 7 (by decide +kernel))
                have HF := Lib.hid (F.step P9.mono h0 (show 9 < 10 by decide) (Below.refl _ _) (x := .slice p (nl + 1) q) ⟨p, q, rfl, hs⟩)
                clear F hall h0
                refine wpOp_step (by rfl) (fun K' hK => ?_)
                have HKk := Lib.hid hK
                clear hK
                go_simp
                exact HKk.out _ _ ⟨_, _, _, _, _, _, _, _, _, _, rfl, HF.out⟩
              | i + 10, hi, _, _ => exact absurd hi (by show ¬ (i + 10 < 10); omega)
            rintro l9 a wf ⟨v0, v1, v2, v3, v4, v5, v6, v7, v8, v9, rfl, F⟩ hall
            obtain ⟨pa, qa, rfl, hs5⟩ : ∃ p q, v8 = .slice p (sn.length + 1) q ∧ StrsAt wf p (sn ++ [s0]) := F.f 8 (hall 8 (by decide))
            obtain ⟨pb, qb, rfl, hs6⟩ : ∃ p q, v9 = .slice p (nl + 1) q ∧ StrsAt wf p (ls ++ [s0]) := F.f 9 (hall 9 (by decide))
            have p5 := Lib.hid hs5
            have p6 := Lib.hid hs6
            have HBwf := Lib.hid (below_2 HBw2.out F.bel)
            have HXwf := Lib.hid (HXw2.out.below F.bel)
            clear hs5 hs6 F hall
            have yf0 := HXwf.out.cell 0
            have yf1 := HXwf.out.cell 1
            have yf3 := HXwf.out.cell 3
            have yf4 := HXwf.out.cell 4
            have yf5 := HXwf.out.cell 5
            have yf6 := HXwf.out.cell 6
            have yf7 := HXwf.out.cell 7
            have yf8 := HXwf.out.cell 8
            have yf9 := HXwf.out.cell 9
            have yf10 := HXwf.out.cell 10
            have yf11 := HXwf.out.cell 11
            have yf12 := HXwf.out.cell 12
            have hx := HHx.out
            clear HXw2 HBw2 yw21
            go_wp2_with fail
            refine (SL.out _ _ _ _ _ HBwf.out p5.out p6.out).mono ?_; rintro e' wb ⟨rfl, hb⟩
            have HBwb := Lib.hid (below_2 HBwf.out hb)
            have HXwb := Lib.hid (HXwf.out.below hb)
            clear hb
            have ywb0 := HXwb.out.cell 0
            have ywb1 := HXwb.out.cell 1
            have ywb3 := HXwb.out.cell 3
            have ywb4 := HXwb.out.cell 4
            have ywb5 := HXwb.out.cell 5
            have ywb6 := HXwb.out.cell 6
            have ywb7 := HXwb.out.cell 7
            have ywb8 := HXwb.out.cell 8
            have ywb9 := HXwb.out.cell 9
            have ywb10 := HXwb.out.cell 10
            have ywb11 := HXwb.out.cell 11
            have ywb12 := HXwb.out.cell 12
            cases rl with
            | false =>
              go_wp2_with fail
              have HV : Hid (false = R) := by show _ = _; simpa using hx
              go_ret
              exact ⟨ret_bool HV.out, below_2 HBr.out HBwb.out⟩
            | true =>
              go_wp2_with fail
              refine (SE.out _ HBwb.out).mono ?_; rintro e' we ⟨rfl, hb⟩
              have HBwe := Lib.hid (below_2 HBwb.out hb)
              have HXwe := Lib.hid (HXwb.out.below hb)
              clear hb
              have ywe0 := HXwe.out.cell 0
              have ywe1 := HXwe.out.cell 1
              cases re with
              | false =>
                go_wp2_with fail
                have HV : Hid (false = R) := by show _ = _; simpa using hx
                go_ret
                exact ⟨ret_bool HV.out, below_2 HBr.out HBwe.out⟩
              | true =>
                have HX2 : Hid (scB sn ls (l.drop (k + 1)) = R) := by show _ = _; simpa using hx
                go_wp2_with fail
                go_roundw
                case rel => exact ⟨k + 1, sn, ka, kc, by omega, by go_num, rfl, HX2, HN3, HSk.out.below HBwe.out, below_2 HBr.out HBwe.out⟩
                case measure => simp [intOf]; omega
          have e2 : (o0 == 2) = false := beq_eq_false_iff_ne.2 h2
          have e6 : (o0 == 6) = false := beq_eq_false_iff_ne.2 h6
          have d2 : decide (o0 = 2) = false := decide_eq_false h2
          rw [if_neg h6, if_neg h6, hrb, d2] at hx
          clear h2 h6 d2 hrb hrl SL
          by_cases h1 : o0 = 1
          · subst h1
            clear e2 e6
            rw [if_pos rfl] at hx
            go_wp2_with fail
            refine (SB.out _ HBw2.out).mono ?_; rintro e' wb ⟨rfl, hb⟩
            have HBwb := Lib.hid (below_2 HBw2.out hb)
            have HXwb := Lib.hid (HXw2.out.below hb)
            clear hb
            have ywb0 := HXwb.out.cell 0
            have ywb1 := HXwb.out.cell 1
            have ywb3 := HXwb.out.cell 3
            have ywb4 := HXwb.out.cell 4
            have ywb5 := HXwb.out.cell 5
            have ywb6 := HXwb.out.cell 6
            have ywb7 := HXwb.out.cell 7
            have ywb8 := HXwb.out.cell 8
            have ywb9 := HXwb.out.cell 9
            have ywb10 := HXwb.out.cell 10
            have ywb11 := HXwb.out.cell 11
            have ywb12 := HXwb.out.cell 12
            cases rb with
            | false =>
              go_wp2_with fail
              have HV : Hid (false = R) := by show _ = _; simpa using hx
              go_ret
              exact ⟨ret_bool HV.out, below_2 HBr.out HBwb.out⟩
            | true =>
              go_wp2_with fail
              refine (SE.out _ HBwb.out).mono ?_; rintro e' we ⟨rfl, hb⟩
              have HBwe := Lib.hid (below_2 HBwb.out hb)
              have HXwe := Lib.hid (HXwb.out.below hb)
              clear hb
              have ywe0 := HXwe.out.cell 0
              have ywe1 := HXwe.out.cell 1
              cases re with
              | false =>
                go_wp2_with fail
                have HV : Hid (false = R) := by show _ = _; simpa using hx
                go_ret
                exact ⟨ret_bool HV.out, below_2 HBr.out HBwe.out⟩
              | true =>
                have HX2 : Hid (scB (sn ++ [s0]) ls (l.drop (k + 1)) = R) := by show _ = _; simpa using hx
                go_wp2_with fail
                refine (M1.out _ HBwe.out).mono ?_; rintro e' wm ⟨p7, q7, rfl, hs7, hb⟩
                have HS7 := Lib.hid hs7
                have HBm := Lib.hid (below_2 HBwe.out hb)
                clear hb hs7
                go_wp2_with fail
                go_roundw
                case rel => exact ⟨k + 1, sn ++ [s0], p7, q7, by omega, by go_num, by rw [HL4.out], HX2, HN4, HS7, below_2 HBr.out HBm.out⟩
                case measure => simp [intOf]; omega
          · have e1 : (o0 == 1) = false := beq_eq_false_iff_ne.2 h1
            rw [if_neg h1] at hx
            clear h1
            go_wp2_with fail
            refine (SB.out _ HBw2.out).mono ?_; rintro e' wb ⟨rfl, hb⟩
            have HBwb := Lib.hid (below_2 HBw2.out hb)
            have HXwb := Lib.hid (HXw2.out.below hb)
            clear hb
            have ywb0 := HXwb.out.cell 0
            have ywb1 := HXwb.out.cell 1
            have ywb3 := HXwb.out.cell 3
            have ywb4 := HXwb.out.cell 4
            have ywb5 := HXwb.out.cell 5
            have ywb6 := HXwb.out.cell 6
            have ywb7 := HXwb.out.cell 7
            have ywb8 := HXwb.out.cell 8
            have ywb9 := HXwb.out.cell 9
            have ywb10 := HXwb.out.cell 10
            have ywb11 := HXwb.out.cell 11
            have ywb12 := HXwb.out.cell 12
            cases rb with
            | false =>
              go_wp2_with fail
              have HV : Hid (false = R) := by show _ = _; simpa using hx
              go_ret
              exact ⟨ret_bool HV.out, below_2 HBr.out HBwb.out⟩
            | true =>
              go_wp2_with fail
              refine (SE.out _ HBwb.out).mono ?_; rintro e' we ⟨rfl, hb⟩
              have HBwe := Lib.hid (below_2 HBwb.out hb)
              have HXwe := Lib.hid (HXwb.out.below hb)
              clear hb
              have ywe0 := HXwe.out.cell 0
              have ywe1 := HXwe.out.cell 1
              cases re with
              | false =>
                go_wp2_with fail
                have HV : Hid (false = R) := by show _ = _; simpa using hx
                go_ret
                exact ⟨ret_bool HV.out, below_2 HBr.out HBwe.out⟩
              | true =>
                have HX2 : Hid (scB sn ls (l.drop (k + 1)) = R) := by show _ = _; simpa using hx
                go_wp2_with fail
                go_roundw
                case rel => exact ⟨k + 1, sn, ka, kc, by omega, by go_num, rfl, HX2, HN3, HSk.out.below HBwe.out, below_2 HBr.out HBwe.out⟩
                case measure => simp [intOf]; omega
    · have hx := HX.out
      rw [List.drop_of_length_le (by have := HL.out; omega), scB] at hx
      have HV : Hid (true = R) := hx
      clear hx
      go_wp2_with fail
      go_ret
      exact ⟨ret_bool HV.out, HBr.out⟩
end Go.Proofs.YtgjnddjpinhkgaaDoor.Y
namespace Go.Proofs.YtgjnddjpinhkgaaDoor.Y
open Go.RowKit
open L (Str isName prt size_len below_2 below_box ret_bool ret_int eql_eq bytes_eq)
open A (Ex St Pm Pr V exV exO exV_mk Bx okE okEs cE cEs PmsAt StrsAt PrIn OkP prV prO names valE RowK Own1 Stays kN okS okB cS cB small walk)
theorem scoped_any : ∀ l, QS l := A.body_ind fun _ ih => scoped_step ih
theorem strs_take {w : World} {a : Option Addr} {l : List ByteArray} (h : StrsAt w a l) (k : Nat) : StrsAt w a (l.take k) := by
  rcases h with rfl | ⟨b, i, ha, h⟩
  · exact Or.inl (by simp)
  · refine Or.inr ⟨b, i, ha, fun j hj => ?_⟩
    rw [List.getElem_take]
    exact h j (by rw [List.length_take] at hj; omega)
theorem isIn_take {l : List ByteArray} (h : l.Nodup) {k : Nat} (hk : k < l.length) : isIn l[k] (l.take k) = false := by
  rw [isIn_no]
  intro hm
  obtain ⟨j, hj, he⟩ := List.getElem_of_mem hm
  rw [List.getElem_take] at he
  rw [List.length_take] at hj
  have := (List.getElem_inj h).1 he
  omega
set_option maxHeartbeats 4000000 in
set_option maxRecDepth 100000 in
theorem lawScoped_any (p : Pr) (a1 a2 : Option Addr) (c1 c2 : Nat) (hok : OkP p) (hc1 : p.params.length ≤ c1) (w : World) (ht : Tb w) (hK : PrIn w p a1 a2) :
    Calls Tryd.prog 6 #[prV p a1 c1 a2 c2] w fun e' w' => e' = .returned (.bool true) ∧ Below w.heap.size w w' := by
  have hb := below_box w (prO p a1 c1 a2 c2)
  have hbx := Bx.new w #[.string p.name, .slice a1 p.params.length c1, .slice a2 p.body.length c2] 25
  have HS := Lib.hid (A.rsmall_any p a1 c1 a2 c2 1600 (by omega) hok _ (hK.below hb))
  have HSF := Lib.hid (@small_fx p 1600)
  have HC : Hid (small p 1600 = true → ∀ w', Tb w' → PrIn w' p a1 a2 → Calls Tryd.prog 12 #[prV p a1 c1 a2 c2] w' fun e' w'' => e' = .returned (.int .i64 (chk p).2) ∧ Below w'.heap.size w' w'') := fun h w' t k => by
    obtain ⟨h1, h2, h3⟩ := small_fx h
    exact oCheck_any p a1 a2 c1 c2 hok (by omega) (by omega) h2 hc1 w' t k
  have HNm : Hid (small p 1600 = true → ∀ w', PrIn w' p a1 a2 → Calls Tryd.prog 19 #[prV p a1 c1 a2 c2] w' fun e' w'' => A.GivesN w' (names p) e' w'') := fun h w' k => by
    obtain ⟨h1, h2, h3⟩ := small_fx h
    exact A.rnames_any p a1 a2 c1 c2 hok (by omega) w' k
  have HCk : Hid ((chk p).2 = 0 → (names p).Nodup ∧ scB (p.params.map Pm.name) [] p.body = true) := fun h => ⟨((chk_main p).2 h).nd, ((chk_main p).2 h).sco⟩
  have HSc : Hid (small p 1600 = true → ∀ w' pl ql, PrIn w' p a1 a2 → StrsAt w' pl (p.params.map Pm.name) → Calls Tryd.prog 21 #[.slice a2 p.body.length c2, .slice pl p.params.length ql, .slice none 0 0] w' fun e' w'' => e' = .returned (.bool (scB (p.params.map Pm.name) [] p.body)) ∧ Below w'.heap.size w' w'') := fun h w' pl ql k s => by
    obtain ⟨h1, h2, h3⟩ := small_fx h
    have := scoped_any p.body a2 c2 (p.params.map Pm.name) pl ql [] none 0 w' hok.body hok.bodyLen s (Or.inl rfl) k.body (by rw [List.length_map]; omega) (by show 0 + _ ≤ _; omega)
    rw [List.length_map] at this
    exact this
  have hnl : small p 1600 = true → (names p).length ≤ 2000 := fun h => by
    obtain ⟨h1, h2, h3⟩ := small_fx h
    exact A.names_len p (by omega)
  have HNL := Lib.hid hnl
  have HW := Lib.hid works_any
  have HT := Lib.hid (ht.below hb)
  have HX := Lib.hid hbx
  have HK := Lib.hid (hK.below hb)
  have hworks : ∀ wk, Below (w.alloc (.cells #[.string p.name, .slice a1 p.params.length c1, .slice a2 p.body.length c2] 25)).heap.size (w.alloc (.cells #[.string p.name, .slice a1 p.params.length c1, .slice a2 p.body.length c2] 25)) wk → Calls Tryd.prog 11 #[] wk fun e' w' => e' = .returned (.bool true) ∧ Below w.heap.size w w' := fun wk hk =>
    (HW.out wk (HT.out.below hk)).mono fun e' w' h => ⟨h.1, below_2 hb (below_2 hk h.2)⟩
  have HWk := Lib.hid hworks
  unfold prV at HS HC HNm ⊢
  unfold prO at *
  clear hworks HW hb hbx hok hc1 ht hK hnl
  generalize small p 1600 = sm at *
  generalize (chk p).2 = z at *
  cases sm with
  | false =>
    go_enter Tryd.func6, Tryd.ntmps6
    go_wp2_with fail
    refine HS.out.mono ?_; rintro e' w2 ⟨rfl, hb2⟩
    have HB2 := Lib.hid hb2
    clear hb2
    go_wp2_with fail
    refine (HWk.out _ HB2.out).mono ?_; rintro e' w3 ⟨rfl, hb3⟩
    have HB3 := Lib.hid hb3
    clear hb3
    go_wp2_with fail
    go_ret
    exact ⟨rfl, HB3.out⟩
  | true =>
    have HNm1 := Lib.hid (HNm.out (by trivial))
    have HSc1 := Lib.hid (HSc.out (by trivial))
    have HNL1 := Lib.hid (HNL.out (by trivial))
    have HPL : Hid (p.params.length ≤ 40) := (HSF.out (by trivial)).1
    go_enter Tryd.func6, Tryd.ntmps6
    go_wp2_with fail
    refine HS.out.mono ?_; rintro e' w2 ⟨rfl, hb2⟩
    have HB2 := Lib.hid hb2
    have x0 := (HX.out.below hb2).cell 0
    have x1 := (HX.out.below hb2).cell 1
    have x2 := (HX.out.below hb2).cell 2
    have HC2 := Lib.hid (HC.out (by trivial) _ (HT.out.below hb2) (HK.out.below hb2))
    clear hb2 HC HS HNm HSc HNL HSF
    go_wp2_with fail
    refine HC2.out.mono ?_; rintro e' w3 ⟨rfl, hb3⟩
    have HB3 := Lib.hid (below_2 HB2.out hb3)
    clear hb3 HC2 x0 x1 x2 HB2
    by_cases hz : z = 0
    case neg =>
      have bz : (z != 0) = true := bne_iff_ne.2 hz
      clear hz
      go_wp2_with fail
      refine (HWk.out _ HB3.out).mono ?_; rintro e' w4 ⟨rfl, hb4⟩
      have HB4 := Lib.hid hb4
      clear hb4
      go_wp2_with fail
      go_ret
      exact ⟨rfl, HB4.out⟩
    subst hz
    obtain ⟨hnd, hsc⟩ := HCk.out rfl
    have HND := Lib.hid hnd
    rw [hsc] at HSc1
    clear hnd hsc HCk
    obtain ⟨m, hm⟩ : ∃ m, p.params.length = m := ⟨_, rfl⟩
    have HM := Lib.hid hm
    rw [hm] at HPL HSc1 HX HB3 HK HT HWk HNm1 ⊢
    have hm40 := HPL.out
    clear hm HPL
    go_wp2_with fail
    go_loopw [3, 4] (fun s3 s4 wr => ∃ (k : Nat) (l : List ByteArray) (pl : Option Addr) (ql : Nat), k ≤ m ∧ s4 = .int .i64 k ∧ s3 = .slice pl l.length ql ∧ Hid (l = (p.params.take k).map Pm.name) ∧ Hid (Own1 kN wr w3.heap.size (fun _ => False) (.slice pl l.length ql) l) ∧ Hid (Below w3.heap.size w3 wr)) (fun _ i _ => m - (intOf i).toNat)
    case atStart => exact ⟨0, [], none, 0, Nat.zero_le _, rfl, rfl, rfl, Own1.nil, Below.refl _ _⟩
    case round =>
      obtain ⟨k, l, pl, ql, hk, rfl, rfl, HXl, HR, HBr⟩ := hrel
      have hllk : l.length ≤ k := by have := congrArg List.length HXl.out; rw [List.length_map, List.length_take] at this; omega
      have HB4 := Lib.hid (below_2 HB3.out HBr.out)
      have hbx := HX.out.below HB4.out
      have x0 := hbx.cell 0
      have x1 := hbx.cell 1
      have x2 := hbx.cell 2
      simp only [List.getElem?_toArray, List.getElem?_cons_zero, List.getElem?_cons_succ] at x0 x1 x2
      have hz := HBr.out.size
      clear hbx
      by_cases hlt : k < m
      · have hlx : k < p.params.length := by rw [HM.out]; exact hlt
        obtain ⟨b3, i3, rfl, hcc⟩ := (HK.out.below HB4.out).params.open hlx
        obtain ⟨f0, f1⟩ := hcc k hlx
        have hxn := A.names_take hlx
        generalize p.params[k] = q at f0 f1 hxn
        have HXN : Hid (l ++ [q.name] = (p.params.take (k + 1)).map Pm.name) := by show _ = _; rw [hxn, HXl.out]
        have HL6 : Hid ((l ++ [q.name]).length = l.length + 1) := by show _ = _; simp
        clear hcc hxn
        go_wp2_with (at_builtin; refine kN.wpList rfl (.tmp 23) (.tmp 30) rfl w3.heap.size (.slice pl l.length ql) l rfl HR.out.row q.name _ rfl wr.heap.size rfl rfl (by omega) (by omega) ?_; intro g6 cap6 w6 hown6 hgrow6 hlie6)
        have HR6 := Lib.hid (HR.out.push trivial (fun j hj => hj.elim) hown6 hgrow6 hlie6)
        have HB6 := Lib.hid (HR.out.frame HBr.out hz hgrow6)
        clear hown6 hgrow6 hlie6
        go_wp2_with fail
        go_roundw
        case rel => exact ⟨k + 1, l ++ [q.name], some ⟨g6, 0, none⟩, cap6, by omega, by go_num, by rw [HL6.out], HXN.out, by show Own1 _ _ _ _ _ _; rw [HL6.out]; exact HR6.out, HB6.out⟩
        case measure => simp [intOf]; omega
      · have hX := HXl.out
        rw [List.take_of_length_le (by rw [HM.out]; omega)] at hX
        have hstr : StrsAt wr pl (p.params.map Pm.name) := by rw [← hX]; exact HR.out.strs
        have HSt := Lib.hid hstr
        have hll : l.length = m := by rw [hX, List.length_map, HM.out]
        have HN4 := Lib.hid (HNm1.out wr (HK.out.below HB4.out))
        have hkm : k = m := by omega
        subst hkm
        rw [hll]
        clear hX hstr hll HXl HR hllk
        go_wp2_with fail
        refine HN4.out.mono ?_; rintro e' w5 ⟨pn, qn, rfl, hq, hsn, hb5⟩
        have HSn := Lib.hid hsn
        have HQn := Lib.hid hq
        have HB5 := Lib.hid (below_2 HB4.out hb5)
        have HSt5 := Lib.hid (HSt.out.below hb5)
        have hnl := HNL1.out
        clear hsn hb5 HSt HN4 x0 x1 x2 hz
        obtain ⟨nn, hnn⟩ : ∃ m, (names p).length = m := ⟨_, rfl⟩
        have HNN := Lib.hid hnn
        rw [hnn] at hnl hq ⊢
        clear hnn
        go_wp2_with fail
        go_loopw [6] (fun s6 wr => ∃ (i : Nat), i ≤ nn ∧ s6 = .int .i64 i ∧ Hid (Below w5.heap.size w5 wr)) (fun i _ => nn - (intOf i).toNat)
        case atStart => exact ⟨0, Nat.zero_le _, rfl, Below.refl _ _⟩
        case round =>
          obtain ⟨i, hi, rfl, HBs⟩ := hrel
          by_cases hlt2 : i < nn
          · have hlx : i < (names p).length := by rw [HNN.out]; exact hlt2
            obtain ⟨bn, iN, rfl, hcn⟩ := (HSn.out.below HBs.out).open hlx
            have f0 := hcn i hlx
            have hiq : i ≤ qn := by omega
            have HH : Hid (∀ wk, Below wr.heap.size wr wk → Calls Tryd.prog 20 #[.slice (some ⟨bn, iN, none⟩) i qn, .string (names p)[i]] wk fun e' w' => e' = .returned (.bool false) ∧ w' = wk) := fun wk hb => by
              have := has_any ((names p).take i) (some ⟨bn, iN, none⟩) qn (names p)[i] (by rw [List.length_take]; omega) wk (strs_take ((HSn.out.below HBs.out).below hb) i)
              rw [isIn_take HND.out hlx, List.length_take, Nat.min_eq_left (Nat.le_of_lt hlx)] at this
              exact this
            generalize (names p)[i] = x at f0 HH
            clear hcn
            go_wp2_with fail
            go_quiet (first | (go_at_call 20; exact Calls.quiet_of_same (HH.out _ (A.below_dn _ _))))
            go_wp2_with fail
            go_roundw
            case rel => exact ⟨i + 1, by omega, by go_num, below_2 HBs.out (A.below_dn _ _)⟩
            case measure => simp [intOf]; omega
          · have HB6 := Lib.hid (below_2 HB5.out HBs.out)
            have hbx := HX.out.below HB6.out
            have x0 := hbx.cell 0
            have x1 := hbx.cell 1
            have x2 := hbx.cell 2
            simp only [List.getElem?_toArray, List.getElem?_cons_zero, List.getElem?_cons_succ] at x0 x1 x2
            have HS6 := Lib.hid (HSc1.out wr pl ql (HK.out.below HB6.out) (HSt5.out.below HBs.out))
            clear hbx
            go_wp2_with fail
            refine HS6.out.mono ?_; rintro e' w7 ⟨rfl, hb7⟩
            have HB7 := Lib.hid (below_2 HB6.out hb7)
            clear hb7 x0 x1 x2
            go_wp2_with fail
            refine (HWk.out _ HB7.out).mono ?_; rintro e' w8 ⟨rfl, hb8⟩
            have HB8 := Lib.hid hb8
            clear hb8
            go_wp2_with fail
            go_ret
            exact ⟨rfl, HB8.out⟩
end Go.Proofs.YtgjnddjpinhkgaaDoor.Y
