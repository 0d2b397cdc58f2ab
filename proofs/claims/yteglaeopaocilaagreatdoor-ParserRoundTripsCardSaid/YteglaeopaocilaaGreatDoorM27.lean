/-
  What the parser's methods return: params: contracts.
  What the parser's methods return: proc: contracts.
  What the parser's methods return: program: contracts.
  What the deferred closures of the parser do, for a panic and without one.
  What the deferred closures of the parser do, for a panic and without one: contracts.
  Plain mathematics of layer 10, without the program: what is read from tokens that fit memory fits memory.
-/
import Derived.Test.YteglaeopaocilaaGreatDoorM26
import Derived.Test.YteglaeopaocilaaGreatDoorM18
import Derived.Defers
import Derived.Recover
import Derived.BigRegion
namespace Go.Proofs.YteglaeopaocilaaGreatDoor.P
open Go.RowKit
open L (Str Tok Tks toks At below_2 below_box ret_bool ret_int ret_string)
open A

theorem info_p : (Tryz.prog.info? 58).map (fun i => (i.zero, i.size, i.bytes)) = some (some (.agg #[.string ⟨#[]⟩, .int .i64 0]), 2, 24) := by kernel_rfl
def kP : RowK Pm where
  f := fun x => [.string x.name, .int .i64 x.ty]
  size := 2
  bytes := 24
  t := 22
  e := 58
  z := .agg #[.string ⟨#[]⟩, .int .i64 0]
  inn := fun _ _ _ => True
  und := Tryz.underlying22
  info := info_p
  len := fun _ => rfl
  one := fun x u hu => by simp at hu; rcases hu with rfl | rfl <;> rfl
  pos := by decide
  zs := rfl
  small := by decide
  next := fun _ _ => trivial
/-- parameters in blocks that Z leaves out -/
def PmsF (Z : Nat → Prop) (w : World) (a : Option Addr) (l : List Pm) : Prop := PmsAt (hollow Z w) a l
theorem pms_sub {w w' : World} (h : Sub w w') {a : Option Addr} {l : List Pm} (hk : PmsAt w a l) : PmsAt w' a l := by
  rcases hk with hk | ⟨b, i, ha, hk⟩
  · exact Or.inl hk
  · exact Or.inr ⟨b, i, ha, fun j hj => ⟨h _ _ _ (hk j hj).1, h _ _ _ (hk j hj).2⟩⟩
theorem PmsF.now {Z : Nat → Prop} {w : World} {a : Option Addr} {l : List Pm} (h : PmsF Z w a l) : PmsAt w a l := pms_sub (hollow_now Z w) h
theorem PmsF.next {Z Z' : Nat → Prop} {w w' : World} {a : Option Addr} {l : List Pm} (h : PmsF Z w a l) (hs : Stays Z Z' w w') : PmsF Z' w' a l := pms_sub (hollow_next hs) h
theorem own_pms {w : World} {b0 : Nat} {Z : Nat → Prop} {p : Option Addr} {q : Nat} {l : List Pm} (h : Own1 kP w b0 Z (.slice p l.length q) l) : PmsF Z w p l := by
  by_cases h0 : l = []
  · exact Or.inl h0
  · obtain ⟨g, rfl, hz, _⟩ := h.cell (List.length_pos_iff.2 h0)
    refine Or.inr ⟨g, 0, rfl, fun j hj => ?_⟩
    obtain ⟨g2, hg, hz2, hc⟩ := h.cell hj
    cases hg
    have h0 := hc 0 (by decide)
    have h1 := hc 1 (by decide)
    rw [Nat.zero_add]
    exact ⟨(hollow_cell Z w _ _ _).2 ⟨hz, h0⟩, (hollow_cell Z w _ _ _).2 ⟨hz, h1⟩⟩
theorem own_first {w : World} {B : Nat} (hB : B ≤ w.heap.size) (t : Pm) : Own1 kP (w.alloc (.cells #[.string t.name, .int .i64 t.ty] 58)) B (fun i => i < B) (.slice (some ⟨w.heap.size, 0, none⟩) 1 1) [t] := by
  refine ⟨⟨rfl, Or.inr ⟨w.heap.size, 1, #[.string t.name, .int .i64 t.ty], rfl, hB, Bk.new _ _ _, Nat.le_refl _, by decide, rfl, rfl⟩⟩, fun g hg hz => ?_, fun _ _ => trivial⟩
  have h1 : w.heap.size = g := by injection hg
  have h2 : g < B := hz
  omega
def okPs (B : Nat) (w' : World) (l : List Pm) (v : Value) : Prop := ∃ a c, v = .slice a l.length c ∧ l.length ≤ c ∧ PmsF (fun j => j < B) w' a l
/-- what follows a parameter -/
noncomputable def psL (acc : List Pm) (r : T) : R (List Pm) := if isW r [41] = true then .ok acc r.tail else if isW r [44] = true then gPs acc r.tail else .no r (wrong r)
theorem gPs_L (acc : List Pm) (l : T) : gPs acc l = (pmL l).to fun p r => psL (acc ++ [p]) r := by
  rw [gPs_step]
  unfold bodPs pmL nL
  cases nm1 l with
  | none => rfl
  | some nm =>
    show (if isW l.tail [58] = true then _ else _) = ((wL [58] l.tail).to _).to _
    unfold wL
    cases isW l.tail [58]
    · rfl
    · show (if tyOp l.tail.tail = 0 then _ else _) = ((tyL l.tail.tail).to _).to _
      unfold tyL
      by_cases h0 : tyOp l.tail.tail = 0
      · rw [if_pos h0, if_pos h0]; rfl
      · rw [if_neg h0, if_neg h0]; rfl
set_option maxHeartbeats 16000000 in
set_option maxRecDepth 100000 in
theorem oparams_any (g : Nat) (XS : List L.T) (hX : XS.length ≤ 1000000) (k bl : Nat) (w : World) (h : Psr g XS k 0 bl w) :
    Calls Tryz.prog 84 #[ptr g] w fun e w' => PRd g XS 0 bl w w' ((wL [40] (dr XS k)).to fun _ r => gQ r) (okPs w.heap.size w') e := by
  have hlt0 := h.lt
  have hk := h.le
  have HC1 := Lib.hid (cexpect g XS k bl ⟨#[40]⟩ [40] rfl w h)
  have hsf1 := wL_sf [40] (dr XS k)
  obtain ⟨QF, hQF⟩ : ∃ QF, ((wL [40] (dr XS k)).to fun _ r => gQ r) = QF := ⟨_, rfl⟩
  have HQ : Hid (QF = (wL [40] (dr XS k)).to fun _ r => gQ r) := hQF.symm
  rw [hQF]
  generalize wL [40] (dr XS k) = q1 at HC1 HQ hsf1
  clear hQF h
  go_enter Tryz.func84, Tryz.ntmps84
  go_wp2_with fail
  generalize hB0 : w.heap.size = B at *
  refine HC1.out.mono ?_; intro e w1 hm
  cases q1 with
  | no r x =>
    obtain ⟨j, hj, rfl⟩ := sf_no hsf1
    obtain ⟨hb, he⟩ := PRd.no_dr hm hj
    have HBp := Lib.hid hb
    unfold fails at he
    subst he
    have HJ := Lib.hid hj
    clear hb hm hj hsf1 HC1
    go_wp2_with fail
    refine ⟨rfl, ?_⟩
    rw [HQ.out]
    exact PRd.mk_no HJ.out HBp.out
  | ok u r =>
    obtain ⟨k1, hk1, hj1, rfl⟩ := sf_ok hsf1
    obtain ⟨hb, v, rfl, hP, rfl⟩ := PRd.ok_dr hm hj1
    have HB1 : Hid (Kp B g w w1) := hB0 ▸ hb
    have hw1 : B ≤ w1.heap.size := by have := hb.size; omega
    have HP1 := Lib.hid hP
    have HQ1 : Hid (QF = gQ (dr XS k1)) := HQ.out
    have HC2 := Lib.hid (ctake g XS k1 bl ⟨#[41]⟩ [41] rfl w1 hP)
    clear hb hm hP hsf1 HC1 HQ
    go_wp2_with fail
    cases hV : isW (dr XS k1) [41]
    · rw [hV] at HC2
      have HQ2 : Hid (QF = (pmL (dr XS k1)).to fun p r => psL ([] ++ [p]) r) := by
        show _ = _
        rw [HQ1.out]
        unfold gQ
        rw [hV, if_neg (by decide), gPs_L]
      refine HC2.out.mono ?_; rintro e w2 ⟨rfl, hb, hP⟩
      have HP2 : Hid (Psr g XS k1 0 bl w2) := hP
      have HB2 := Lib.hid (HB1.out.on hB0 hb)
      have hw2 : w1.heap.size ≤ w2.heap.size := hb.size
      clear hb hP hV HC2 HQ1
      go_wp2_with fail
      have HC3 := Lib.hid (oparam_any g XS k1 bl w2 HP2.out)
      have hsf3 := pmL_sf (dr XS k1)
      generalize pmL (dr XS k1) = q3 at HC3 HQ2 hsf3
      refine HC3.out.mono ?_; intro e w3 hm
      cases q3 with
      | no r x =>
        obtain ⟨j, hj, rfl⟩ := sf_no hsf3
        obtain ⟨hb, he⟩ := PRd.no_dr hm hj
        have HBp := Lib.hid (HB2.out.on hB0 hb)
        unfold fails at he
        subst he
        have HJ := Lib.hid hj
        clear hb hm hj hsf3 HC3
        go_wp2_with fail
        refine ⟨rfl, ?_⟩
        rw [HQ2.out]
        exact PRd.mk_no HJ.out (hB0.symm ▸ HBp.out)
      | ok t r =>
        obtain ⟨k3, hk3, hj3, rfl⟩ := sf_ok hsf3
        obtain ⟨hb, v, rfl, hP, rfl⟩ := PRd.ok_dr hm hj3
        have hx := below_box w3 (.cells #[.string t.name, .int .i64 t.ty] 58)
        have hw3 : w2.heap.size ≤ w3.heap.size := hb.size
        have HB3 := Lib.hid ((HB2.out.on hB0 hb).on hB0 (Kp.of hx))
        have HP3 := Lib.hid (hP.below hx)
        have HO3 := Lib.hid (own_first (w := w3) (B := B) (by omega) t)
        have HQ3 : Hid (psL [t] (dr XS k3) = QF) := HQ2.out.symm
        have hsz : B ≤ (w3.alloc (.cells #[.string t.name, .int .i64 t.ty] 58)).heap.size := by have := HB3.out.size; omega
        clear hb hm hP hsf3 HC3 hx HQ2
        go_wp2_with fail
        generalize (w3.alloc (.cells #[.string t.name, .int .i64 t.ty] 58)) = W3 at *
        generalize w3.heap.size = G at *
        go_loopw [3] (fun v wr => ∃ (j : Nat) (acc : List Pm) (p : Option Addr) (q : Nat), v = .slice p acc.length q ∧ Hid (k < j ∧ j ≤ XS.length ∧ acc.length ≤ j) ∧ Hid (Own1 kP wr B (fun i => i < B) (.slice p acc.length q) acc) ∧ Hid (Psr g XS j 0 bl wr) ∧ Hid (Kp B g w wr) ∧ B ≤ wr.heap.size ∧ Hid (psL acc (dr XS j) = QF)) (fun _ wr => lenAt g wr)
        case atStart => exact ⟨k3, [t], some ⟨G, 0, none⟩, 1, rfl, ⟨by omega, hj3, by simp; omega⟩, HO3, HP3, HB3, hsz, HQ3⟩
        case round =>
          clear HP3 HB3 HQ3 HO3 hsz
          obtain ⟨j, acc, p, q, rfl, HJ, HO, HP, HB, hsz, HQ⟩ := hrel
          have hj := HJ.out
          have hll : acc.length ≤ 999999 ∨ j = 1000000 := by omega
          have hlenm : lenAt g wr = XS.length - j := HP.out.len
          have HLen := Lib.hid hlenm
          have HC2 := Lib.hid (ctake g XS j bl ⟨#[44]⟩ [44] rfl wr HP.out)
          cases hV : isW (dr XS j) [44]
          · rw [hV] at HC2
            have HQ2 : Hid (QF = (wL [41] (dr XS j)).to fun _ r => .ok acc r) := by
              show _ = _
              rw [← HQ.out]
              unfold psL wL
              cases isW (dr XS j) [41]
              · rw [if_neg (by decide), hV]; rfl
              · rfl
            clear hV hlenm
            go_wp2_with fail
            refine HC2.out.mono ?_; rintro e w4 ⟨rfl, hb2, hP2⟩
            have HP2 : Hid (Psr g XS j 0 bl w4) := hP2
            have HB2 := Lib.hid (HB.out.on hB0 hb2)
            have HO2 := Lib.hid (own_kp HO.out (show g < B by omega) hb2)
            clear hb2 hP2 HC2
            go_wp2_with fail
            have HC4 := Lib.hid (cexpect g XS j bl ⟨#[41]⟩ [41] rfl w4 HP2.out)
            have hsf4 := wL_sf [41] (dr XS j)
            generalize wL [41] (dr XS j) = q4 at HC4 HQ2 hsf4
            refine HC4.out.mono ?_; intro e w5 hm
            cases q4 with
            | no r x =>
              obtain ⟨i, hi, rfl⟩ := sf_no hsf4
              obtain ⟨hb, he⟩ := PRd.no_dr hm hi
              have HBp := Lib.hid (HB2.out.on hB0 hb)
              have HI := Lib.hid hi
              unfold fails at he
              subst he
              clear hb hm hi hsf4
              go_wp2_with fail
              refine ⟨rfl, ?_⟩
              rw [HQ2.out]
              exact PRd.mk_no HI.out (hB0.symm ▸ HBp.out)
            | ok u r =>
              obtain ⟨i, hji, hi, rfl⟩ := sf_ok hsf4
              obtain ⟨hb, v, rfl, hP3, rfl⟩ := PRd.ok_dr hm hi
              have HB3 := Lib.hid (HB2.out.on hB0 hb)
              have HO3 := Lib.hid (own_kp HO2.out (show g < B by omega) hb)
              have HP3 := Lib.hid hP3
              have HI := Lib.hid hi
              clear hb hm hP3 hi hsf4 HC4
              go_wp2_with fail
              go_ret
              rw [HQ2.out]
              have hcap : acc.length ≤ q := by
                obtain ⟨p', q', he, hc⟩ := HO3.out.shape
                cases he
                exact hc
              exact PRd.mk_ok HI.out (hB0.symm ▸ HB3.out) HP3.out ⟨p, q, rfl, hcap, hB0.symm ▸ own_pms HO3.out⟩
          · rw [hV] at HC2
            have hjl : j + 1 ≤ XS.length := by
              rcases Nat.lt_or_ge j XS.length with h | h
              · exact h
              · rw [is_none h] at hV; cases hV
            have HQ2 : Hid (QF = (pmL (dr XS (j + 1))).to fun p r => psL (acc ++ [p]) r) := by
              show _ = _
              rw [← HQ.out]
              unfold psL
              rw [isW_of hV [41], if_neg (by decide), hV, if_pos rfl, gPs_L, dr_tail]
              rfl
            clear hV hlenm
            go_wp2_with fail
            refine HC2.out.mono ?_; rintro e w4 ⟨rfl, hb2, hP2⟩
            have HP2 : Hid (Psr g XS (j + 1) 0 bl w4) := hP2
            have HB2 := Lib.hid (HB.out.on hB0 hb2)
            have HO2 := Lib.hid (own_kp HO.out (show g < B by omega) hb2)
            have hw4 : wr.heap.size ≤ w4.heap.size := hb2.size
            clear hb2 hP2 HC2
            go_wp2_with fail
            have HC4 := Lib.hid (oparam_any g XS (j + 1) bl w4 HP2.out)
            have hsf4 := pmL_sf (dr XS (j + 1))
            generalize pmL (dr XS (j + 1)) = q4 at HC4 HQ2 hsf4
            refine HC4.out.mono ?_; intro e w5 hm
            cases q4 with
            | no r x =>
              obtain ⟨i, hi, rfl⟩ := sf_no hsf4
              obtain ⟨hb, he⟩ := PRd.no_dr hm hi
              have HBp := Lib.hid (HB2.out.on hB0 hb)
              have HI := Lib.hid hi
              unfold fails at he
              subst he
              clear hb hm hi hsf4
              go_wp2_with fail
              refine ⟨rfl, ?_⟩
              rw [HQ2.out]
              exact PRd.mk_no HI.out (hB0.symm ▸ HBp.out)
            | ok t r =>
              obtain ⟨i, hji, hi, rfl⟩ := sf_ok hsf4
              obtain ⟨hb, v, rfl, hP3, rfl⟩ := PRd.ok_dr hm hi
              have hw5 : w4.heap.size ≤ w5.heap.size := hb.size
              have HO3 := Lib.hid (own_kp HO2.out (show g < B by omega) hb)
              have HB3 := Lib.hid (HB2.out.on hB0 hb)
              have HP3 := Lib.hid hP3
              have HCS : Hid ([.string t.name, .int .i64 t.ty] = kP.f t) := rfl
              have HI : Hid (j < i ∧ i ≤ XS.length) := ⟨by omega, hi⟩
              clear hb hm hP3 hsf4
              go_wp2_with (at_builtin; refine kP.wpList rfl (.tmp 13) (.tmp 16) rfl B (.slice p acc.length q) acc rfl HO3.out.row t _ HCS.out w5.heap.size rfl rfl (by omega) (by omega) ?_; intro g6 cap6 w6 hown6 hgrow6 hlie6)
              have hx1 := below_box w5 (.cells #[.string t.name, .int .i64 t.ty] 58)
              have HO6 := Lib.hid (HO3.out.push (y := t) trivial (fun j hj => by show j < w5.heap.size; have h2 : j < B := hj; omega) hown6 hgrow6 hlie6)
              have hrow : ∀ k, (Value.slice p acc.length q).ownBlock = some k → B ≤ k := fun k hk => (HO3.out.lt k hk).1
              have hz6 : w5.heap.size < (w5.alloc (.cells #[.string t.name, .int .i64 t.ty] 58)).heap.size := by simp
              have HB6 := Lib.hid (kp_grown (HB3.out.on hB0 (Kp.of hx1)) hgrow6 (by have h9 : B ≤ w5.heap.size := (by omega); omega) hrow)
              have HP6 := Lib.hid (psr_grown (HP3.out.below hx1) hgrow6 (fun k hk => by have := hrow k hk; omega))
              have hw6 : B ≤ w6.heap.size := by have h9 := HB6.out.size; omega
              have HL6 : Hid ((acc ++ [t]).length = acc.length + 1) := by show _ = _; simp
              have HQ6 : Hid (psL (acc ++ [t]) (dr XS i) = QF) := HQ2.out.symm
              clear hown6 hgrow6 hlie6 hrow hx1 hz6 hi hji
              go_wp2_with fail
              go_roundw
              case rel =>
                exact ⟨i, acc ++ [t], some ⟨g6, 0, none⟩, cap6, by rw [HL6.out], ⟨by have := HI.out; omega, HI.out.2, by have := HI.out; rw [HL6.out]; omega⟩, by show Own1 _ _ _ _ _ _; rw [HL6.out]; exact HO6.out, HP6, HB6, hw6, HQ6⟩
              case measure =>
                have h1 := HP6.out.len
                have h2 := HI.out
                have h3 := HLen.out
                omega
    · rw [hV] at HC2
      have hlt : k1 + 1 ≤ XS.length := by
        rcases Nat.lt_or_ge k1 XS.length with h | h
        · exact h
        · rw [is_none h] at hV; cases hV
      have HQ2 : Hid (QF = .ok [] (dr XS (k1 + 1))) := by
        show _ = _
        rw [HQ1.out]
        unfold gQ
        rw [hV, if_pos rfl, dr_tail]
      refine HC2.out.mono ?_; rintro e w2 ⟨rfl, hb, hP⟩
      have HP2 : Hid (Psr g XS (k1 + 1) 0 bl w2) := hP
      have HB2 := Lib.hid (HB1.out.on hB0 hb)
      have HLT := Lib.hid hlt
      clear hb hP hV HC2 HQ1 hlt
      go_wp2_with fail
      go_ret
      rw [HQ2.out]
      exact PRd.mk_ok HLT.out (hB0.symm ▸ HB2.out) HP2.out ⟨none, 0, rfl, Nat.le_refl _, Or.inl rfl⟩
end Go.Proofs.YteglaeopaocilaaGreatDoor.P
namespace Go.Proofs.YteglaeopaocilaaGreatDoor.P
open Go.RowKit
open L (Str Tok Tks toks At below_2 below_box ret_bool ret_int ret_string)
open A

theorem cells3 {w : World} {b : Nat} {x y z : Value} {t : TypeId} (h : Bk w b #[x, y, z] t) : w.cell? ⟨b, 0, none⟩ = some x ∧ w.cell? ⟨b, 1, none⟩ = some y ∧ w.cell? ⟨b, 2, none⟩ = some z := ⟨h.cell 0, h.cell 1, h.cell 2⟩
theorem free3 {w : World} {b : Nat} {x y z : Value} {t : TypeId} (h : Bk w b #[x, y, z] t) : w.frozen? ⟨b, 0, none⟩ = false ∧ w.frozen? ⟨b, 1, none⟩ = false ∧ w.frozen? ⟨b, 2, none⟩ = false := ⟨h.free 0, h.free 1, h.free 2⟩
theorem stored3 {w : World} {g : Nat} {x y z : Value} {t : TypeId} (h : Bk w g #[x, y, z] t) (a b c : Value) :
    let w' := ((w.setCell ⟨g, 0, none⟩ a).setCell ⟨g, 1, none⟩ b).setCell ⟨g, 2, none⟩ c
    w'.cell? ⟨g, 0, none⟩ = some a ∧ w'.cell? ⟨g, 1, none⟩ = some b ∧ w'.cell? ⟨g, 2, none⟩ = some c := by
  have h4 := ((h.set 0 (u := a)).set 1 (u := b)).set 2 (u := c)
  exact cells3 (x := a) (y := b) (z := c) (by simpa using h4)
def okP0 (B : Nat) (w' : World) (u : Pr) (v : Value) : Prop := ∃ a1 c1 a2 c2, v = prV u a1 c1 a2 c2 ∧ u.params.length ≤ c1 ∧ PmsF (fun j => j < B) w' a1 u.params ∧ BodiesF (fun j => j < B) w' a2 u.body
def okPr (B : Nat) (w' : World) (p : Pr) (v : Value) : Prop := okP0 B w' (clipP p) v
noncomputable def qL (l : T) : R (List Pm) := (wL [40] l).to fun _ r => gQ r
theorem qL_sf (l : T) : Sf l (qL l) := sf_to (wL_sf _ l) fun _ r => Or.inl (gQ_sf r)
theorem gP_L (l : T) : gP l = (wL kProc l).to fun _ r => (nL r).to fun nm r => (qL r).to fun ps r => (gB 0 r).to fun b r2 => .ok ⟨nm, ps, b⟩ r2 := by
  unfold gP wL nL
  cases isW l kProc
  · rfl
  · show (match nm1 l.tail with | none => _ | some nm => _) = (match nm1 l.tail with | some nm => R.ok nm l.tail.tail | none => R.no l.tail (wrong l.tail)).to _
    cases nm1 l.tail with
    | none => rfl
    | some nm =>
      show (if isW l.tail.tail [40] = true then _ else _) = (qL l.tail.tail).to _
      unfold qL wL
      cases isW l.tail.tail [40] <;> rfl
theorem pmF_kp {Z : Nat → Prop} {w w' : World} {g : Nat} {p : Option Addr} {l : List Pm} (h : PmsF Z w p l) (hg : Z g) (hb : Kp w.heap.size g w w') : PmsF Z w' p l := h.next ⟨fun j hj hz => hb.block j hj (fun e => hz (by rw [e]; exact hg)), fun _ hj => Or.inl hj⟩
theorem pmF_of {Z Z' : Nat → Prop} {w : World} {p : Option Addr} {l : List Pm} (h : PmsF Z w p l) (hz : ∀ j, Z' j → Z j) : PmsF Z' w p l := h.next ⟨fun _ _ _ => rfl, fun j hj => Or.inl (hz j hj)⟩
theorem pmF_set {Z : Nat → Prop} {w : World} {b i : Nat} {u : Value} {p : Option Addr} {l : List Pm} (hb : Z b) (h : PmsF Z w p l) : PmsF Z (w.setCell ⟨b, i, none⟩ u) p l :=
  h.next ⟨fun j _ hz => Below.heap_setCell _ _ _ _ (fun e => hz (by subst e; exact hb)), fun _ hj => Or.inl hj⟩
set_option maxHeartbeats 16000000 in
set_option maxRecDepth 100000 in
theorem oproc_all (g : Nat) (XS : List L.T) (hX : XS.length ≤ 1000000) (k : Nat) (w : World) (h : Psr g XS k 0 0 w) :
    Calls Tryz.prog 39 #[ptr g] w fun e w' => PRd g XS 0 0 w w' (gP (dr XS k)) (okPr w.heap.size w') e := by
  have hbx := below_box w (.cells #[.string ⟨#[]⟩, .slice none 0 0, .slice none 0 0] 25)
  have HM := Lib.hid (Bk.new w #[.string ⟨#[]⟩, .slice none 0 0, .slice none 0 0] 25)
  have hlt0 := h.lt
  have HP := Lib.hid (h.below hbx)
  have HB : Hid (Kp w.heap.size g w _) := Kp.of hbx
  have HQ : Hid (gP (dr XS k) = (wL kProc (dr XS k)).to fun _ r => (nL r).to fun nm r => (qL r).to fun ps r => (gB 0 r).to fun b r2 => .ok ⟨nm, ps, b⟩ r2) := gP_L _
  generalize gP (dr XS k) = QF at HQ ⊢
  clear hbx h
  go_enter Tryz.func39, Tryz.ntmps39
  go_wp2_with fail
  generalize w.alloc (.cells #[.string ⟨#[]⟩, .slice none 0 0, .slice none 0 0] 25) = W0 at *
  generalize hB0 : w.heap.size = B at *
  have hgB : g < B := hlt0
  have HC1 := Lib.hid (cexpect g XS k 0 ⟨#[112, 114, 111, 99]⟩ kProc rfl W0 HP.out)
  have hsf1 := wL_sf kProc (dr XS k)
  generalize wL kProc (dr XS k) = q1 at HC1 HQ hsf1
  refine HC1.out.mono ?_; intro e w1 hm
  cases q1 with
  | no r x =>
    obtain ⟨j, hj, rfl⟩ := sf_no hsf1
    obtain ⟨hb, he⟩ := PRd.no_dr hm hj
    have HBp := Lib.hid (HB.out.on hB0 hb)
    unfold fails at he
    subst he
    have HJ := Lib.hid hj
    clear hb hm hj hsf1 HC1
    go_wp2_with fail
    refine ⟨rfl, ?_⟩
    rw [HQ.out]
    exact PRd.mk_no HJ.out (hB0.symm ▸ HBp.out)
  | ok u r =>
    obtain ⟨k1, hk1, hj1, rfl⟩ := sf_ok hsf1
    obtain ⟨hb, v, rfl, hP, rfl⟩ := PRd.ok_dr hm hj1
    have HB1 := Lib.hid (HB.out.on hB0 hb)
    have HM1 := Lib.hid (HM.out.kp (by omega) hb)
    have HP1 := Lib.hid hP
    have HQ1 : Hid (QF = (nL (dr XS k1)).to fun nm r => (qL r).to fun ps r => (gB 0 r).to fun b r2 => .ok ⟨nm, ps, b⟩ r2) := HQ.out
    clear hb hm hP hsf1 HC1 HB HM HP HQ
    go_wp2_with fail
    have HC2 := Lib.hid (cname g XS k1 0 w1 HP1.out)
    have hsf2 := nL_sf (dr XS k1)
    generalize nL (dr XS k1) = q2 at HC2 HQ1 hsf2
    refine HC2.out.mono ?_; intro e w2 hm
    cases q2 with
    | no r x =>
      obtain ⟨j, hj, rfl⟩ := sf_no hsf2
      obtain ⟨hb, he⟩ := PRd.no_dr hm hj
      have HBp := Lib.hid (HB1.out.on hB0 hb)
      unfold fails at he
      subst he
      have HJ := Lib.hid hj
      clear hb hm hj hsf2 HC2
      go_wp2_with fail
      refine ⟨rfl, ?_⟩
      rw [HQ1.out]
      exact PRd.mk_no HJ.out (hB0.symm ▸ HBp.out)
    | ok nm r =>
      obtain ⟨k2, hk2, hj2, rfl⟩ := sf_ok hsf2
      obtain ⟨hb, v, rfl, hP, hv⟩ := PRd.ok_dr hm hj2
      unfold okN at hv
      subst hv
      have hx := below_box w2 (.cells #[.string nm, .slice none 0 0, .slice none 0 0] 25)
      have hM1 := HM1.out.kp (by omega) hb
      have hBS : B < w2.heap.size := hM1.lt
      have HB2 := Lib.hid ((HB1.out.on hB0 hb).on hB0 (Kp.of hx))
      have HM2 := Lib.hid (hM1.below hx)
      have HP2 := Lib.hid (hP.below hx)
      have HS2 := Lib.hid (Bk.new w2 #[.string nm, .slice none 0 0, .slice none 0 0] 25)
      have HQ2 : Hid (QF = (qL (dr XS k2)).to fun ps r => (gB 0 r).to fun b r2 => .ok ⟨nm, ps, b⟩ r2) := HQ1.out
      clear hb hm hP hsf2 HC2 hx hM1 HB1 HM1 HP1 HQ1
      go_wp2_with fail
      generalize (w2.alloc (.cells #[.string nm, .slice none 0 0, .slice none 0 0] 25)) = W2 at *
      generalize w2.heap.size = S at *
      have hSW : S < W2.heap.size := HS2.out.lt
      have HC3 : Hid (Calls _ _ _ W2 fun e w' => PRd g XS 0 0 W2 w' (qL (dr XS k2)) (okPs W2.heap.size w') e) := oparams_any g XS hX k2 0 W2 HP2.out
      have hsf3 := qL_sf (dr XS k2)
      generalize qL (dr XS k2) = q3 at HC3 HQ2 hsf3
      refine HC3.out.mono ?_; intro e w3 hm
      cases q3 with
      | no r x =>
        obtain ⟨j, hj, rfl⟩ := sf_no hsf3
        obtain ⟨hb, he⟩ := PRd.no_dr hm hj
        have HBp := Lib.hid (HB2.out.on hB0 hb)
        unfold fails at he
        subst he
        have HJ := Lib.hid hj
        clear hb hm hj hsf3 HC3
        go_wp2_with fail
        refine ⟨rfl, ?_⟩
        rw [HQ2.out]
        exact PRd.mk_no HJ.out (hB0.symm ▸ HBp.out)
      | ok ps r =>
        obtain ⟨k3, hk3, hj3, rfl⟩ := sf_ok hsf3
        obtain ⟨hb, v, rfl, hP, a1, c1, rfl, hcap, hK⟩ := PRd.ok_dr hm hj3
        have hS := HS2.out.kp (by omega) hb
        have hw3 : W2.heap.size ≤ w3.heap.size := hb.size
        obtain ⟨s0, s1, s2⟩ := cells3 hS
        obtain ⟨f0, f1, f2⟩ := free3 hS
        have HS3 : Hid (Bk (w3.setCell ⟨S, 1, none⟩ (.slice a1 ps.length c1)) S #[.string nm, .slice a1 ps.length c1, .slice none 0 0] 25) := by
          have hx := hS.set 1 (u := .slice a1 ps.length c1)
          unfold Hid; simpa using hx
        have HM3 := Lib.hid ((HM2.out.kp (by omega) hb).apart (c := S) (i := 1) (u := .slice a1 ps.length c1) (by omega))
        have HP3 := Lib.hid (hP.set (b := S) (i := 1) (u := .slice a1 ps.length c1) (by omega))
        have HB3 := Lib.hid (kp_set (i := 1) (u := .slice a1 ps.length c1) (HB2.out.on hB0 hb) (show B ≤ S by omega))
        have HK3 : Hid (PmsF (Zk2 B S) (w3.setCell ⟨S, 1, none⟩ (.slice a1 ps.length c1)) a1 ps) := pmF_set (Or.inr rfl) (pmF_of hK (fun i hi => by rcases hi with hi | hi <;> omega))
        have HQ3 : Hid (QF = (gB 0 (dr XS k3)).to fun b r2 => .ok ⟨nm, ps, b⟩ r2) := HQ2.out
        have hsz : (w3.setCell ⟨S, 1, none⟩ (.slice a1 ps.length c1)).heap.size = w3.heap.size := by simp [World.setCell]
        clear hb hm hP hsf3 HC3 hK hS HS2 HM2 HP2 HB2 HQ2
        go_wp2_with fail
        clear s0 s1 s2 f0 f1 f2
        generalize (w3.setCell ⟨S, 1, none⟩ (.slice a1 ps.length c1)) = W3 at *
        have HC4 := Lib.hid (cblock_all g XS hX (XS.length + 1) k3 0 (by omega) (by decide) W3 HP3.out)
        have hsf4 := (gB_is 0 (dr XS k3)).2
        generalize gB 0 (dr XS k3) = q4 at HC4 HQ3 hsf4
        refine HC4.out.mono ?_; intro e w4 hm
        cases q4 with
        | no r x =>
          obtain ⟨j, hj, rfl⟩ := sf_no hsf4
          obtain ⟨hb, he⟩ := PRd.no_dr hm hj
          have HBp := Lib.hid (HB3.out.on hB0 hb)
          unfold fails at he
          subst he
          have HJ := Lib.hid hj
          clear hb hm hj hsf4 HC4
          go_wp2_with fail
          refine ⟨rfl, ?_⟩
          rw [HQ3.out]
          exact PRd.mk_no HJ.out (hB0.symm ▸ HBp.out)
        | ok bd r =>
          obtain ⟨k4, hk4, hj4, rfl⟩ := sf_ok hsf4
          obtain ⟨hb, v, rfl, hP, a2, c2, rfl, hK⟩ := PRd.ok_dr hm hj4
          have hS := HS3.out.kp (by omega) hb
          have hM := HM3.out.kp (by omega) hb
          have hx := hS.set 2 (u := .slice a2 bd.length c2)
          have hS4 : Bk (w4.setCell ⟨S, 2, none⟩ (.slice a2 bd.length c2)) S #[.string nm, .slice a1 ps.length c1, .slice a2 bd.length c2] 25 := by simpa using hx
          have hM4 := hM.apart (c := S) (i := 2) (u := .slice a2 bd.length c2) (by omega)
          have HM4 := Lib.hid hM4
          have HP4 := Lib.hid (hP.set (b := S) (i := 2) (u := .slice a2 bd.length c2) (by omega))
          have HB4 := Lib.hid (kp_set (i := 2) (u := .slice a2 bd.length c2) (HB3.out.on hB0 hb) (show B ≤ S by omega))
          have HK4 : Hid (PmsF (Zk2 B S) (w4.setCell ⟨S, 2, none⟩ (.slice a2 bd.length c2)) a1 ps) := pmF_set (Or.inr rfl) (pmF_kp HK3.out (Or.inl (by omega)) hb)
          have HD4 : Hid (BodiesF (Zk2 B S) (w4.setCell ⟨S, 2, none⟩ (.slice a2 bd.length c2)) a2 (clipB bd)) := bz_set (Or.inr rfl) (bz_of hK (fun i hi => by rcases hi with hi | hi <;> omega))
          have HQ4 : Hid (QF = .ok ⟨nm, ps, bd⟩ (dr XS k4)) := HQ3.out
          obtain ⟨s0, s1, s2⟩ := cells3 hS
          obtain ⟨f0, f1, f2⟩ := free3 hS
          obtain ⟨t0, t1, t2⟩ := cells3 hS4
          obtain ⟨r0, r1, r2⟩ := cells3 hM4
          obtain ⟨g0, g1, g2⟩ := free3 hM4
          clear hb hm hP hsf4 HC4 hK hS hM hx hS4 hM4 HQ3
          go_wp2_with fail
          obtain ⟨q0, q1, q2⟩ := stored3 HM4.out (.string nm) (.slice a1 ps.length c1) (.slice a2 bd.length c2)
          refine bodyPost_ret (v := .agg #[.string nm, .slice a1 ps.length c1, .slice a2 bd.length c2]) (by simp [results, Tryz.results39, go_sem, q0, q1, q2]) rfl ?_
          rw [HQ4.out]
          have hz : ∀ i, i < w.heap.size → Zk2 B S i := fun i hi => Or.inl (by omega)
          exact PRd.mk_ok hj4 (kp_set (b := B) (kp_set (b := B) (kp_set (b := B) (hB0.symm ▸ HB4.out) (Nat.le_of_eq hB0)) (Nat.le_of_eq hB0)) (Nat.le_of_eq hB0)) (((HP4.out.set (b := B) hgB).set (b := B) hgB).set (b := B) hgB)
            ⟨a1, c1, a2, c2, (by show _ = prV ⟨nm, ps, clipB bd⟩ a1 c1 a2 c2; unfold prV; rw [clipB_len]), hcap, pmF_of (pmF_set (b := B) (Or.inl (Nat.lt_succ_self B)) (pmF_set (b := B) (Or.inl (Nat.lt_succ_self B)) (pmF_set (b := B) (Or.inl (Nat.lt_succ_self B)) HK4.out))) hz, bz_of (bz_set (b := B) (Or.inl (Nat.lt_succ_self B)) (bz_set (b := B) (Or.inl (Nat.lt_succ_self B)) (bz_set (b := B) (Or.inl (Nat.lt_succ_self B)) HD4.out))) hz⟩
end Go.Proofs.YteglaeopaocilaaGreatDoor.P
namespace Go.Proofs.YteglaeopaocilaaGreatDoor.P
open Go.RowKit
open L (Str Tok Tks toks At below_2 below_box ret_bool ret_int ret_string)
open A

/-- procedures, as long as one begins -/
noncomputable def gG : Nat → List Pr → T → R (List Pr)
  | 0, acc, l => .ok acc l
  | f + 1, acc, l => if isW l kProc = true then (gP l).to fun p r => gG f (acc ++ [p]) r else .ok acc l
theorem gG_fuel : ∀ (f h : Nat) (acc : List Pr) (l : T), l.length < f → l.length < h → gG f acc l = gG h acc l
  | 0, _, _, _, h1, _ => absurd h1 (Nat.not_lt_zero _)
  | _ + 1, 0, _, _, _, h2 => absurd h2 (Nat.not_lt_zero _)
  | f + 1, h + 1, acc, l, h1, h2 => by
    rw [gG, gG]
    have hsf := gP_sf l
    cases isW l kProc
    · rfl
    · rw [if_pos rfl, if_pos rfl]
      revert hsf
      cases gP l with
      | no r x => exact fun _ => rfl
      | ok p r =>
        intro hsf
        have h3 : r.length < l.length := hsf.2
        exact gG_fuel f h (acc ++ [p]) r (by omega) (by omega)
noncomputable def gR (acc : List Pr) (l : T) : R (List Pr) := gG (l.length + 1) acc l
theorem gR_step (acc : List Pr) (l : T) : gR acc l = if isW l kProc = true then (gP l).to fun p r => gR (acc ++ [p]) r else .ok acc l := by
  unfold gR
  rw [gG]
  cases isW l kProc
  · rfl
  · rw [if_pos rfl, if_pos rfl]
    have hsf := gP_sf l
    revert hsf
    cases gP l with
    | no r x => exact fun _ => rfl
    | ok p r =>
      intro hsf
      have h3 : r.length < l.length := hsf.2
      exact gG_fuel _ _ (acc ++ [p]) r (by omega) (by omega)
structure PrX where
  p : Pr
  a1 : Option Addr
  c1 : Nat
  a2 : Option Addr
  c2 : Nat
theorem info_r : (Tryz.prog.info? 25).map (fun i => (i.zero, i.size, i.bytes)) = some (some (.agg #[.string ⟨#[]⟩, .slice none 0 0, .slice none 0 0]), 3, 64) := by kernel_rfl
def kR : RowK PrX where
  f := fun x => [.string x.p.name, .slice x.a1 x.p.params.length x.c1, .slice x.a2 x.p.body.length x.c2]
  size := 3
  bytes := 64
  t := 42
  e := 25
  z := .agg #[.string ⟨#[]⟩, .slice none 0 0, .slice none 0 0]
  inn := fun Z w x => x.p.params.length ≤ x.c1 ∧ PmsF Z w x.a1 x.p.params ∧ BodiesF Z w x.a2 x.p.body
  und := Tryz.underlying42
  info := info_r
  len := fun _ => rfl
  one := fun x u hu => by simp at hu; rcases hu with rfl | rfl | rfl <;> rfl
  pos := by decide
  zs := rfl
  small := by decide
  next := fun h hs => ⟨h.1, PmsF.next h.2.1 hs, BodiesF.next h.2.2 hs⟩
def PrsF (Z : Nat → Prop) (w : World) (a : Option Addr) (l : List Pr) : Prop := Prs (hollow Z w) a l
theorem prs_sub {w w' : World} (h : Sub w w') {a : Option Addr} {l : List Pr} (hk : Prs w a l) : Prs w' a l := by
  rcases hk with hk | ⟨b, i, ha, hk⟩
  · exact Or.inl hk
  · refine Or.inr ⟨b, i, ha, fun j hj => ?_⟩
    obtain ⟨a1, c1, a2, c2, h0, h1, h2, h3, h4⟩ := hk j hj
    exact ⟨a1, c1, a2, c2, h _ _ _ h0, h _ _ _ h1, h _ _ _ h2, h3, pms_sub h h4.params, Bodies.sub h h4.body⟩
theorem PrsF.now {Z : Nat → Prop} {w : World} {a : Option Addr} {l : List Pr} (h : PrsF Z w a l) : Prs w a l := prs_sub (hollow_now Z w) h
theorem PrsF.next {Z Z' : Nat → Prop} {w w' : World} {a : Option Addr} {l : List Pr} (h : PrsF Z w a l) (hs : Stays Z Z' w w') : PrsF Z' w' a l := prs_sub (hollow_next hs) h
theorem own_prs {w : World} {b0 : Nat} {Z : Nat → Prop} {p : Option Addr} {q : Nat} {l : List PrX} (h : Own1 kR w b0 Z (.slice p l.length q) l) : PrsF Z w p (l.map PrX.p) := by
  by_cases h0 : l = []
  · left; rw [h0]; rfl
  · obtain ⟨g, rfl, hz, _⟩ := h.cell (List.length_pos_iff.2 h0)
    refine Or.inr ⟨g, 0, rfl, fun j hj => ?_⟩
    have hj' : j < l.length := by simpa using hj
    obtain ⟨g2, hg, hz2, hc⟩ := h.cell hj'
    cases hg
    have x0 := hc 0 (by decide)
    have x1 := hc 1 (by decide)
    have x2 := hc 2 (by decide)
    have hi := kR.next (Z' := Z) (h.each l[j] (List.getElem_mem hj')) ⟨fun _ _ _ => rfl, fun k hk => Or.inl (Or.inl hk)⟩
    rw [Nat.zero_add, List.getElem_map]
    exact ⟨l[j].a1, l[j].c1, l[j].a2, l[j].c2, (hollow_cell Z w _ _ _).2 ⟨hz, x0⟩, (hollow_cell Z w _ _ _).2 ⟨hz, x1⟩, (hollow_cell Z w _ _ _).2 ⟨hz, x2⟩, hi.1, hi.2.1, hi.2.2⟩
def okPg (B : Nat) (w' : World) (l : List Pr) (v : Value) : Prop := ∃ a c, v = .slice a l.length c ∧ l.length ≤ c ∧ PrsF (fun j => j < B) w' a (l.map clipP)
set_option maxHeartbeats 16000000 in
set_option maxRecDepth 100000 in
theorem oprogram_all (g : Nat) (XS : List L.T) (hX : XS.length ≤ 1000000) (k : Nat) (w : World) (h : Psr g XS k 0 0 w) :
    Calls Tryz.prog 54 #[ptr g] w fun e w' => PRd g XS 0 0 w w' (gR [] (dr XS k)) (okPg w.heap.size w') e := by
  have hlt0 := h.lt
  have hk := h.le
  have HP0 := Lib.hid h
  obtain ⟨QF, hQF⟩ : ∃ QF, gR [] (dr XS k) = QF := ⟨_, rfl⟩
  have HQ0 := Lib.hid hQF
  rw [hQF]
  clear hQF h
  go_enter Tryz.func54, Tryz.ntmps54
  go_wp2_with fail
  generalize hB0 : w.heap.size = B at *
  go_loopw [3] (fun v wr => ∃ (j : Nat) (acc : List Pr) (lt : List PrX) (p : Option Addr) (q : Nat), v = .slice p lt.length q ∧ Hid (k ≤ j ∧ j ≤ XS.length ∧ acc.length + k ≤ j) ∧ Hid (lt.map PrX.p = acc.map clipP) ∧ Hid (Own1 kR wr B (fun i => i < B) (.slice p lt.length q) lt) ∧ Hid (Psr g XS j 0 0 wr) ∧ Hid (Kp B g w wr) ∧ B ≤ wr.heap.size ∧ Hid (gR acc (dr XS j) = QF)) (fun _ wr => lenAt g wr)
  case atStart => exact ⟨k, [], [], none, 0, rfl, ⟨Nat.le_refl _, hk, by simp⟩, rfl, Own1.nil, HP0, Kp.refl _ _ _, by omega, HQ0.out⟩
  case round =>
    clear HP0 HQ0
    obtain ⟨j, acc, lt, p, q, rfl, HJ, HL, HO, HP, HB, hsz, HQ⟩ := hrel
    have hall : lt.length = acc.length := by have := congrArg List.length HL.out; rw [List.length_map, List.length_map] at this; exact this
    have hj := HJ.out
    have hlenm : lenAt g wr = XS.length - j := HP.out.len
    have HLen := Lib.hid hlenm
    have hstep := gR_step acc (dr XS j)
    rw [HQ.out] at hstep
    have HC1 := osees_any g XS j 0 0 wr HP.out ⟨#[112, 114, 111, 99]⟩
    change Calls _ _ _ _ (fun e w' => e = .returned (.bool (isW (dr XS j) kProc)) ∧ Below wr.heap.size wr w') at HC1
    have HC2 := Lib.hid HC1
    clear HC1
    cases hV : isW (dr XS j) kProc
    · rw [hV] at HC2
      rw [hV, if_neg (by decide)] at hstep
      have HQ2 := Lib.hid hstep
      have HA := Lib.hid hall
      clear hstep hV hlenm hall
      go_wp2_with fail
      refine HC2.out.mono ?_; rintro e w2 ⟨rfl, hb2⟩
      have HP2 := Lib.hid (HP.out.below hb2)
      have HB2 := Lib.hid (HB.out.on hB0 (Kp.of hb2))
      have HO2 := Lib.hid (HO.out.below hb2)
      clear hb2 HC2
      go_wp2_with fail
      go_ret
      rw [HQ2.out]
      have hcapq : lt.length ≤ q := by
        obtain ⟨p2, q2, h1, h2⟩ := HO2.out.shape
        cases h1
        exact h2
      have hbod := own_prs HO2.out
      rw [HL.out] at hbod
      exact PRd.mk_ok hj.2.1 (hB0.symm ▸ HB2.out) HP2.out ⟨p, q, by rw [HA.out]; rfl, HA.out ▸ hcapq, hB0.symm ▸ hbod⟩
    · rw [hV] at HC2
      rw [hV, if_pos rfl] at hstep
      have hjl : j < XS.length := by
        rcases Nat.lt_or_ge j XS.length with h | h
        · exact h
        · rw [is_none h] at hV; cases hV
      have hll : lt.length ≤ 999999 := by omega
      have hsf := gP_sf (dr XS j)
      have HS := Lib.hid (fun w' h' => oproc_all g XS hX j w' h')
      generalize gP (dr XS j) = q2 at hstep hsf HS
      have HQ2 := Lib.hid hstep
      clear hstep hV hlenm hall
      go_wp2_with fail
      refine HC2.out.mono ?_; rintro e w2 ⟨rfl, hb2⟩
      have HP2 := Lib.hid (HP.out.below hb2)
      have HB2 := Lib.hid (HB.out.on hB0 (Kp.of hb2))
      have hw2 : wr.heap.size ≤ w2.heap.size := hb2.size
      have HO2 := Lib.hid (HO.out.below hb2)
      clear hb2 HC2
      go_wp2_with fail
      refine (HS.out _ HP2.out).mono ?_; intro e w3 hm
      cases q2 with
      | no r x =>
        obtain ⟨i, hi, rfl⟩ := sf_no hsf
        obtain ⟨hb, he⟩ := PRd.no_dr hm hi
        have HBp := Lib.hid (HB2.out.on hB0 hb)
        have HI := Lib.hid hi
        unfold fails at he
        subst he
        clear hb hm hi hsf
        go_wp2_with fail
        refine ⟨rfl, ?_⟩
        rw [HQ2.out]
        exact PRd.mk_no HI.out (hB0.symm ▸ HBp.out)
      | ok s r =>
        obtain ⟨i, hji, hi, rfl⟩ := sf_ok hsf
        obtain ⟨hb, v, rfl, hP3, a1, c1, a2, c2, rfl, hcap, K1, K2⟩ := PRd.ok_dr hm hi
        have hw3 : w2.heap.size ≤ w3.heap.size := hb.size
        have HO3 := Lib.hid (own_kp HO2.out (show g < B by omega) hb)
        have HB3 := Lib.hid (HB2.out.on hB0 hb)
        have HP3 := Lib.hid hP3
        have HCL : Hid ((acc ++ [s]).map clipP = acc.map clipP ++ [clipP s]) := by show _ = _; rw [List.map_append]; rfl
        generalize clipP s = u at *
        obtain ⟨y, hy⟩ : ∃ y : PrX, y = ⟨u, a1, c1, a2, c2⟩ := ⟨_, rfl⟩
        have hK6 : kR.inn (fun j => j < B ∨ (Value.slice p lt.length q).ownBlock = some j) w3 y := by
          have hst : Stays (fun j => j < w2.heap.size) (fun j => j < B ∨ (Value.slice p lt.length q).ownBlock = some j) w3 w3 := ⟨fun _ _ _ => rfl, fun j hj => by
            rcases hj with hj | hj
            · left; show j < w2.heap.size; omega
            · left; exact (HO2.out.lt j hj).2⟩
          rw [hy]
          exact ⟨hcap, K1.next hst, K2.next hst⟩
        have HK6 := Lib.hid hK6
        have HCS : Hid ([.string u.name, .slice a1 u.params.length c1, .slice a2 u.body.length c2] = kR.f y) := by
          show _ = _
          rw [hy]
          rfl
        have HYS : Hid (y.p = u) := by show _ = _; rw [hy]
        have HI : Hid (j < i ∧ i ≤ XS.length) := ⟨hji, hi⟩
        clear hb hm hP3 K1 K2 hK6 hy hsf hji hi hcap
        unfold prV
        go_wp2_with (at_builtin; refine kR.wpList rfl (.tmp 6) (.tmp 9) rfl B (.slice p lt.length q) lt rfl HO3.out.row y _ HCS.out w3.heap.size rfl rfl (by omega) (by omega) ?_; intro g6 cap6 w6 hown6 hgrow6 hlie6)
        have hx1 := below_box w3 (.cells #[.string u.name, .slice a1 u.params.length c1, .slice a2 u.body.length c2] 25)
        have HO6 := Lib.hid (HO3.out.push HK6.out (fun j hj => by show j < w3.heap.size; have h2 : j < B := hj; omega) hown6 hgrow6 hlie6)
        have hrow : ∀ k, (Value.slice p lt.length q).ownBlock = some k → B ≤ k := fun k hk => (HO3.out.lt k hk).1
        have hz6 : w3.heap.size < (w3.alloc (.cells #[.string u.name, .slice a1 u.params.length c1, .slice a2 u.body.length c2] 25)).heap.size := by simp
        have HB6 := Lib.hid (kp_grown (HB3.out.on hB0 (Kp.of hx1)) hgrow6 (by have h9 : B ≤ w3.heap.size := (by omega); omega) hrow)
        have HP6 := Lib.hid (psr_grown (HP3.out.below hx1) hgrow6 (fun k hk => by have := hrow k hk; omega))
        have hw6 : B ≤ w6.heap.size := by have h9 := HB6.out.size; omega
        have HX6 : Hid ((lt ++ [y]).map PrX.p = (acc ++ [s]).map clipP) := by show _ = _; rw [HCL.out, List.map_append, HL.out, List.map_singleton, HYS.out]
        have HL6 : Hid ((lt ++ [y]).length = lt.length + 1) := by show _ = _; simp
        have HQ6 : Hid (gR (acc ++ [s]) (dr XS i) = QF) := HQ2.out.symm
        clear hown6 hgrow6 hlie6 hrow hx1 hz6
        go_wp2_with fail
        go_roundw
        case rel =>
          exact ⟨i, acc ++ [s], lt ++ [y], some ⟨g6, 0, none⟩, cap6, by rw [HL6.out], ⟨by have := HI.out; omega, HI.out.2, by have := HI.out; simp; omega⟩, HX6, by show Own1 _ _ _ _ _ _; rw [HL6.out]; exact HO6.out, HP6, HB6, hw6, HQ6⟩
        case measure =>
          have h1 := HP6.out.len
          have h2 := HI.out
          have h3 := HLen.out
          omega
end Go.Proofs.YteglaeopaocilaaGreatDoor.P
namespace Go.Proofs.YteglaeopaocilaaGreatDoor.P
open Go.RowKit
open L (Str Tok Tks toks At below_2 below_box ret_bool ret_int ret_string)
open A

theorem wpOpsS_of {P : Program} {ops : Array Oper} {Q : Exit → Act → List Frame → World → Prop} {cs : List Frame} (hno : ¬ LetsOut (fun e a w => Q e a cs w)) : ∀ (l : List Nat) (a : Act) (w : World), wpOps P ops (fun e a w => Q e a cs w) l a w → wpOpsS P ops Q l a cs w
  | [], _, _, h => h
  | i :: rest, a, w, h => by
    rw [wpOps] at h
    rw [wpOpsS]
    cases ho : ops[i]? with
    | none =>
      rw [ho] at h
      exact wpOpsS_of hno rest a w h
    | some o =>
      rw [ho] at h
      simp only at h ⊢
      by_cases hw : Region.wanted o (yielded ops a.tmps) = true
      · rw [if_pos hw] at h ⊢
        have h1 := h.resolve_right (fun h2 => hno h2.2)
        unfold Oper.wp at h1
        have key : ∀ r : Result Next, o.upon P a (wpOps P ops (fun e a w => Q e a cs w) rest) (fun e a w => Q e a cs w) r →
            (match r with
              | .ok .recover w' => (match recoverD cs with | some (v, cs') => wpOpsS P ops Q rest (a.put o.dst v) cs' w' | none => wpOpsS P ops Q rest (a.put o.dst .nilIface) cs w')
              | r => o.upon P a (fun a' w' => wpOpsS P ops Q rest a' cs w') (fun e a' w' => Q e a' cs w') r) := by
          intro r hr
          cases r with
          | ok x w' =>
            cases x with
            | recover => exact hr.elim
            | value v => exact wpOpsS_of hno rest _ w' hr
            | skip => exact wpOpsS_of hno rest _ w' hr
            | defer d => exact wpOpsS_of hno rest _ w' hr
            | enter f args =>
              refine Calls.mono hr fun e w'' he => ?_
              cases e with
              | returned v => exact wpOpsS_of hno rest _ w'' he
              | panicked c => exact he
              | outgrown => exact he
            | row r args => exact Rows.mono hr fun v w'' he => wpOpsS_of hno rest _ w'' he
            | _ => exact hr
          | halt x w' => cases x <;> exact hr
        exact key _ h1
      · rw [if_neg hw] at h ⊢
        exact wpOpsS_of hno rest _ w h
theorem wpS_recover {P : Program} {id : Nat} {Q : Exit → Act → List Frame → World → Prop} {a : Act} {cs cs' : List Frame} {w : World} {o0 : Oper} {l : List Oper} {v : Value} (hw : Region.wanted o0 (yielded (o0 :: l).toArray a.tmps) = true) (h0 : (execOp a.eval o0).run P w = .ok .recover w)
    (hrec : (match recoverD cs with | some x => x | none => (Value.nilIface, cs)) = (v, cs')) (hno : ¬ LetsOut (fun e a w => Q e a cs' w)) (h : wpList P (o0 :: l).toArray (fun e a w => Q e a cs' w) l (a.put o0.dst v) w) : (Code.region id (o0 :: l).toArray false).wpS P Q a cs w := by
  refine wpS_region ?_
  have hr : List.range (o0 :: l).toArray.size = 0 :: List.range' 1 l.length := by
    show List.range (l.length + 1) = _
    rw [List.range_eq_range', List.range'_succ]
  have e0 : (o0 :: l).toArray[0]? = some o0 := rfl
  rw [hr, wpOpsS, e0]
  simp only
  rw [if_pos hw, h0]
  have h2 : wpOps P (o0 :: l).toArray (fun e a w => Q e a cs' w) (List.range' 1 l.length) (a.put o0.dst v) w := by
    rw [wpOps_eq_wpList l 1 (fun j => by simp [Nat.add_comm 1 j])]
    exact h
  have h3 := wpOpsS_of hno _ _ _ h2
  show (match recoverD cs with | some (v, cs') => wpOpsS P _ Q _ (a.put o0.dst v) cs' w | none => wpOpsS P _ Q _ (a.put o0.dst .nilIface) cs w)
  revert hrec
  cases recoverD cs with
  | none => intro hrec; cases hrec; exact h3
  | some x => obtain ⟨v2, cs2⟩ := x; intro hrec; cases hrec; exact h3
end Go.Proofs.YteglaeopaocilaaGreatDoor.P
namespace Go.Proofs.YteglaeopaocilaaGreatDoor.P
open Go.RowKit
open L (Str Tok Tks toks At below_2 below_box ret_bool ret_int ret_string)
open A

theorem wpS_by {P : Program} {c : Code} {Q : Exit → Act → List Frame → World → Prop} {a : Act} {cs : List Frame} {w : World} (R : Exit → Act → World → Prop) (h : c.wp P R a w) (hr : ∀ e a w, R e a w → Q e a cs w) : c.wpS P Q a cs w :=
  wpS_of_wp fun b k cs => let ⟨e, a, w, q, r⟩ := h b k cs; ⟨e, a, w, hr _ _ _ q, r⟩
theorem bk_two {L0 E0 : Nat} {l x y z : Int} {w : World} {tL tE : TypeId} (hL : Bk w L0 #[.int .i64 y] tL) (hE : Bk w E0 #[.int .i64 z] tE) (hne : L0 ≠ E0) : Bk ((w.setCell ⟨L0, 0, none⟩ (.int .i64 l)).setCell ⟨E0, 0, none⟩ (.int .i64 x)) L0 #[.int .i64 l] tL ∧ Bk ((w.setCell ⟨L0, 0, none⟩ (.int .i64 l)).setCell ⟨E0, 0, none⟩ (.int .i64 x)) E0 #[.int .i64 x] tE := by
  have h1 := hL.set 0 (u := .int .i64 l)
  have h2 := (hE.apart (c := L0) (i := 0) (u := .int .i64 l) hne.symm).set 0 (u := .int .i64 x)
  exact ⟨(show Bk _ L0 #[.int .i64 l] tL by simpa using h1).apart hne, by simpa using h2⟩
/-- all but two blocks are as they were -/
structure Fr2 (L0 E0 : Nat) (w w' : World) : Prop where
  os : w'.os = w.os
  tape : w'.tape = w.tape
  output : w'.output = w.output
  size : w.heap.size ≤ w'.heap.size
  block : ∀ k, k < w.heap.size → k ≠ L0 → k ≠ E0 → w'.heap[k]? = w.heap[k]?
theorem fr2_two {L0 E0 : Nat} {w : World} {u v : Value} : Fr2 L0 E0 w ((w.setCell ⟨L0, 0, none⟩ u).setCell ⟨E0, 0, none⟩ v) :=
  ⟨rfl, rfl, rfl, by simp [World.setCell], fun k _ h1 h2 => (Below.heap_setCell _ _ _ _ h2).trans (Below.heap_setCell _ _ _ _ h1)⟩
theorem fr2_dr {L0 E0 : Nat} {w w' : World} {o : Obj} (h : Fr2 L0 E0 w w') : Fr2 L0 E0 w (w'.alloc o).drew := by
  have hb := (below_box w' o).drew
  exact ⟨hb.os.trans h.os, hb.tape.trans h.tape, hb.output.trans h.output, Nat.le_trans h.size hb.size, fun k hk h1 h2 => (hb.block k (Nat.lt_of_lt_of_le hk h.size)).trans (h.block k hk h1 h2)⟩
theorem bk_dr {w : World} {b : Nat} {cs : Array Value} {t : TypeId} {o : Obj} (h : Bk w b cs t) : Bk (w.alloc o).drew b cs t := h.below (below_box w o).drew
def modeA (l x : Int) (b : Bool) : FrameMode := .panicking [{ v := .iface 117 (.agg #[.int .i64 l, .int .i64 x]), recovered := b }]
set_option maxHeartbeats 4000000 in
set_option maxRecDepth 100000 in
theorem catch_proc (L0 E0 : Nat) (l x : Int) (w : World) (tL tE : TypeId) (y z : Int) (hL : Bk w L0 #[.int .i64 y] tL) (hE : Bk w E0 #[.int .i64 z] tE) (hne : L0 ≠ E0) :
    CallsD Tryz.prog 79 #[ptr L0, ptr E0] (modeA l x false) w fun e u' w' =>
      e = .returned (.tuple #[]) ∧ u' = modeA l x true ∧ Bk w' L0 #[.int .i64 l] tL ∧ Bk w' E0 #[.int .i64 x] tE ∧ Fr2 L0 E0 w w' := by
  have HL := Lib.hid hL
  have HE := Lib.hid hE
  clear hL hE
  refine callsD_of_wpS Tryz.func79 rfl fun c₀ cs hu => ?_
  apply wpS_seq
  refine wpS_recover (v := .iface 117 (.agg #[.int .i64 l, .int .i64 x])) (cs' := { c₀ with mode := modeA l x true } :: cs) (by rfl) (by rfl) (by simp only [recoverD, hu]; rfl) ?_ ?_
  · rintro ⟨a, w', u', h, _⟩
    cases h
  have hta : ∀ w : World, (Instr.typeAssert (.iface 117 (.agg #[.int .i64 l, .int .i64 x])) 20 117 true).run Tryz.prog w = .ok (.tuple #[.agg #[.int .i64 l, .int .i64 x], .bool true]) w := fun _ => by kernel_rfl
  show wpList _ _ _ _ { tmps := #[ptr L0, ptr E0, undef, undef, undef, .iface 117 (.agg #[.int .i64 l, .int .i64 x]), undef, undef, undef, undef, undef, undef, undef, undef], defers := [] } w
  have l0 : w.cell? ⟨L0, 0, none⟩ = some (.int .i64 y) := HL.out.cell 0
  have l1 : w.frozen? ⟨L0, 0, none⟩ = false := HL.out.free 0
  have e0 : w.cell? ⟨E0, 0, none⟩ = some (.int .i64 z) := HE.out.cell 0
  have e1 : w.frozen? ⟨E0, 0, none⟩ = false := HE.out.free 0
  have hne2 : ¬ L0 = E0 := hne
  have hne3 : ¬ E0 = L0 := fun h => hne h.symm
  have HFR : Hid (Fr2 L0 E0 w ((w.setCell ⟨L0, 0, none⟩ (.int .i64 l)).setCell ⟨E0, 0, none⟩ (.int .i64 x))) := fr2_two
  have HEND := Lib.hid (bk_two (l := l) (x := x) HL.out HE.out hne)
  have hlL : L0 < w.heap.size := HL.out.lt
  have hlE : E0 < w.heap.size := HE.out.lt
  clear hne
  repeat (first | go_values | go_skip | go_guarded | go_step | go_upon | go_back)
  refine wpS_by (fun e a w' => e = .normal ∧ a.defers = [] ∧ Bk w' L0 #[.int .i64 l] tL ∧ Bk w' E0 #[.int .i64 x] tE ∧ Fr2 L0 E0 w w') ?_ ?_
  · clear hu
    go_wp2_with fail
    go_region
    exact ⟨rfl, rfl, bk_dr HEND.out.1, bk_dr HEND.out.2, fr2_dr HFR.out⟩
  · rintro e a w' ⟨rfl, hd, h1, h2, h3⟩
    exact ⟨hd, _, rfl, .tuple #[], results_none rfl _ _ _, rfl, rfl, h1, h2, h3⟩
set_option maxHeartbeats 4000000 in
set_option maxRecDepth 100000 in
theorem idle_proc (L0 E0 : Nat) (w : World) :
    CallsD Tryz.prog 79 #[ptr L0, ptr E0] .returning w fun e u' w' => e = .returned (.tuple #[]) ∧ u' = .returning ∧ Below w.heap.size w w' := by
  refine callsD_of_wpS Tryz.func79 rfl fun c₀ cs hu => ?_
  apply wpS_seq
  refine wpS_recover (v := .nilIface) (cs' := c₀ :: cs) (by rfl) (by rfl) (by simp only [recoverD, hu]) ?_ ?_
  · rintro ⟨a, w', u', h, _⟩
    cases h
  have hta : ∀ w : World, (Instr.typeAssert .nilIface 20 117 true).run Tryz.prog w = .ok (.tuple #[.agg #[.int .i64 0, .int .i64 0], .bool false]) w := fun _ => by kernel_rfl
  show wpList _ _ _ _ { tmps := #[ptr L0, ptr E0, undef, undef, undef, .nilIface, undef, undef, undef, undef, undef, undef, undef, undef], defers := [] } w
  repeat (first | go_values | go_skip | go_guarded | go_step | go_upon | go_back)
  refine wpS_by (fun e a w' => e = .normal ∧ a.defers = [] ∧ Below w.heap.size w w') ?_ ?_
  · clear hu
    go_wp2_with fail
    exact below_box _ _
  · rintro e a w' ⟨rfl, hd, h1⟩
    exact ⟨hd, .returning, by rw [← hu], .tuple #[], results_none rfl _ _ _, rfl, rfl, h1⟩
set_option maxHeartbeats 4000000 in
set_option maxRecDepth 100000 in
theorem catch_expr (L0 E0 : Nat) (l x : Int) (w : World) (tL tE : TypeId) (y z : Int) (hL : Bk w L0 #[.int .i64 y] tL) (hE : Bk w E0 #[.int .i64 z] tE) (hne : L0 ≠ E0) :
    CallsD Tryz.prog 87 #[ptr L0, ptr E0] (modeA l x false) w fun e u' w' =>
      e = .returned (.tuple #[]) ∧ u' = modeA l x true ∧ Bk w' L0 #[.int .i64 l] tL ∧ Bk w' E0 #[.int .i64 x] tE ∧ Fr2 L0 E0 w w' := by
  have HL := Lib.hid hL
  have HE := Lib.hid hE
  clear hL hE
  refine callsD_of_wpS Tryz.func87 rfl fun c₀ cs hu => ?_
  apply wpS_seq
  refine wpS_recover (v := .iface 117 (.agg #[.int .i64 l, .int .i64 x])) (cs' := { c₀ with mode := modeA l x true } :: cs) (by rfl) (by rfl) (by simp only [recoverD, hu]; rfl) ?_ ?_
  · rintro ⟨a, w', u', h, _⟩
    cases h
  have hta : ∀ w : World, (Instr.typeAssert (.iface 117 (.agg #[.int .i64 l, .int .i64 x])) 20 117 true).run Tryz.prog w = .ok (.tuple #[.agg #[.int .i64 l, .int .i64 x], .bool true]) w := fun _ => by kernel_rfl
  show wpList _ _ _ _ { tmps := #[ptr L0, ptr E0, undef, undef, undef, .iface 117 (.agg #[.int .i64 l, .int .i64 x]), undef, undef, undef, undef, undef, undef, undef, undef], defers := [] } w
  have l0 : w.cell? ⟨L0, 0, none⟩ = some (.int .i64 y) := HL.out.cell 0
  have l1 : w.frozen? ⟨L0, 0, none⟩ = false := HL.out.free 0
  have e0 : w.cell? ⟨E0, 0, none⟩ = some (.int .i64 z) := HE.out.cell 0
  have e1 : w.frozen? ⟨E0, 0, none⟩ = false := HE.out.free 0
  have hne2 : ¬ L0 = E0 := hne
  have hne3 : ¬ E0 = L0 := fun h => hne h.symm
  have HFR : Hid (Fr2 L0 E0 w ((w.setCell ⟨L0, 0, none⟩ (.int .i64 l)).setCell ⟨E0, 0, none⟩ (.int .i64 x))) := fr2_two
  have HEND := Lib.hid (bk_two (l := l) (x := x) HL.out HE.out hne)
  have hlL : L0 < w.heap.size := HL.out.lt
  have hlE : E0 < w.heap.size := HE.out.lt
  clear hne
  repeat (first | go_values | go_skip | go_guarded | go_step | go_upon | go_back)
  refine wpS_by (fun e a w' => e = .normal ∧ a.defers = [] ∧ Bk w' L0 #[.int .i64 l] tL ∧ Bk w' E0 #[.int .i64 x] tE ∧ Fr2 L0 E0 w w') ?_ ?_
  · clear hu
    go_wp2_with fail
    go_region
    exact ⟨rfl, rfl, bk_dr HEND.out.1, bk_dr HEND.out.2, fr2_dr HFR.out⟩
  · rintro e a w' ⟨rfl, hd, h1, h2, h3⟩
    exact ⟨hd, _, rfl, .tuple #[], results_none rfl _ _ _, rfl, rfl, h1, h2, h3⟩
set_option maxHeartbeats 4000000 in
set_option maxRecDepth 100000 in
theorem idle_expr (L0 E0 : Nat) (w : World) :
    CallsD Tryz.prog 87 #[ptr L0, ptr E0] .returning w fun e u' w' => e = .returned (.tuple #[]) ∧ u' = .returning ∧ Below w.heap.size w w' := by
  refine callsD_of_wpS Tryz.func87 rfl fun c₀ cs hu => ?_
  apply wpS_seq
  refine wpS_recover (v := .nilIface) (cs' := c₀ :: cs) (by rfl) (by rfl) (by simp only [recoverD, hu]) ?_ ?_
  · rintro ⟨a, w', u', h, _⟩
    cases h
  have hta : ∀ w : World, (Instr.typeAssert .nilIface 20 117 true).run Tryz.prog w = .ok (.tuple #[.agg #[.int .i64 0, .int .i64 0], .bool false]) w := fun _ => by kernel_rfl
  show wpList _ _ _ _ { tmps := #[ptr L0, ptr E0, undef, undef, undef, .nilIface, undef, undef, undef, undef, undef, undef, undef, undef], defers := [] } w
  repeat (first | go_values | go_skip | go_guarded | go_step | go_upon | go_back)
  refine wpS_by (fun e a w' => e = .normal ∧ a.defers = [] ∧ Below w.heap.size w w') ?_ ?_
  · clear hu
    go_wp2_with fail
    exact below_box _ _
  · rintro e a w' ⟨rfl, hd, h1⟩
    exact ⟨hd, .returning, by rw [← hu], .tuple #[], results_none rfl _ _ _, rfl, rfl, h1⟩
set_option maxHeartbeats 4000000 in
set_option maxRecDepth 100000 in
theorem catch_prog (L0 E0 : Nat) (l x : Int) (w : World) (tL tE : TypeId) (y z : Int) (hL : Bk w L0 #[.int .i64 y] tL) (hE : Bk w E0 #[.int .i64 z] tE) (hne : L0 ≠ E0) :
    CallsD Tryz.prog 105 #[ptr L0, ptr E0] (modeA l x false) w fun e u' w' =>
      e = .returned (.tuple #[]) ∧ u' = modeA l x true ∧ Bk w' L0 #[.int .i64 l] tL ∧ Bk w' E0 #[.int .i64 x] tE ∧ Fr2 L0 E0 w w' := by
  have HL := Lib.hid hL
  have HE := Lib.hid hE
  clear hL hE
  refine callsD_of_wpS Tryz.func105 rfl fun c₀ cs hu => ?_
  apply wpS_seq
  refine wpS_recover (v := .iface 117 (.agg #[.int .i64 l, .int .i64 x])) (cs' := { c₀ with mode := modeA l x true } :: cs) (by rfl) (by rfl) (by simp only [recoverD, hu]; rfl) ?_ ?_
  · rintro ⟨a, w', u', h, _⟩
    cases h
  have hta : ∀ w : World, (Instr.typeAssert (.iface 117 (.agg #[.int .i64 l, .int .i64 x])) 20 117 true).run Tryz.prog w = .ok (.tuple #[.agg #[.int .i64 l, .int .i64 x], .bool true]) w := fun _ => by kernel_rfl
  show wpList _ _ _ _ { tmps := #[ptr L0, ptr E0, undef, undef, undef, .iface 117 (.agg #[.int .i64 l, .int .i64 x]), undef, undef, undef, undef, undef, undef, undef, undef], defers := [] } w
  have l0 : w.cell? ⟨L0, 0, none⟩ = some (.int .i64 y) := HL.out.cell 0
  have l1 : w.frozen? ⟨L0, 0, none⟩ = false := HL.out.free 0
  have e0 : w.cell? ⟨E0, 0, none⟩ = some (.int .i64 z) := HE.out.cell 0
  have e1 : w.frozen? ⟨E0, 0, none⟩ = false := HE.out.free 0
  have hne2 : ¬ L0 = E0 := hne
  have hne3 : ¬ E0 = L0 := fun h => hne h.symm
  have HFR : Hid (Fr2 L0 E0 w ((w.setCell ⟨L0, 0, none⟩ (.int .i64 l)).setCell ⟨E0, 0, none⟩ (.int .i64 x))) := fr2_two
  have HEND := Lib.hid (bk_two (l := l) (x := x) HL.out HE.out hne)
  have hlL : L0 < w.heap.size := HL.out.lt
  have hlE : E0 < w.heap.size := HE.out.lt
  clear hne
  repeat (first | go_values | go_skip | go_guarded | go_step | go_upon | go_back)
  refine wpS_by (fun e a w' => e = .normal ∧ a.defers = [] ∧ Bk w' L0 #[.int .i64 l] tL ∧ Bk w' E0 #[.int .i64 x] tE ∧ Fr2 L0 E0 w w') ?_ ?_
  · clear hu
    go_wp2_with fail
    go_region
    exact ⟨rfl, rfl, bk_dr HEND.out.1, bk_dr HEND.out.2, fr2_dr HFR.out⟩
  · rintro e a w' ⟨rfl, hd, h1, h2, h3⟩
    exact ⟨hd, _, rfl, .tuple #[], results_none rfl _ _ _, rfl, rfl, h1, h2, h3⟩
set_option maxHeartbeats 4000000 in
set_option maxRecDepth 100000 in
theorem idle_prog (L0 E0 : Nat) (w : World) :
    CallsD Tryz.prog 105 #[ptr L0, ptr E0] .returning w fun e u' w' => e = .returned (.tuple #[]) ∧ u' = .returning ∧ Below w.heap.size w w' := by
  refine callsD_of_wpS Tryz.func105 rfl fun c₀ cs hu => ?_
  apply wpS_seq
  refine wpS_recover (v := .nilIface) (cs' := c₀ :: cs) (by rfl) (by rfl) (by simp only [recoverD, hu]) ?_ ?_
  · rintro ⟨a, w', u', h, _⟩
    cases h
  have hta : ∀ w : World, (Instr.typeAssert .nilIface 20 117 true).run Tryz.prog w = .ok (.tuple #[.agg #[.int .i64 0, .int .i64 0], .bool false]) w := fun _ => by kernel_rfl
  show wpList _ _ _ _ { tmps := #[ptr L0, ptr E0, undef, undef, undef, .nilIface, undef, undef, undef, undef, undef, undef, undef, undef], defers := [] } w
  repeat (first | go_values | go_skip | go_guarded | go_step | go_upon | go_back)
  refine wpS_by (fun e a w' => e = .normal ∧ a.defers = [] ∧ Below w.heap.size w w') ?_ ?_
  · clear hu
    go_wp2_with fail
    exact below_box _ _
  · rintro e a w' ⟨rfl, hd, h1⟩
    exact ⟨hd, .returning, by rw [← hu], .tuple #[], results_none rfl _ _ _, rfl, rfl, h1⟩
end Go.Proofs.YteglaeopaocilaaGreatDoor.P
namespace Go.Proofs.YteglaeopaocilaaGreatDoor.P
open L (Str Tok)
open A

/-- tokens that fit memory -/
def FT (l : T) : Prop := ∀ t ∈ l, t.t.length ≤ 1000 ∧ -9223372036854775808 ≤ t.n ∧ t.n ≤ 9223372036854775807
theorem FT.sf {l r : T} (h : FT l) (hs : r <:+ l) : FT r := fun t ht => h t (hs.subset ht)
theorem FT.tl {l : T} (h : FT l) : FT l.tail := h.sf (tail_sf l)
theorem findW_bd (tab : List (Str × Int)) (h : ∀ p ∈ tab, 0 ≤ p.2 ∧ p.2 ≤ 27) (l : T) : 0 ≤ findW tab l ∧ findW tab l ≤ 27 := by
  unfold findW
  cases hf : tab.find? fun p => isW l p.1 with
  | none => exact ⟨by decide, by decide⟩
  | some p => exact h p (List.mem_of_find?_eq_some hf)
theorem bin_bd (l : T) (lev : Nat) : 0 ≤ bin l lev ∧ bin l lev ≤ 27 := by
  unfold bin sgn
  have := findW_bd signs (by decide) l
  split
  · exact this
  · exact ⟨by decide, by decide⟩
theorem pre_bd (l : T) (lev : Nat) : 0 ≤ pre l lev ∧ pre l lev ≤ 27 := by
  unfold pre
  split
  · exact ⟨by decide, by decide⟩
  · split <;> exact ⟨by decide, by decide⟩
theorem call_bd27 (l : T) : 0 ≤ callOp l ∧ callOp l ≤ 27 := findW_bd calls (by decide) l
theorem ap_ok {o : Int} {l : List Ex} (ho : 0 ≤ o ∧ o ≤ 27) (hl : l.length ≤ 2) (h : okEs l) : okE (ap o l) := by
  unfold ap
  rw [okE]
  exact ⟨⟨by omega, by omega⟩, ⟨by decide, by decide⟩, by decide, by omega, h⟩
theorem leaf_ok {l : T} {e : Ex} (hl : FT l) (h : P.leaf l = some e) : okE e := by
  cases l with
  | nil => cases h
  | cons t r =>
    have ht := hl t (List.mem_cons_self ..)
    have hs : (⟨t.t.toArray⟩ : ByteArray).size ≤ 1000000000000000 := by
      show t.t.toArray.size ≤ _
      simp; omega
    unfold P.leaf at h
    simp only at h
    split at h
    · cases h; rw [okE]; exact ⟨⟨by decide, by decide⟩, ht.2, by decide, by decide, by rw [okEs]; trivial⟩
    · split at h
      · cases h; rw [okE]; exact ⟨⟨by decide, by decide⟩, ⟨by decide, by decide⟩, hs, by decide, by rw [okEs]; trivial⟩
      · split at h
        · cases h; rw [okE]; exact ⟨⟨by decide, by decide⟩, ⟨by decide, by decide⟩, hs, by decide, by rw [okEs]; trivial⟩
        · cases h
theorem sf2 {l r : T} (h : r <:+ l.tail) : r <:+ l := h.trans (tail_sf l)
/-- expressions -/
theorem px_ok : ∀ f : Nat, (∀ lev n l e r, FT l → pX f lev n l = .ok e r → r <:+ l ∧ okE e) ∧ (∀ lev n e0 l e r, okE e0 → FT l → pL f lev n e0 l = .ok e r → r <:+ l ∧ okE e) ∧
    (∀ n l e r, FT l → pI f n l = .ok e r → r <:+ l ∧ okE e) ∧ (∀ n l e r, FT l → pU f n l = .ok e r → r <:+ l ∧ okE e) := by
  intro f
  induction f with
  | zero =>
    refine ⟨fun lev n l e r _ h => ?_, fun lev n e0 l e r _ _ h => ?_, fun n l e r _ h => ?_, fun n l e r _ h => ?_⟩
    · rw [pX] at h; cases h
    · rw [pL] at h; cases h
    · rw [pI] at h; cases h
    · rw [pU] at h; cases h
  | succ f ih =>
    obtain ⟨iX, iL, iI, iU⟩ := ih
    refine ⟨fun lev n l e r hl h => ?_, fun lev n e0 l e r h0 hl h => ?_, fun n l e r hl h => ?_, fun n l e r hl h => ?_⟩
    · rw [pX] at h
      split at h
      · exact iU n l e r hl h
      · split at h
        · split at h
          · cases h
          · revert h
            cases hx : pX f lev (n + 1) l.tail with
            | no r2 x => intro h; cases h
            | ok e2 r2 =>
              intro h
              have h1 := iX lev (n + 1) l.tail e2 r2 hl.tl hx
              cases h
              exact ⟨sf2 h1.1, ap_ok (pre_bd _ _) (by simp) (by rw [okEs]; exact ⟨h1.2, by rw [okEs]; trivial⟩)⟩
        · revert h
          cases hx : pX f (lev + 1) n l with
          | no r2 x => intro h; cases h
          | ok e2 r2 =>
            intro h
            have h1 := iX (lev + 1) n l e2 r2 hl hx
            have h2 := iL lev n e2 r2 e r h1.2 (hl.sf h1.1) h
            exact ⟨h2.1.trans h1.1, h2.2⟩
    · rw [pL] at h
      split at h
      · cases h
        exact ⟨List.suffix_refl _, h0⟩
      · revert h
        cases hx : pX f (lev + 1) n l.tail with
        | no r2 x => intro h; cases h
        | ok e2 r2 =>
          intro h
          have h1 := iX (lev + 1) n l.tail e2 r2 hl.tl hx
          have h3 : okE (ap (bin l lev) [e0, e2]) := ap_ok (bin_bd _ _) (by simp) (by rw [okEs]; exact ⟨h0, by rw [okEs]; exact ⟨h1.2, by rw [okEs]; trivial⟩⟩)
          simp only at h
          split at h
          · cases h
            exact ⟨sf2 h1.1, h3⟩
          · have h2 := iL lev n _ r2 e r h3 (hl.sf (sf2 h1.1)) h
            exact ⟨h2.1.trans (sf2 h1.1), h2.2⟩
    · rw [pI] at h
      split at h
      · revert h
        cases hx : pX f 1 n l.tail with
        | no r2 x => intro h; cases h
        | ok e2 r2 =>
          intro h
          have h1 := iX 1 n l.tail e2 r2 hl.tl hx
          simp only at h
          split at h
          · cases h
            exact ⟨(tail_sf r2).trans (sf2 h1.1), h1.2⟩
          · cases h
      · cases h
    · rw [pU] at h
      cases hlf : P.leaf l with
      | some e2 =>
        rw [hlf] at h
        cases h
        exact ⟨tail_sf l, leaf_ok hl hlf⟩
      | none =>
        rw [hlf] at h
        simp only at h
        split at h
        · split at h
          · split at h
            · cases h
              exact ⟨(tail_sf _).trans (two_sf l), ap_ok (call_bd27 l) (by simp) (by rw [okEs]; trivial)⟩
            · cases h
          · cases h
        · split at h
          · cases h
          · split at h
            · cases h
            · split at h
              · exact iI (n + 1) l e r hl h
              · revert h
                cases hx : pI f (n + 1) l.tail with
                | no r2 x => intro h; cases h
                | ok e2 r2 =>
                  intro h
                  have h1 := iI (n + 1) l.tail e2 r2 hl.tl hx
                  cases h
                  exact ⟨sf2 h1.1, ap_ok (call_bd27 l) (by simp) (by rw [okEs]; exact ⟨h1.2, by rw [okEs]; trivial⟩)⟩
theorem gX_ok {l r : T} {e : Ex} (hl : FT l) (h : gX 1 0 l = .ok e r) : okE e := by
  obtain ⟨F, hF⟩ := (gX_is (lev := 1) (n := 0) (l := l) (by decide)).1
  exact ((px_ok F).1 1 0 l e r hl ((hF F (Nat.le_refl _)).trans h)).2
end Go.Proofs.YteglaeopaocilaaGreatDoor.P
