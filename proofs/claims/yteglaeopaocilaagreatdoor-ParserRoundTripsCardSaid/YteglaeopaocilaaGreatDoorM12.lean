/-
  Plain mathematics of layer 8: the walk that stops at its limit. Visits as the reference keeps them, in rows that a call owns.
  Visits appended; what walkExpr of the reference of layer 8 returns.
  What the reference of layer 8 returns: countExpr, SmallExpr, EqualExpr: contracts by induction on the tree.
  What the reference of layer 8 returns: EqualExpr: its contract, by induction on the tree.
  What the reference of layer 8 returns: countBody, Small: contracts.
-/
import Derived.Test.YteglaeopaocilaaGreatDoorM11
import Derived.Laws.AppendOwn
import Derived.OwnWalk
import Derived.Deep.AppendLies
namespace Go.Proofs.YteglaeopaocilaaGreatDoor.A
open Go.RowKit
open L (Str isName prt size_len below_2 below_box ret_bool ret_int)

theorem take_take_app {α : Type} (X Y : List α) (n : Nat) : (X.take n ++ Y).take n = (X ++ Y).take n := by
  rcases Nat.lt_or_ge X.length n with h | h
  · rw [List.take_of_length_le (Nat.le_of_lt h)]
  · rw [List.take_append_of_le_length (by rw [List.length_take]; omega), List.take_append_of_le_length h, List.take_take, Nat.min_self]
/-! ### visits -/

/-- a visit, with where its parts lie -/
inductive VT where
  | st (s : St) (d : Nat) (a1 : Option Addr) (c1 : Nat) (a2 : Option Addr) (c2 : Nat) (a3 : Option Addr) (c3 : Nat) (a4 : Option Addr) (c4 : Nat)
  | ex (e : Ex) (root : Bool) (a : Option Addr) (c : Nat)
namespace VT
def v : VT → V
  | .st s d _ _ _ _ _ _ _ _ => .st s d
  | .ex e r _ _ => .ex e r
def cells : VT → List Value
  | .st s d a1 c1 a2 c2 a3 c3 a4 c4 => [.bool true, .int .i64 s.op, .string s.name, .int .i64 s.mx, .int .i64 s.a.op, .int .i64 s.a.n, .string s.a.s, .slice a1 s.a.args.length c1, .int .i64 s.b.op, .int .i64 s.b.n, .string s.b.s, .slice a2 s.b.args.length c2, .slice a3 s.body.length c3, .slice a4 s.els.length c4, .int .i64 (d : Int), .int .i64 0, .int .i64 0, .string ⟨#[]⟩, .slice none 0 0, .bool false]
  | .ex e r a c => [.bool false, .int .i64 0, .string ⟨#[]⟩, .int .i64 0, .int .i64 0, .int .i64 0, .string ⟨#[]⟩, .slice none 0 0, .int .i64 0, .int .i64 0, .string ⟨#[]⟩, .slice none 0 0, .slice none 0 0, .slice none 0 0, .int .i64 0, .int .i64 e.op, .int .i64 e.n, .string e.s, .slice a e.args.length c, .bool r]
def In (w : World) : VT → Prop
  | .st s _ a1 _ a2 _ a3 _ a4 _ => StKids w s a1 a2 a3 a4
  | .ex e _ a _ => Kids w a e.args
theorem In.below {w w' : World} {x : VT} (h : x.In w) (hb : Below w.heap.size w w') : x.In w' := by
  cases x with
  | st s d a1 c1 a2 c2 a3 c3 a4 c4 => exact StKids.below h hb
  | ex e r a c => exact Kids.below h hb
end VT
def vs (l : List VT) : List V := l.map VT.v
def vcs (l : List VT) : List Value := l.flatMap VT.cells
/-- the call owns these visits -/
structure OwnV (w : World) (B : Nat) (v : Value) (l : List VT) : Prop where
  row : w.ownsRow B 141 20 v l.length (vcs l)
  each : ∀ x ∈ l, x.In w
end Go.Proofs.YteglaeopaocilaaGreatDoor.A
namespace Go.Proofs.YteglaeopaocilaaGreatDoor.A
open Go.RowKit
open L (Str isName prt size_len below_2 below_box ret_bool ret_int)

theorem info_parts3 {o : Option TypeInfo} {a : Option Value} {b c : Nat} (h : o.map (fun i => (i.zero, i.size, i.bytes)) = some (a, b, c)) : ∃ i, o = some i ∧ i.zero = a ∧ i.size = b ∧ i.bytes = c := by
  cases o with
  | none => cases h
  | some i =>
    simp only [Option.map_some, Option.some.injEq, Prod.mk.injEq] at h
    exact ⟨i, rfl, h.1, h.2.1, h.2.2⟩
theorem cells_row (w : World) (t : TypeId) (cs : List Value) : ∀ j u, cs[j]? = some u → (w.alloc (.cells cs.toArray t)).cell? ((⟨w.heap.size, 0, none⟩ : Addr).add j) = some u := by
  intro j u hu
  rw [Addr.add_lit, Nat.zero_add]
  have h1 : (w.alloc (.cells cs.toArray t)).heap[w.heap.size]? = some (.cells cs.toArray t) := by
    show (w.heap.push _)[w.heap.size]? = _
    simp
  rw [cell_of_row _ _ _ _ _ _ h1, ← Array.getElem?_toList]
  exact hu
theorem grown_2 {w w1 w2 : World} {r1 r2 : Option Nat} (h : w.grownBy w1 r1) (h2 : w1.grownBy w2 r2) (hr : ∀ g, r2 = some g → r1 = some g ∨ w.heap.size ≤ g) : w.grownBy w2 r1 :=
  ⟨h2.os.trans h.os, h2.tape.trans h.tape, h2.output.trans h.output, Nat.le_trans h.size h2.size, fun k hk hne => (h2.block k (Nat.lt_of_lt_of_le hk h.size) (fun e => by
    rcases hr k e.symm with h3 | h3
    · exact hne h3.symm
    · omega)).trans (h.block k hk hne)⟩
/-- what walkExpr leaves: a row of visits that the call owns, what it was and the nodes, cut at the limit -/
def GivesW (w0 w : World) (v : Value) (X : List V) (e' : Ending) (w' : World) : Prop :=
  ∃ v' l', e' = .returned v' ∧ w'.ownsRow w0.heap.size 141 20 v' l'.length (vcs l') ∧ (∀ x ∈ l', x.In w0) ∧ vs l' = X.take 401 ∧ w.grownBy w' v.ownBlock ∧ (∀ g, v'.ownBlock = some g → v.ownBlock = some g ∨ w.heap.size ≤ g)
theorem vs_len (l : List VT) : (vs l).length = l.length := List.length_map _
theorem vs_app (a b : List VT) : vs (a ++ b) = vs a ++ vs b := List.map_append
end Go.Proofs.YteglaeopaocilaaGreatDoor.A
namespace Go.Proofs.YteglaeopaocilaaGreatDoor.A
open Go.RowKit
open L (Str isName prt size_len below_2 below_box ret_bool ret_int eql_eq bytes_eq)

/-- a number counted up to a bound: exact up to it, beyond it if there are more -/
structure Cnt (x : Nat) (m r : Int) : Prop where
  pos : 0 ≤ r
  le : r ≤ x
  eq : (x : Int) ≤ m → r = x
  gt : m < x → m < r
  top : r ≤ max m 0 + 100000000000000
theorem cEs_take {l : List Ex} {k : Nat} (h : k < l.length) : cEs (l.take (k + 1)) = cEs (l.take k) + cE l[k] := by
  induction l generalizing k with
  | nil => cases h
  | cons e l ih =>
    cases k with
    | zero => simp [cEs]
    | succ k =>
      have := ih (k := k) (by simpa using h)
      simp only [List.take_succ_cons, cEs, List.getElem_cons_succ] at this ⊢
      omega
theorem cEs_le (l : List Ex) (k : Nat) : cEs (l.take k) ≤ cEs l := by
  induction l generalizing k with
  | nil => simp
  | cons e l ih =>
    cases k with
    | zero => simp [cEs]
    | succ k =>
      have := ih k
      simp only [List.take_succ_cons, cEs] at this ⊢
      omega
set_option maxHeartbeats 4000000 in
set_option maxRecDepth 100000 in
theorem rcount_any : ∀ (e : Ex) (a : Option Addr) (c : Nat) (m : Int), -100000000000000000 ≤ m → m ≤ 1000000 → okE e → ∀ w : World, Kids w a e.args →
    Calls Tryz.prog 56 #[exV e a c, .int .i64 m] w fun e' w' => (∃ r : Int, e' = .returned (.int .i64 r) ∧ Cnt (cE e) m r) ∧ Below w.heap.size w w' := by
  refine Ex.ind (P := fun e => ∀ (a : Option Addr) (c : Nat) (m : Int), -100000000000000000 ≤ m → m ≤ 1000000 → okE e → ∀ w : World, Kids w a e.args →
    Calls Tryz.prog 56 #[exV e a c, .int .i64 m] w fun e' w' => (∃ r : Int, e' = .returned (.int .i64 r) ∧ Cnt (cE e) m r) ∧ Below w.heap.size w w') ?_
  intro o n s l ih a c m hm0 hm1 hok w hK
  obtain ⟨hs, hl, hoks⟩ := okE_open hok
  have HW := Lib.hid (below_box w (exO (.mk o n s l) a c))
  have HBL := Lib.hid (fun w' hb => box_later (w := w) (w' := w') (e := .mk o n s l) (a := a) (c := c) hb)
  have HKK : Hid (Kids w a l) := hK
  have HIH := Lib.hid ih
  have HOK := Lib.hid hoks
  simp only [exV_mk, exO_mk, op_mk, n_mk, s_mk, args_mk] at HW HBL ⊢
  obtain ⟨g, hg⟩ : ∃ g, l.length = g := ⟨_, rfl⟩
  have HL := Lib.hid hg
  have HC : Hid (cE (.mk o n s l) = 1 + s.size / 64 + cEs l) := by show _ = _; rw [cE]
  rw [hg] at HW HBL hl ⊢
  obtain ⟨q, hq⟩ : ∃ q, s.size / 64 = q := ⟨_, rfl⟩
  have hq2 : q ≤ 20000000000000 := by omega
  have hdiv : (s.size : Int).tdiv 64 = (q : Int) := by rw [← hq]; rfl
  have hdiv2 : (s.size : Int) / 64 = (q : Int) := by omega
  rw [hq] at HC
  have HC0 : Hid (Cnt (1 + q + cEs (l.take 0)) m (1 + (q : Int))) := by
    rw [List.take_zero, cEs]
    exact ⟨by omega, by omega, fun _ => by omega, fun h => by omega, by omega⟩
  clear hg hK ih hoks hok hq
  go_enter Tryz.func56, Tryz.ntmps56
  go_wp2_with fail
  go_loopw [5, 6] (fun s5 s6 wr => ∃ (k : Nat) (x : Int), k ≤ g ∧ s6 = .int .i64 k ∧ s5 = .int .i64 x ∧ 0 ≤ x ∧ x ≤ 200000000000000 ∧ Hid (Cnt (1 + q + cEs (l.take k)) m x) ∧ Hid (Below (w.alloc (.cells #[.int .i64 o, .int .i64 n, .string s, .slice a g c] 38)).heap.size (w.alloc (.cells #[.int .i64 o, .int .i64 n, .string s, .slice a g c] 38)) wr)) (fun _ s6 _ => g - (intOf s6).toNat)
  case atStart => exact ⟨0, 1 + (q : Int), Nat.zero_le _, rfl, by go_num, by omega, by omega, HC0, Below.refl _ _⟩
  case round =>
    obtain ⟨k, x, hk, rfl, rfl, hx0, hx1, HX, HB⟩ := hrel
    obtain ⟨c0, c1, c2, c3⟩ := HBL.out _ HB.out
    have HBB := Lib.hid (below_2 HW.out HB.out)
    have hcl := cEs_le l k
    by_cases hlt : k < g
    · by_cases hxm : x ≤ m
      · have hlx : k < l.length := by rw [HL.out]; exact hlt
        have hT := cEs_take hlx
        obtain ⟨b2, i2, rfl, hat⟩ := (HKK.out.below HBB.out).open hlx
        obtain ⟨d0, d1, d2, a2, cc, d3, hk2⟩ := hat.open
        have HCC := Lib.hid (HIH.out k hlx a2 cc (m - x) (by omega) (by omega) (HOK.out.get k hlx) _ hk2)
        have HT := Lib.hid hT
        clear hat hk2 hT hcl
        unfold exV at HCC
        generalize cE l[k] = y at HCC HT
        generalize l[k].args.length = m2 at d3 HCC
        generalize l[k].op = o2 at d0 HCC
        generalize l[k].n = n2 at d1 HCC
        generalize l[k].s = s2 at d2 HCC
        have bx : decide (x ≤ m) = true := decide_eq_true hxm
        go_wp2_with fail
        refine HCC.out.mono ?_; rintro e w2 ⟨⟨r, rfl, hr⟩, hb2⟩
        have h1 := hr.pos
        have h2 := hr.top
        have HN : Hid (Cnt (1 + q + cEs (l.take (k + 1))) m (x + r)) := by
          have hc := HX.out
          have hs := hc.eq (by apply Decidable.byContradiction; intro h; have := hc.gt (by omega); omega)
          have g1 := hr.le
          have g2 := hr.eq
          have g3 := hr.gt
          rw [HT.out]
          exact ⟨by omega, by omega, fun h => by have := g2 (by omega); omega, fun h => by have := g3 (by omega); omega, by omega⟩
        have hxr : x + r ≤ 200000000000000 := by omega
        clear hr
        go_wp2_with fail
        go_roundw
        case rel => exact ⟨k + 1, x + r, by omega, by go_num, by go_num, by omega, hxr, HN, below_2 HB.out hb2⟩
        case measure => simp [intOf]; omega
      · have HV : Hid (Cnt (cE (.mk o n s l)) m x) := by
          have hc := HX.out
          have h1 := hc.le
          have h2 := hc.top
          rw [HC.out]
          exact ⟨hx0, by omega, fun h => by omega, fun _ => by omega, h2⟩
        have bx : decide (x ≤ m) = false := decide_eq_false hxm
        clear hcl
        go_wp2_with fail
        go_ret
        exact ⟨⟨x, rfl, HV.out⟩, HBB.out⟩
    · have HV : Hid (Cnt (cE (.mk o n s l)) m x) := by
        have hc := HX.out
        rw [List.take_of_length_le (by rw [HL.out]; omega), ← HC.out] at hc
        exact hc
      clear hcl
      go_wp2_with fail
      go_ret
      exact ⟨⟨x, rfl, HV.out⟩, HBB.out⟩
theorem rsmallExpr_any (e : Ex) (a : Option Addr) (c : Nat) (m : Nat) (hm : m ≤ 1000000) (hok : okE e) (w : World) (hK : Kids w a e.args) :
    Calls Tryz.prog 25 #[exV e a c, .int .i64 (m : Int)] w fun e' w' => e' = .returned (.bool (decide (cE e ≤ m))) ∧ Below w.heap.size w w' := by
  have hw := below_box w (exO e a c)
  have HC := Lib.hid (rcount_any e a c m (by omega) (by omega) hok _ (hK.below hw))
  have HW := Lib.hid hw
  generalize cE e = x at HC ⊢
  unfold exV exO at *
  clear hw hK
  go_enter Tryz.func25, Tryz.ntmps25
  go_wp2_with fail
  refine HC.out.mono ?_; rintro e w1 ⟨⟨r, rfl, hr⟩, hb1⟩
  have HV : Hid (decide (r ≤ (m : Int)) = decide (x ≤ m)) := by
    show _ = _
    refine decide_eq_decide.2 ⟨fun h => ?_, fun h => ?_⟩
    · apply Decidable.byContradiction; intro h2; have := hr.gt (by omega); omega
    · have := hr.eq (by omega); omega
  clear hr
  go_wp2_with fail
  go_ret
  exact ⟨ret_bool HV.out, below_2 HW.out hb1⟩
end Go.Proofs.YteglaeopaocilaaGreatDoor.A
namespace Go.Proofs.YteglaeopaocilaaGreatDoor.A
open Go.RowKit
open L (Str isName prt size_len below_2 below_box ret_bool ret_int eql_eq bytes_eq)

theorem eqEs_len {l l2 : List Ex} (h : ¬ l.length = l2.length) : eqEs l l2 = false := by
  cases he : eqEs l l2
  · rfl
  · rw [(eqEs_iff l l2).1 he] at h; exact absurd rfl h
theorem bytes_dec (a b : ByteArray) : (a.toList == b.toList) = decide (a = b) := by
  rw [eql_eq]
  exact decide_eq_decide.2 ⟨fun h => bytes_eq h, fun h => by rw [h]⟩
/-- two boxes, later -/
theorem boxes_later {w w' : World} {e e2 : Ex} {a a2 : Option Addr} {c c2 : Nat} (hb : Below ((w.alloc (exO e a c)).alloc (exO e2 a2 c2)).heap.size ((w.alloc (exO e a c)).alloc (exO e2 a2 c2)) w') :
    (w'.cell? ⟨w.heap.size, 0, none⟩ = some (.int .i64 e.op) ∧ w'.cell? ⟨w.heap.size, 1, none⟩ = some (.int .i64 e.n) ∧ w'.cell? ⟨w.heap.size, 2, none⟩ = some (.string e.s) ∧ w'.cell? ⟨w.heap.size, 3, none⟩ = some (.slice a e.args.length c)) ∧
    (w'.cell? ⟨w.heap.size + 1, 0, none⟩ = some (.int .i64 e2.op) ∧ w'.cell? ⟨w.heap.size + 1, 1, none⟩ = some (.int .i64 e2.n) ∧ w'.cell? ⟨w.heap.size + 1, 2, none⟩ = some (.string e2.s) ∧ w'.cell? ⟨w.heap.size + 1, 3, none⟩ = some (.slice a2 e2.args.length c2)) := by
  have h1 := box_later (below_2 (below_box (w.alloc (exO e a c)) (exO e2 a2 c2)) hb)
  have h2 := box_later (w := w.alloc (exO e a c)) hb
  have hsz : (w.alloc (exO e a c)).heap.size = w.heap.size + 1 := by simp
  rw [hsz] at h2
  exact ⟨h1, h2⟩
set_option maxHeartbeats 4000000 in
set_option maxRecDepth 100000 in
theorem requalExpr_any : ∀ (e e2 : Ex) (a : Option Addr) (c : Nat) (a2 : Option Addr) (c2 : Nat), okE e → okE e2 → ∀ w : World, Kids w a e.args → Kids w a2 e2.args →
    Calls Tryz.prog 19 #[exV e a c, exV e2 a2 c2] w fun e' w' => e' = .returned (.bool (eqE e e2)) ∧ Below w.heap.size w w' := by
  refine Ex.ind (P := fun e => ∀ (e2 : Ex) (a : Option Addr) (c : Nat) (a2 : Option Addr) (c2 : Nat), okE e → okE e2 → ∀ w : World, Kids w a e.args → Kids w a2 e2.args →
    Calls Tryz.prog 19 #[exV e a c, exV e2 a2 c2] w fun e' w' => e' = .returned (.bool (eqE e e2)) ∧ Below w.heap.size w w') ?_
  intro o n s l ih e2 a c a2 c2 hok hok2 w hK hK2
  obtain ⟨o2, n2, s2, l2⟩ := e2
  obtain ⟨_, hl, hoks⟩ := okE_open hok
  obtain ⟨_, hl2, hoks2⟩ := okE_open hok2
  have HW := Lib.hid (below_2 (below_box w (exO (.mk o n s l) a c)) (below_box (w.alloc (exO (.mk o n s l) a c)) (exO (.mk o2 n2 s2 l2) a2 c2)))
  have HBL := Lib.hid (fun w' hb => boxes_later (w := w) (w' := w') (e := .mk o n s l) (e2 := .mk o2 n2 s2 l2) (a := a) (c := c) (a2 := a2) (c2 := c2) hb)
  have HKK : Hid (Kids w a l) := hK
  have HKK2 : Hid (Kids w a2 l2) := hK2
  have HIH := Lib.hid ih
  have HOK := Lib.hid hoks
  have HOK2 := Lib.hid hoks2
  have hbs := bytes_dec s s2
  rw [eqE, ← hbs]
  simp only [exV_mk, exO_mk, op_mk, n_mk, s_mk, args_mk] at HW HBL ⊢
  obtain ⟨R, hR⟩ : ∃ R, eqEs l l2 = R := ⟨_, rfl⟩
  rw [hR]
  have hRl := fun h => hR.symm.trans (eqEs_len (l := l) (l2 := l2) h)
  have HR : Hid (eqEs (l.drop 0) (l2.drop 0) = R) := hR
  obtain ⟨g, hg⟩ : ∃ g, l.length = g := ⟨_, rfl⟩
  obtain ⟨g2, hg2⟩ : ∃ g, l2.length = g := ⟨_, rfl⟩
  have HL := Lib.hid hg
  have HL2 := Lib.hid hg2
  rw [hg] at HW HBL hl hRl ⊢
  rw [hg2] at HW HBL hl2 hRl ⊢
  clear hK hK2 ih hoks hoks2 hok hok2 hg hg2 hR hbs
  obtain ⟨t, ht⟩ : ∃ t, (s.toList == s2.toList) = t := ⟨_, rfl⟩
  rw [ht]
  by_cases h1 : o = o2
  · have b1 : (o != o2) = false := by rw [bne_eq_false_iff_eq]; exact h1
    rw [decide_eq_true h1, Bool.true_and]
    by_cases h2 : n = n2
    · have b2 : (n != n2) = false := by rw [bne_eq_false_iff_eq]; exact h2
      rw [decide_eq_true h2, Bool.true_and]
      cases t
      · rw [Bool.false_and]
        clear h1 h2
        go_enter Tryz.func19, Tryz.ntmps19
        go_wp2_with fail
        go_ret
        exact ⟨rfl, HW.out⟩
      · rw [Bool.true_and]
        by_cases h4 : g = g2
        · have b4 : ((g : Int) != (g2 : Int)) = false := by rw [bne_eq_false_iff_eq]; omega
          subst h4
          clear h1 h2 hRl
          go_enter Tryz.func19, Tryz.ntmps19
          go_wp2_with fail
          go_loopw [5] (fun s5 wr => ∃ k : Nat, k ≤ g ∧ s5 = .int .i64 k ∧ Hid (eqEs (l.drop k) (l2.drop k) = R) ∧ Hid (Below ((w.alloc (.cells #[.int .i64 o, .int .i64 n, .string s, .slice a g c] 38)).alloc (.cells #[.int .i64 o2, .int .i64 n2, .string s2, .slice a2 g c2] 38)).heap.size ((w.alloc (.cells #[.int .i64 o, .int .i64 n, .string s, .slice a g c] 38)).alloc (.cells #[.int .i64 o2, .int .i64 n2, .string s2, .slice a2 g c2] 38)) wr)) (fun s5 _ => g - (intOf s5).toNat)
          case atStart => exact ⟨0, Nat.zero_le _, rfl, HR, Below.refl _ _⟩
          case round =>
            obtain ⟨k, hk, rfl, HX, HB⟩ := hrel
            obtain ⟨⟨c0, c1, c2', c3⟩, ⟨u0, u1, u2, u3⟩⟩ := HBL.out _ HB.out
            have HBB := Lib.hid (below_2 HW.out HB.out)
            by_cases hlt : k < g
            · have hlx : k < l.length := by rw [HL.out]; exact hlt
              have hly : k < l2.length := by rw [HL2.out]; exact hlt
              have hx := HX.out
              rw [drop_ex hlx, drop_ex hly, eqEs] at hx
              obtain ⟨b2', i2, rfl, hat⟩ := (HKK.out.below HBB.out).open hlx
              obtain ⟨b3', i3, rfl, hat2⟩ := (HKK2.out.below HBB.out).open hly
              obtain ⟨d0, d1, d2, a4, c4, d3, hk4⟩ := hat.open
              obtain ⟨f0, f1, f2, a5, c5, f3, hk5⟩ := hat2.open
              have HC := Lib.hid (fun d os => Calls.regrown_of (d := d) (os := os) (HIH.out k hlx l2[k] a4 c4 a5 c5 (HOK.out.get k hlx) (HOK2.out.get k hly) _ (hk4.below (below_regrown wr d os)) (hk5.below (below_regrown wr d os))))
              clear hat hat2 hk4 hk5
              generalize eqE l[k] l2[k] = x at HC hx
              unfold exV at HC
              generalize l[k].args.length = m2 at d3 HC
              generalize l[k].op = p0 at d0 HC
              generalize l[k].n = p1 at d1 HC
              generalize l[k].s = p2 at d2 HC
              generalize l2[k].args.length = m3 at f3 HC
              generalize l2[k].op = q0 at f0 HC
              generalize l2[k].n = q1 at f1 HC
              generalize l2[k].s = q2 at f2 HC
              have c3g := fun d os => cell_regrown c3 d os
              have u3g := fun d os => cell_regrown u3 d os
              have d0g := fun d os => cell_regrown d0 d os
              have d1g := fun d os => cell_regrown d1 d os
              have d2g := fun d os => cell_regrown d2 d os
              have d3g := fun d os => cell_regrown d3 d os
              have f0g := fun d os => cell_regrown f0 d os
              have f1g := fun d os => cell_regrown f1 d os
              have f2g := fun d os => cell_regrown f2 d os
              have f3g := fun d os => cell_regrown f3 d os
              cases x
              · rw [Bool.false_and] at hx
                have HV := Lib.hid hx
                clear hx
                go_wp2_with fail
                refine wp_region_quiet_below (by kernel_rfl) (by kernel_rfl) ?_
                repeat (go_big_quiet_step (with_reducible exact HC.out _ _))
                refine wpQuiet_nil ?_
                intro w4 hw'
                obtain ⟨⟨dq, osq⟩, hw2⟩ := hw'
                have hb4 := below_regrown wr dq osq
                rw [← hw2] at hb4
                have HB4 := Lib.hid (below_2 HBB.out hb4)
                clear hw2 hb4
                go_wp2_with fail
                go_ret
                exact ⟨ret_bool HV.out, HB4.out⟩
              · rw [Bool.true_and] at hx
                have HN := Lib.hid hx
                clear hx
                go_wp2_with fail
                refine wp_region_quiet_below (by kernel_rfl) (by kernel_rfl) ?_
                repeat (go_big_quiet_step (with_reducible exact HC.out _ _))
                refine wpQuiet_nil ?_
                intro w4 hw'
                obtain ⟨⟨dq, osq⟩, hw2⟩ := hw'
                have hb4 := below_regrown wr dq osq
                rw [← hw2] at hb4
                have HB4 := Lib.hid (below_2 HB.out hb4)
                clear hw2 hb4
                go_wp2_with fail
                go_roundw
                case rel => exact ⟨k + 1, by omega, by go_num, HN, HB4⟩
                case measure => simp [intOf]; omega
            · have HV : Hid (R = true) := by
                show _ = _
                rw [← HX.out, List.drop_of_length_le (by rw [HL.out]; omega), List.drop_of_length_le (by rw [HL2.out]; omega), eqEs]
              go_wp2_with fail
              go_ret
              exact ⟨ret_bool HV.out.symm, HBB.out⟩
        · have b4 : ((g : Int) != (g2 : Int)) = true := bne_iff_ne.2 (by omega)
          have HV := Lib.hid (hRl h4)
          clear h1 h2 h4 hRl
          go_enter Tryz.func19, Tryz.ntmps19
          go_wp2_with fail
          go_ret
          exact ⟨ret_bool HV.out.symm, HW.out⟩
    · have b2 : (n != n2) = true := bne_iff_ne.2 h2
      rw [decide_eq_false h2, Bool.false_and, Bool.false_and]
      clear h1 h2 hRl
      go_enter Tryz.func19, Tryz.ntmps19
      go_wp2_with fail
      go_ret
      exact ⟨rfl, HW.out⟩
  · have b1 : (o != o2) = true := bne_iff_ne.2 h1
    rw [decide_eq_false h1, Bool.false_and, Bool.false_and, Bool.false_and]
    clear h1 hRl
    go_enter Tryz.func19, Tryz.ntmps19
    go_wp2_with fail
    go_ret
    exact ⟨rfl, HW.out⟩
end Go.Proofs.YteglaeopaocilaaGreatDoor.A
namespace Go.Proofs.YteglaeopaocilaaGreatDoor.A
open Go.RowKit
open L (Str isName prt size_len below_2 below_box ret_bool ret_int eql_eq bytes_eq)

/-- a number counted up to a bound, whatever lies beyond -/
structure Core (x : Nat) (m r : Int) : Prop where
  pos : 0 ≤ r
  le : r ≤ x
  eq : (x : Int) ≤ m → r = x
  gt : m < x → m < r
theorem Cnt.core {x : Nat} {m r : Int} (h : Cnt x m r) : Core x m r := ⟨h.pos, h.le, h.eq, h.gt⟩
theorem Core.add {x y : Nat} {m n r : Int} (h : Core x m n) (h2 : Core y (m - n) r) : Core (x + y) m (n + r) := by
  obtain ⟨a1, a2, a3, a4⟩ := h
  obtain ⟨b1, b2, b3, b4⟩ := h2
  refine ⟨by omega, by omega, fun h => ?_, fun h => ?_⟩
  · have := a3 (by omega); have := b3 (by omega); omega
  · by_cases hx : (x : Int) ≤ m
    · have := a3 hx; have := b4 (by omega); omega
    · have := a4 (by omega); omega
theorem Core.plus {x y : Nat} {m n : Int} (h : Core x m n) (hn : n ≤ m) : Core (x + y) m (n + y) := by
  obtain ⟨a1, a2, a3, a4⟩ := h
  have : n = x := a3 (by apply Decidable.byContradiction; intro hx; have := a4 (by omega); omega)
  exact ⟨by omega, by omega, fun h => by omega, fun h => by omega⟩
theorem cS_parts (s : St) : cS s = 1 + s.name.size / 64 + cE s.a + cE s.b + cB s.body + cB s.els := by
  obtain ⟨o, nm, mx, a, b, bd, el⟩ := s
  rw [cS]; rfl
theorem cB_take {l : List St} {k : Nat} (h : k < l.length) : cB (l.take (k + 1)) = cB (l.take k) + cS l[k] := by
  induction l generalizing k with
  | nil => cases h
  | cons e l ih =>
    cases k with
    | zero => simp [cB]
    | succ k =>
      have := ih (k := k) (by simpa using h)
      simp only [List.take_succ_cons, cB, List.getElem_cons_succ] at this ⊢
      omega
theorem cB_le (l : List St) (k : Nat) : cB (l.take k) ≤ cB l := by
  induction l generalizing k with
  | nil => simp
  | cons e l ih =>
    cases k with
    | zero => simp [cB]
    | succ k =>
      have := ih k
      simp only [List.take_succ_cons, cB] at this ⊢
      omega
/-- what countBody's result is -/
structure CntB (x : Nat) (m r : Int) : Prop where
  core : Core x m r
  top : r ≤ max m 0 + 300000000000000
  none : m < 0 → r = 0
def QC (l : List St) : Prop := ∀ (a : Option Addr) (c : Nat) (m : Int), -10000000000000000 ≤ m → m ≤ 1000000 → l.length ≤ 1000000000000000 → okB l → ∀ w : World, Bodies w a l →
    Calls Tryz.prog 31 #[.slice a l.length c, .int .i64 m] w fun e' w' => (∃ r : Int, e' = .returned (.int .i64 r) ∧ CntB (cB l) m r) ∧ Below w.heap.size w w'
set_option maxHeartbeats 8000000 in
set_option maxRecDepth 100000 in
theorem rcountBody_any : ∀ l, QC l := by
  refine body_ind fun l ih => ?_
  intro a c m hm0 hm1 hl hok w hK
  have HKK : Hid (Bodies w a l) := hK
  have HIH := Lib.hid ih
  have HOK := Lib.hid hok
  obtain ⟨g, hg⟩ : ∃ g, l.length = g := ⟨_, rfl⟩
  have HL := Lib.hid hg
  rw [hg] at hl ⊢
  have HC0 : Hid (m < 0 ∨ Core (cB (l.take 0)) m 0) := by
    rw [List.take_zero, cB]
    by_cases h : m < 0
    · exact Or.inl h
    · exact Or.inr ⟨by omega, by omega, fun _ => rfl, fun h => by omega⟩
  clear hg hK ih hok
  go_enter Tryz.func31, Tryz.ntmps31
  go_wp2_with fail
  go_loopw [5, 6] (fun s5 s6 wr => ∃ (k : Nat) (x : Int), k ≤ g ∧ s6 = .int .i64 k ∧ s5 = .int .i64 x ∧ 0 ≤ x ∧ x ≤ max m 0 + 300000000000000 ∧ (m < 0 → x = 0) ∧ Hid (m < 0 ∨ Core (cB (l.take k)) m x) ∧ Below w.heap.size w wr) (fun _ s6 _ => g - (intOf s6).toNat)
  case atStart => exact ⟨0, 0, Nat.zero_le _, rfl, rfl, by omega, by omega, fun _ => rfl, HC0, Below.refl _ _⟩
  case round =>
    obtain ⟨k, x, hk, rfl, rfl, hx0, hx1, hxn, HX, hb⟩ := hrel
    have hcl := cB_le l k
    by_cases hlt : k < g
    · by_cases hxm : x ≤ m
      · have hm : 0 ≤ m := by omega
        have hX : Core (cB (l.take k)) m x := HX.out.resolve_left (by omega)
        have hlx : k < l.length := by rw [HL.out]; exact hlt
        have hT := cB_take hlx
        rw [cS_parts] at hT
        obtain ⟨b2, i2, rfl, hat⟩ := (HKK.out.below hb).open hlx
        have ho := okS_open (HOK.out.get k hlx)
        obtain ⟨q1, q2⟩ := HIH.out k hlx
        generalize l[k] = s at hat hT ho q1 q2
        obtain ⟨a1, c1, a2, c2, a3, c3, a4, c4, hcs, hks⟩ := hat.open
        have HE1 := Lib.hid (fun m hm0 hm1 w hK => rcount_any s.a a1 c1 m hm0 hm1 ho.a w hK)
        have HE2 := Lib.hid (fun m hm0 hm1 w hK => rcount_any s.b a2 c2 m hm0 hm1 ho.b w hK)
        have HQ1 := Lib.hid (fun m hm0 hm1 w hK => q1 a3 c3 m hm0 hm1 ho.bodyLen ho.body w hK)
        have HQ2 := Lib.hid (fun m hm0 hm1 w hK => q2 a4 c4 m hm0 hm1 ho.elsLen ho.els w hK)
        have HCs := Lib.hid hcs
        have HKs := Lib.hid hks
        obtain ⟨k0, k1, k2, k3, k4, k5, k6, k7, k8, k9, k10, k11, k12⟩ := hcs
        have hnm := ho.name
        obtain ⟨q, hq⟩ : ∃ q, s.name.size / 64 = q := ⟨_, rfl⟩
        have hq2 : q ≤ 20000000000000 := by omega
        have hdiv : (s.name.size : Int).tdiv 64 = (q : Int) := by rw [← hq]; rfl
        have hdiv2 : (s.name.size : Int) / 64 = (q : Int) := by omega
        rw [hq] at hT
        have HX1 : Hid (Core (cB (l.take k) + (1 + q)) m (x + 1 + (q : Int))) := by
          have := hX.plus (y := 1 + q) hxm
          rwa [show x + ((1 + q : Nat) : Int) = x + 1 + (q : Int) by omega] at this
        have HT := Lib.hid hT
        have bx : decide (x ≤ m) = true := decide_eq_true hxm
        unfold exV at HE1 HE2
        have hx1m : x ≤ 1000000 := by omega
        clear hX hT hat q1 q2 ho hq hcl hks hx1 hxn
        go_wp2_with fail
        refine (HE1.out (m - (x + 1 + (q : Int))) (by omega) (by omega) _ HKs.out.a).mono ?_; rintro e w1 ⟨⟨r1, rfl, hr1⟩, hb1⟩
        have HR1 := Lib.hid hr1.core
        have p1 := hr1.pos
        have t1 := hr1.top
        clear hr1 k0 k1 k2 k3 k4 k5 k6 k7 k8 k9 k10 k11 k12
        have HB1 := Lib.hid hb1
        obtain ⟨k0, k1, k2, k3, k4, k5, k6, k7, k8, k9, k10, k11, k12⟩ := HCs.out.below hb1
        clear hb1
        go_wp2_with fail
        refine (HE2.out (m - (x + 1 + (q : Int) + r1)) (by omega) (by omega) _ (HKs.out.below HB1.out).b).mono ?_; rintro e w2 ⟨⟨r2, rfl, hr2⟩, hb2⟩
        have HR2 := Lib.hid hr2.core
        have p2 := hr2.pos
        have t2 := hr2.top
        clear hr2 k0 k1 k2 k3 k4 k5 k6 k7 k8 k9 k10 k11 k12
        have HB2 := Lib.hid (below_2 HB1.out hb2)
        obtain ⟨k0, k1, k2, k3, k4, k5, k6, k7, k8, k9, k10, k11, k12⟩ := HCs.out.below HB2.out
        clear hb2
        go_wp2_with fail
        refine (HQ1.out (m - (x + 1 + (q : Int) + r1 + r2)) (by omega) (by omega) _ (HKs.out.below HB2.out).body).mono ?_; rintro e w3 ⟨⟨r3, rfl, hr3⟩, hb3⟩
        have HR3 := Lib.hid hr3.core
        have p3 := hr3.core.pos
        have t3 := hr3.top
        have u3 : x + 1 + (q : Int) + r1 + r2 + r3 ≤ m + 300000000000000 := by
          by_cases h : m - (x + 1 + (q : Int) + r1 + r2) < 0
          · have := hr3.none h; omega
          · omega
        clear hr3 t3 k0 k1 k2 k3 k4 k5 k6 k7 k8 k9 k10 k11 k12
        have HB3 := Lib.hid (below_2 HB2.out hb3)
        obtain ⟨k0, k1, k2, k3, k4, k5, k6, k7, k8, k9, k10, k11, k12⟩ := HCs.out.below HB3.out
        clear hb3
        go_wp2_with fail
        refine (HQ2.out (m - (x + 1 + (q : Int) + r1 + r2 + r3)) (by omega) (by omega) _ (HKs.out.below HB3.out).els).mono ?_; rintro e w4 ⟨⟨r4, rfl, hr4⟩, hb4⟩
        have p4 := hr4.core.pos
        have t4 := hr4.top
        have u4 : x + 1 + (q : Int) + r1 + r2 + r3 + r4 ≤ max m 0 + 300000000000000 := by
          by_cases h : m - (x + 1 + (q : Int) + r1 + r2 + r3) < 0
          · have := hr4.none h; omega
          · omega
        have HN : Hid (m < 0 ∨ Core (cB (l.take (k + 1))) m (x + 1 + (q : Int) + r1 + r2 + r3 + r4)) := by
          right
          have := (((HX1.out.add HR1.out).add HR2.out).add HR3.out).add hr4.core
          rw [HT.out]
          have e : cB (l.take k) + (1 + q + cE s.a + cE s.b + cB s.body + cB s.els) = cB (l.take k) + (1 + q) + cE s.a + cE s.b + cB s.body + cB s.els := by omega
          rw [e]
          exact this
        have HB4 := Lib.hid (below_2 (below_2 hb HB3.out) hb4)
        clear hr4 t4 k0 k1 k2 k3 k4 k5 k6 k7 k8 k9 k10 k11 k12 hb4
        go_wp2_with fail
        go_roundw
        case rel => exact ⟨k + 1, x + 1 + (q : Int) + r1 + r2 + r3 + r4, by omega, by go_num, by go_num, by omega, u4, fun h => absurd h (by omega), HN, HB4.out⟩
        case measure => simp [intOf]; omega
      · have HV : Hid (CntB (cB l) m x) := by
          show CntB _ _ _
          refine ⟨?_, hx1, hxn⟩
          rcases HX.out with h | h
          · have := hxn h
            subst this
            exact ⟨by omega, by omega, fun h2 => by omega, fun _ => by omega⟩
          · have h1 := h.le
            exact ⟨hx0, by omega, fun h => by omega, fun _ => by omega⟩
        have bx : decide (x ≤ m) = false := decide_eq_false hxm
        clear hcl hxn
        go_wp2_with fail
        go_ret
        exact ⟨⟨x, rfl, HV.out⟩, hb⟩
    · have HV : Hid (CntB (cB l) m x) := by
        show CntB _ _ _
        refine ⟨?_, hx1, hxn⟩
        rcases HX.out with h | h
        · have := hxn h
          subst this
          exact ⟨by omega, by omega, fun h2 => by omega, fun _ => by omega⟩
        · rw [List.take_of_length_le (by rw [HL.out]; omega)] at h
          exact h
      clear hcl hxn
      go_wp2_with fail
      go_ret
      exact ⟨⟨x, rfl, HV.out⟩, hb⟩
end Go.Proofs.YteglaeopaocilaaGreatDoor.A
