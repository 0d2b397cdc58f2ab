/-
  Plain mathematics of layer 8: the walk that stops at its limit. Visits as the reference keeps them, in rows that a call owns.
  Visits appended; what walkExpr of the reference of layer 8 returns.
  What the reference of layer 8 returns: countExpr, SmallExpr, EqualExpr: contracts by induction on the tree.
  What the reference of layer 8 returns: EqualExpr: its contract, by induction on the tree.
-/
import Derived.Test.YtlebflphgeolfaaDoorM03
import Derived.Test.YtlebflphgeolfaaDoorM04
import Derived.Laws.AppendOwn
import Derived.OwnWalk
import Derived.Deep.AppendLies
namespace Go.Proofs.YtlebflphgeolfaaDoor.A
open Go.RowKit
open L (Str isName prt size_len below_2 below_box ret_bool ret_int)

theorem take_take_app {α : Type} (X Y : List α) (n : Nat) : (X.take n ++ Y).take n = (X ++ Y).take n := by
  rcases Nat.lt_or_ge X.length n with h | h
  · rw [List.take_of_length_le (Nat.le_of_lt h)]
  · rw [List.take_append_of_le_length (by rw [List.length_take]; omega), List.take_append_of_le_length h, List.take_take, Nat.min_self]
/-! ### visits -/

/-- a visit, with where its parts lie -/
inductive VT where
  | st (s : St) (d : Nat) (a1 : Option Addr) (c1 : Nat) (a2 : Option Addr) (c2 : Nat) (a3 : Option Addr) (c3 : Nat) (a4 : Option Addr) (c4 : Nat)
  | ex (e : Ex) (root : Bool) (a : Option Addr) (c : Nat)
namespace VT
def v : VT → V
  | .st s d _ _ _ _ _ _ _ _ => .st s d
  | .ex e r _ _ => .ex e r
def cells : VT → List Value
  | .st s d a1 c1 a2 c2 a3 c3 a4 c4 => [.bool true, .int .i64 s.op, .string s.name, .int .i64 s.mx, .int .i64 s.a.op, .int .i64 s.a.n, .string s.a.s, .slice a1 s.a.args.length c1, .int .i64 s.b.op, .int .i64 s.b.n, .string s.b.s, .slice a2 s.b.args.length c2, .slice a3 s.body.length c3, .slice a4 s.els.length c4, .int .i64 (d : Int), .int .i64 0, .int .i64 0, .string ⟨#[]⟩, .slice none 0 0, .bool false]
  | .ex e r a c => [.bool false, .int .i64 0, .string ⟨#[]⟩, .int .i64 0, .int .i64 0, .int .i64 0, .string ⟨#[]⟩, .slice none 0 0, .int .i64 0, .int .i64 0, .string ⟨#[]⟩, .slice none 0 0, .slice none 0 0, .slice none 0 0, .int .i64 0, .int .i64 e.op, .int .i64 e.n, .string e.s, .slice a e.args.length c, .bool r]
def In (w : World) : VT → Prop
  | .st s _ a1 _ a2 _ a3 _ a4 _ => StKids w s a1 a2 a3 a4
  | .ex e _ a _ => Kids w a e.args
theorem In.below {w w' : World} {x : VT} (h : x.In w) (hb : Below w.heap.size w w') : x.In w' := by
  cases x with
  | st s d a1 c1 a2 c2 a3 c3 a4 c4 => exact StKids.below h hb
  | ex e r a c => exact Kids.below h hb
end VT
def vs (l : List VT) : List V := l.map VT.v
def vcs (l : List VT) : List Value := l.flatMap VT.cells
/-- the call owns these visits -/
structure OwnV (w : World) (B : Nat) (v : Value) (l : List VT) : Prop where
  row : w.ownsRow B 61 20 v l.length (vcs l)
  each : ∀ x ∈ l, x.In w
end Go.Proofs.YtlebflphgeolfaaDoor.A
namespace Go.Proofs.YtlebflphgeolfaaDoor.A
open Go.RowKit
open L (Str isName prt size_len below_2 below_box ret_bool ret_int)

theorem info_parts3 {o : Option TypeInfo} {a : Option Value} {b c : Nat} (h : o.map (fun i => (i.zero, i.size, i.bytes)) = some (a, b, c)) : ∃ i, o = some i ∧ i.zero = a ∧ i.size = b ∧ i.bytes = c := by
  cases o with
  | none => cases h
  | some i =>
    simp only [Option.map_some, Option.some.injEq, Prod.mk.injEq] at h
    exact ⟨i, rfl, h.1, h.2.1, h.2.2⟩
theorem cells_row (w : World) (t : TypeId) (cs : List Value) : ∀ j u, cs[j]? = some u → (w.alloc (.cells cs.toArray t)).cell? ((⟨w.heap.size, 0, none⟩ : Addr).add j) = some u := by
  intro j u hu
  rw [Addr.add_lit, Nat.zero_add]
  have h1 : (w.alloc (.cells cs.toArray t)).heap[w.heap.size]? = some (.cells cs.toArray t) := by
    show (w.heap.push _)[w.heap.size]? = _
    simp
  rw [cell_of_row _ _ _ _ _ _ h1, ← Array.getElem?_toList]
  exact hu
theorem grown_2 {w w1 w2 : World} {r1 r2 : Option Nat} (h : w.grownBy w1 r1) (h2 : w1.grownBy w2 r2) (hr : ∀ g, r2 = some g → r1 = some g ∨ w.heap.size ≤ g) : w.grownBy w2 r1 :=
  ⟨h2.os.trans h.os, h2.tape.trans h.tape, h2.output.trans h.output, Nat.le_trans h.size h2.size, fun k hk hne => (h2.block k (Nat.lt_of_lt_of_le hk h.size) (fun e => by
    rcases hr k e.symm with h3 | h3
    · exact hne h3.symm
    · omega)).trans (h.block k hk hne)⟩
/-- what walkExpr leaves: a row of visits that the call owns, what it was and the nodes, cut at the limit -/
def GivesW (w0 w : World) (v : Value) (X : List V) (e' : Ending) (w' : World) : Prop :=
  ∃ v' l', e' = .returned v' ∧ w'.ownsRow w0.heap.size 61 20 v' l'.length (vcs l') ∧ (∀ x ∈ l', x.In w0) ∧ vs l' = X.take 401 ∧ w.grownBy w' v.ownBlock ∧ (∀ g, v'.ownBlock = some g → v.ownBlock = some g ∨ w.heap.size ≤ g)
theorem vs_len (l : List VT) : (vs l).length = l.length := List.length_map _
theorem vs_app (a b : List VT) : vs (a ++ b) = vs a ++ vs b := List.map_append
end Go.Proofs.YtlebflphgeolfaaDoor.A
namespace Go.Proofs.YtlebflphgeolfaaDoor.A
open Go.RowKit
open L (Str isName prt size_len below_2 below_box ret_bool ret_int eql_eq bytes_eq)

/-- a number counted up to a bound: exact up to it, beyond it if there are more -/
structure Cnt (x : Nat) (m r : Int) : Prop where
  pos : 0 ≤ r
  le : r ≤ x
  eq : (x : Int) ≤ m → r = x
  gt : m < x → m < r
  top : r ≤ max m 0 + 100000000000000
theorem cEs_take {l : List Ex} {k : Nat} (h : k < l.length) : cEs (l.take (k + 1)) = cEs (l.take k) + cE l[k] := by
  induction l generalizing k with
  | nil => cases h
  | cons e l ih =>
    cases k with
    | zero => simp [cEs]
    | succ k =>
      have := ih (k := k) (by simpa using h)
      simp only [List.take_succ_cons, cEs, List.getElem_cons_succ] at this ⊢
      omega
theorem cEs_le (l : List Ex) (k : Nat) : cEs (l.take k) ≤ cEs l := by
  induction l generalizing k with
  | nil => simp
  | cons e l ih =>
    cases k with
    | zero => simp [cEs]
    | succ k =>
      have := ih k
      simp only [List.take_succ_cons, cEs] at this ⊢
      omega
set_option maxHeartbeats 4000000 in
set_option maxRecDepth 100000 in
theorem rcount_any : ∀ (e : Ex) (a : Option Addr) (c : Nat) (m : Int), -100000000000000000 ≤ m → m ≤ 1000000 → okE e → ∀ w : World, Kids w a e.args →
    Calls Tryd.prog 31 #[exV e a c, .int .i64 m] w fun e' w' => (∃ r : Int, e' = .returned (.int .i64 r) ∧ Cnt (cE e) m r) ∧ Below w.heap.size w w' := by
  refine Ex.ind (P := fun e => ∀ (a : Option Addr) (c : Nat) (m : Int), -100000000000000000 ≤ m → m ≤ 1000000 → okE e → ∀ w : World, Kids w a e.args →
    Calls Tryd.prog 31 #[exV e a c, .int .i64 m] w fun e' w' => (∃ r : Int, e' = .returned (.int .i64 r) ∧ Cnt (cE e) m r) ∧ Below w.heap.size w w') ?_
  intro o n s l ih a c m hm0 hm1 hok w hK
  obtain ⟨hs, hl, hoks⟩ := okE_open hok
  have HW := Lib.hid (below_box w (exO (.mk o n s l) a c))
  have HBL := Lib.hid (fun w' hb => box_later (w := w) (w' := w') (e := .mk o n s l) (a := a) (c := c) hb)
  have HKK : Hid (Kids w a l) := hK
  have HIH := Lib.hid ih
  have HOK := Lib.hid hoks
  simp only [exV_mk, exO_mk, op_mk, n_mk, s_mk, args_mk] at HW HBL ⊢
  obtain ⟨g, hg⟩ : ∃ g, l.length = g := ⟨_, rfl⟩
  have HL := Lib.hid hg
  have HC : Hid (cE (.mk o n s l) = 1 + s.size / 64 + cEs l) := by show _ = _; rw [cE]
  rw [hg] at HW HBL hl ⊢
  obtain ⟨q, hq⟩ : ∃ q, s.size / 64 = q := ⟨_, rfl⟩
  have hq2 : q ≤ 20000000000000 := by omega
  have hdiv : (s.size : Int).tdiv 64 = (q : Int) := by rw [← hq]; rfl
  have hdiv2 : (s.size : Int) / 64 = (q : Int) := by omega
  rw [hq] at HC
  have HC0 : Hid (Cnt (1 + q + cEs (l.take 0)) m (1 + (q : Int))) := by
    rw [List.take_zero, cEs]
    exact ⟨by omega, by omega, fun _ => by omega, fun h => by omega, by omega⟩
  clear hg hK ih hoks hok hq
  go_enter Tryd.func31, Tryd.ntmps31
  go_wp2_with fail
  go_loopw [5, 6] (fun s5 s6 wr => ∃ (k : Nat) (x : Int), k ≤ g ∧ s6 = .int .i64 k ∧ s5 = .int .i64 x ∧ 0 ≤ x ∧ x ≤ 200000000000000 ∧ Hid (Cnt (1 + q + cEs (l.take k)) m x) ∧ Hid (Below (w.alloc (.cells #[.int .i64 o, .int .i64 n, .string s, .slice a g c] 24)).heap.size (w.alloc (.cells #[.int .i64 o, .int .i64 n, .string s, .slice a g c] 24)) wr)) (fun _ s6 _ => g - (intOf s6).toNat)
  case atStart => exact ⟨0, 1 + (q : Int), Nat.zero_le _, rfl, by go_num, by omega, by omega, HC0, Below.refl _ _⟩
  case round =>
    obtain ⟨k, x, hk, rfl, rfl, hx0, hx1, HX, HB⟩ := hrel
    obtain ⟨c0, c1, c2, c3⟩ := HBL.out _ HB.out
    have HBB := Lib.hid (below_2 HW.out HB.out)
    have hcl := cEs_le l k
    by_cases hlt : k < g
    · by_cases hxm : x ≤ m
      · have hlx : k < l.length := by rw [HL.out]; exact hlt
        have hT := cEs_take hlx
        obtain ⟨b2, i2, rfl, hat⟩ := (HKK.out.below HBB.out).open hlx
        obtain ⟨d0, d1, d2, a2, cc, d3, hk2⟩ := hat.open
        have HCC := Lib.hid (HIH.out k hlx a2 cc (m - x) (by omega) (by omega) (HOK.out.get k hlx) _ hk2)
        have HT := Lib.hid hT
        clear hat hk2 hT hcl
        unfold exV at HCC
        generalize cE l[k] = y at HCC HT
        generalize l[k].args.length = m2 at d3 HCC
        generalize l[k].op = o2 at d0 HCC
        generalize l[k].n = n2 at d1 HCC
        generalize l[k].s = s2 at d2 HCC
        have bx : decide (x ≤ m) = true := decide_eq_true hxm
        go_wp2_with fail
        refine HCC.out.mono ?_; rintro e w2 ⟨⟨r, rfl, hr⟩, hb2⟩
        have h1 := hr.pos
        have h2 := hr.top
        have HN : Hid (Cnt (1 + q + cEs (l.take (k + 1))) m (x + r)) := by
          have hc := HX.out
          have hs := hc.eq (by apply Decidable.byContradiction; intro h; have := hc.gt (by omega); omega)
          have g1 := hr.le
          have g2 := hr.eq
          have g3 := hr.gt
          rw [HT.out]
          exact ⟨by omega, by omega, fun h => by have := g2 (by omega); omega, fun h => by have := g3 (by omega); omega, by omega⟩
        have hxr : x + r ≤ 200000000000000 := by omega
        clear hr
        go_wp2_with fail
        go_roundw
        case rel => exact ⟨k + 1, x + r, by omega, by go_num, by go_num, by omega, hxr, HN, below_2 HB.out hb2⟩
        case measure => simp [intOf]; omega
      · have HV : Hid (Cnt (cE (.mk o n s l)) m x) := by
          have hc := HX.out
          have h1 := hc.le
          have h2 := hc.top
          rw [HC.out]
          exact ⟨hx0, by omega, fun h => by omega, fun _ => by omega, h2⟩
        have bx : decide (x ≤ m) = false := decide_eq_false hxm
        clear hcl
        go_wp2_with fail
        go_ret
        exact ⟨⟨x, rfl, HV.out⟩, HBB.out⟩
    · have HV : Hid (Cnt (cE (.mk o n s l)) m x) := by
        have hc := HX.out
        rw [List.take_of_length_le (by rw [HL.out]; omega), ← HC.out] at hc
        exact hc
      clear hcl
      go_wp2_with fail
      go_ret
      exact ⟨⟨x, rfl, HV.out⟩, HBB.out⟩
theorem rsmallExpr_any (e : Ex) (a : Option Addr) (c : Nat) (m : Nat) (hm : m ≤ 1000000) (hok : okE e) (w : World) (hK : Kids w a e.args) :
    Calls Tryd.prog 11 #[exV e a c, .int .i64 (m : Int)] w fun e' w' => e' = .returned (.bool (decide (cE e ≤ m))) ∧ Below w.heap.size w w' := by
  have hw := below_box w (exO e a c)
  have HC := Lib.hid (rcount_any e a c m (by omega) (by omega) hok _ (hK.below hw))
  have HW := Lib.hid hw
  generalize cE e = x at HC ⊢
  unfold exV exO at *
  clear hw hK
  go_enter Tryd.func11, Tryd.ntmps11
  go_wp2_with fail
  refine HC.out.mono ?_; rintro e w1 ⟨⟨r, rfl, hr⟩, hb1⟩
  have HV : Hid (decide (r ≤ (m : Int)) = decide (x ≤ m)) := by
    show _ = _
    refine decide_eq_decide.2 ⟨fun h => ?_, fun h => ?_⟩
    · apply Decidable.byContradiction; intro h2; have := hr.gt (by omega); omega
    · have := hr.eq (by omega); omega
  clear hr
  go_wp2_with fail
  go_ret
  exact ⟨ret_bool HV.out, below_2 HW.out hb1⟩
end Go.Proofs.YtlebflphgeolfaaDoor.A
namespace Go.Proofs.YtlebflphgeolfaaDoor.A
open Go.RowKit
open L (Str isName prt size_len below_2 below_box ret_bool ret_int eql_eq bytes_eq)

theorem bytes_dec (a b : ByteArray) : (a.toList == b.toList) = decide (a = b) := by
  rw [eql_eq]
  exact decide_eq_decide.2 ⟨fun h => bytes_eq h, fun h => by rw [h]⟩
end Go.Proofs.YtlebflphgeolfaaDoor.A
