/-
  What the reference of layer 8 returns: countBody, Small: contracts.
  What the reference of layer 8 returns: walkBody, Walk: contracts.
  What the program's functions of layer 8 return: isAbsent, isMaxValid, isContents, exprError: contracts.
  What the program's function exprError of layer 8 returns: its contract.
-/
import Derived.Test.YtkjefigebdbkaaaDoorN05
import Derived.Test.YtkjefigebdbkaaaDoorN03
import Derived.Test.YtkjefigebdbkaaaDoorN04
import Derived.Test.YtkjefigebdbkaaaDoorN02
namespace Go.Proofs.YtkjefigebdbkaaaDoor.A
open Go.RowKit
open L (Str isName prt size_len below_2 below_box ret_bool ret_int eql_eq bytes_eq)

/-- a number counted up to a bound, whatever lies beyond -/
structure Core (x : Nat) (m r : Int) : Prop where
  pos : 0 ≤ r
  le : r ≤ x
  eq : (x : Int) ≤ m → r = x
  gt : m < x → m < r
theorem Cnt.core {x : Nat} {m r : Int} (h : Cnt x m r) : Core x m r := ⟨h.pos, h.le, h.eq, h.gt⟩
theorem Core.add {x y : Nat} {m n r : Int} (h : Core x m n) (h2 : Core y (m - n) r) : Core (x + y) m (n + r) := by
  obtain ⟨a1, a2, a3, a4⟩ := h
  obtain ⟨b1, b2, b3, b4⟩ := h2
  refine ⟨by omega, by omega, fun h => ?_, fun h => ?_⟩
  · have := a3 (by omega); have := b3 (by omega); omega
  · by_cases hx : (x : Int) ≤ m
    · have := a3 hx; have := b4 (by omega); omega
    · have := a4 (by omega); omega
theorem Core.plus {x y : Nat} {m n : Int} (h : Core x m n) (hn : n ≤ m) : Core (x + y) m (n + y) := by
  obtain ⟨a1, a2, a3, a4⟩ := h
  have : n = x := a3 (by apply Decidable.byContradiction; intro hx; have := a4 (by omega); omega)
  exact ⟨by omega, by omega, fun h => by omega, fun h => by omega⟩
theorem cS_parts (s : St) : cS s = 1 + s.name.size / 64 + cE s.a + cE s.b + cB s.body + cB s.els := by
  obtain ⟨o, nm, mx, a, b, bd, el⟩ := s
  rw [cS]; rfl
theorem cB_take {l : List St} {k : Nat} (h : k < l.length) : cB (l.take (k + 1)) = cB (l.take k) + cS l[k] := by
  induction l generalizing k with
  | nil => cases h
  | cons e l ih =>
    cases k with
    | zero => simp [cB]
    | succ k =>
      have := ih (k := k) (by simpa using h)
      simp only [List.take_succ_cons, cB, List.getElem_cons_succ] at this ⊢
      omega
theorem cB_le (l : List St) (k : Nat) : cB (l.take k) ≤ cB l := by
  induction l generalizing k with
  | nil => simp
  | cons e l ih =>
    cases k with
    | zero => simp [cB]
    | succ k =>
      have := ih k
      simp only [List.take_succ_cons, cB] at this ⊢
      omega
/-- what countBody's result is -/
structure CntB (x : Nat) (m r : Int) : Prop where
  core : Core x m r
  top : r ≤ max m 0 + 300000000000000
  none : m < 0 → r = 0
def QC (l : List St) : Prop := ∀ (a : Option Addr) (c : Nat) (m : Int), -10000000000000000 ≤ m → m ≤ 1000000 → l.length ≤ 1000000000000000 → okB l → ∀ w : World, Bodies w a l →
    Calls Tryd.prog 18 #[.slice a l.length c, .int .i64 m] w fun e' w' => (∃ r : Int, e' = .returned (.int .i64 r) ∧ CntB (cB l) m r) ∧ Below w.heap.size w w'
set_option maxHeartbeats 8000000 in
set_option maxRecDepth 100000 in
theorem rcountBody_any : ∀ l, QC l := by
  refine body_ind fun l ih => ?_
  intro a c m hm0 hm1 hl hok w hK
  have HKK : Hid (Bodies w a l) := hK
  have HIH := Lib.hid ih
  have HOK := Lib.hid hok
  obtain ⟨g, hg⟩ : ∃ g, l.length = g := ⟨_, rfl⟩
  have HL := Lib.hid hg
  rw [hg] at hl ⊢
  have HC0 : Hid (m < 0 ∨ Core (cB (l.take 0)) m 0) := by
    rw [List.take_zero, cB]
    by_cases h : m < 0
    · exact Or.inl h
    · exact Or.inr ⟨by omega, by omega, fun _ => rfl, fun h => by omega⟩
  clear hg hK ih hok
  go_enter Tryd.func18, Tryd.ntmps18
  go_wp2_with fail
  go_loopw [5, 6] (fun s5 s6 wr => ∃ (k : Nat) (x : Int), k ≤ g ∧ s6 = .int .i64 k ∧ s5 = .int .i64 x ∧ 0 ≤ x ∧ x ≤ max m 0 + 300000000000000 ∧ (m < 0 → x = 0) ∧ Hid (m < 0 ∨ Core (cB (l.take k)) m x) ∧ Below w.heap.size w wr) (fun _ s6 _ => g - (intOf s6).toNat)
  case atStart => exact ⟨0, 0, Nat.zero_le _, rfl, rfl, by omega, by omega, fun _ => rfl, HC0, Below.refl _ _⟩
  case round =>
    obtain ⟨k, x, hk, rfl, rfl, hx0, hx1, hxn, HX, hb⟩ := hrel
    have hcl := cB_le l k
    by_cases hlt : k < g
    · by_cases hxm : x ≤ m
      · have hm : 0 ≤ m := by omega
        have hX : Core (cB (l.take k)) m x := HX.out.resolve_left (by omega)
        have hlx : k < l.length := by rw [HL.out]; exact hlt
        have hT := cB_take hlx
        rw [cS_parts] at hT
        obtain ⟨b2, i2, rfl, hat⟩ := (HKK.out.below hb).open hlx
        have ho := okS_open (HOK.out.get k hlx)
        obtain ⟨q1, q2⟩ := HIH.out k hlx
        generalize l[k] = s at hat hT ho q1 q2
        obtain ⟨a1, c1, a2, c2, a3, c3, a4, c4, hcs, hks⟩ := hat.open
        have HE1 := Lib.hid (fun m hm0 hm1 w hK => rcount_any s.a a1 c1 m hm0 hm1 ho.a w hK)
        have HE2 := Lib.hid (fun m hm0 hm1 w hK => rcount_any s.b a2 c2 m hm0 hm1 ho.b w hK)
        have HQ1 := Lib.hid (fun m hm0 hm1 w hK => q1 a3 c3 m hm0 hm1 ho.bodyLen ho.body w hK)
        have HQ2 := Lib.hid (fun m hm0 hm1 w hK => q2 a4 c4 m hm0 hm1 ho.elsLen ho.els w hK)
        have HCs := Lib.hid hcs
        have HKs := Lib.hid hks
        obtain ⟨k0, k1, k2, k3, k4, k5, k6, k7, k8, k9, k10, k11, k12⟩ := hcs
        have hnm := ho.name
        obtain ⟨q, hq⟩ : ∃ q, s.name.size / 64 = q := ⟨_, rfl⟩
        have hq2 : q ≤ 20000000000000 := by omega
        have hdiv : (s.name.size : Int).tdiv 64 = (q : Int) := by rw [← hq]; rfl
        have hdiv2 : (s.name.size : Int) / 64 = (q : Int) := by omega
        rw [hq] at hT
        have HX1 : Hid (Core (cB (l.take k) + (1 + q)) m (x + 1 + (q : Int))) := by
          have := hX.plus (y := 1 + q) hxm
          rwa [show x + ((1 + q : Nat) : Int) = x + 1 + (q : Int) by omega] at this
        have HT := Lib.hid hT
        have bx : decide (x ≤ m) = true := decide_eq_true hxm
        unfold exV at HE1 HE2
        have hx1m : x ≤ 1000000 := by omega
        clear hX hT hat q1 q2 ho hq hcl hks hx1 hxn
        go_wp2_with fail
        refine (HE1.out (m - (x + 1 + (q : Int))) (by omega) (by omega) _ HKs.out.a).mono ?_; rintro e w1 ⟨⟨r1, rfl, hr1⟩, hb1⟩
        have HR1 := Lib.hid hr1.core
        have p1 := hr1.pos
        have t1 := hr1.top
        clear hr1 k0 k1 k2 k3 k4 k5 k6 k7 k8 k9 k10 k11 k12
        have HB1 := Lib.hid hb1
        obtain ⟨k0, k1, k2, k3, k4, k5, k6, k7, k8, k9, k10, k11, k12⟩ := HCs.out.below hb1
        clear hb1
        go_wp2_with fail
        refine (HE2.out (m - (x + 1 + (q : Int) + r1)) (by omega) (by omega) _ (HKs.out.below HB1.out).b).mono ?_; rintro e w2 ⟨⟨r2, rfl, hr2⟩, hb2⟩
        have HR2 := Lib.hid hr2.core
        have p2 := hr2.pos
        have t2 := hr2.top
        clear hr2 k0 k1 k2 k3 k4 k5 k6 k7 k8 k9 k10 k11 k12
        have HB2 := Lib.hid (below_2 HB1.out hb2)
        obtain ⟨k0, k1, k2, k3, k4, k5, k6, k7, k8, k9, k10, k11, k12⟩ := HCs.out.below HB2.out
        clear hb2
        go_wp2_with fail
        refine (HQ1.out (m - (x + 1 + (q : Int) + r1 + r2)) (by omega) (by omega) _ (HKs.out.below HB2.out).body).mono ?_; rintro e w3 ⟨⟨r3, rfl, hr3⟩, hb3⟩
        have HR3 := Lib.hid hr3.core
        have p3 := hr3.core.pos
        have t3 := hr3.top
        have u3 : x + 1 + (q : Int) + r1 + r2 + r3 ≤ m + 300000000000000 := by
          by_cases h : m - (x + 1 + (q : Int) + r1 + r2) < 0
          · have := hr3.none h; omega
          · omega
        clear hr3 t3 k0 k1 k2 k3 k4 k5 k6 k7 k8 k9 k10 k11 k12
        have HB3 := Lib.hid (below_2 HB2.out hb3)
        obtain ⟨k0, k1, k2, k3, k4, k5, k6, k7, k8, k9, k10, k11, k12⟩ := HCs.out.below HB3.out
        clear hb3
        go_wp2_with fail
        refine (HQ2.out (m - (x + 1 + (q : Int) + r1 + r2 + r3)) (by omega) (by omega) _ (HKs.out.below HB3.out).els).mono ?_; rintro e w4 ⟨⟨r4, rfl, hr4⟩, hb4⟩
        have p4 := hr4.core.pos
        have t4 := hr4.top
        have u4 : x + 1 + (q : Int) + r1 + r2 + r3 + r4 ≤ max m 0 + 300000000000000 := by
          by_cases h : m - (x + 1 + (q : Int) + r1 + r2 + r3) < 0
          · have := hr4.none h; omega
          · omega
        have HN : Hid (m < 0 ∨ Core (cB (l.take (k + 1))) m (x + 1 + (q : Int) + r1 + r2 + r3 + r4)) := by
          right
          have := (((HX1.out.add HR1.out).add HR2.out).add HR3.out).add hr4.core
          rw [HT.out]
          have e : cB (l.take k) + (1 + q + cE s.a + cE s.b + cB s.body + cB s.els) = cB (l.take k) + (1 + q) + cE s.a + cE s.b + cB s.body + cB s.els := by omega
          rw [e]
          exact this
        have HB4 := Lib.hid (below_2 (below_2 hb HB3.out) hb4)
        clear hr4 t4 k0 k1 k2 k3 k4 k5 k6 k7 k8 k9 k10 k11 k12 hb4
        go_wp2_with fail
        go_roundw
        case rel => exact ⟨k + 1, x + 1 + (q : Int) + r1 + r2 + r3 + r4, by omega, by go_num, by go_num, by omega, u4, fun h => absurd h (by omega), HN, HB4.out⟩
        case measure => simp [intOf]; omega
      · have HV : Hid (CntB (cB l) m x) := by
          show CntB _ _ _
          refine ⟨?_, hx1, hxn⟩
          rcases HX.out with h | h
          · have := hxn h
            subst this
            exact ⟨by omega, by omega, fun h2 => by omega, fun _ => by omega⟩
          · have h1 := h.le
            exact ⟨hx0, by omega, fun h => by omega, fun _ => by omega⟩
        have bx : decide (x ≤ m) = false := decide_eq_false hxm
        clear hcl hxn
        go_wp2_with fail
        go_ret
        exact ⟨⟨x, rfl, HV.out⟩, hb⟩
    · have HV : Hid (CntB (cB l) m x) := by
        show CntB _ _ _
        refine ⟨?_, hx1, hxn⟩
        rcases HX.out with h | h
        · have := hxn h
          subst this
          exact ⟨by omega, by omega, fun h2 => by omega, fun _ => by omega⟩
        · rw [List.take_of_length_le (by rw [HL.out]; omega)] at h
          exact h
      clear hcl hxn
      go_wp2_with fail
      go_ret
      exact ⟨⟨x, rfl, HV.out⟩, hb⟩
end Go.Proofs.YtkjefigebdbkaaaDoor.A
namespace Go.Proofs.YtkjefigebdbkaaaDoor.A
open Go.RowKit
open L (Str isName prt size_len below_2 below_box ret_bool ret_int)

theorem grown_below {w w' : World} (r : Option Nat) (h : Below w.heap.size w w') : w.grownBy w' r := ⟨h.os, h.tape, h.output, h.size, fun k hk _ => h.block k hk⟩
theorem ownV_below {w w' : World} {B n size : Nat} {e : TypeId} {v : Value} {xs : List Value} (h : w.ownsRow B e size v n xs) (hb : Below w.heap.size w w') : w'.ownsRow B e size v n xs := by
  refine ⟨h.1, ?_⟩
  rcases h.2 with h0 | ⟨g, cap, cur, hv, hB, hg, r⟩
  · exact Or.inl h0
  · exact Or.inr ⟨g, cap, cur, hv, hB, (hb.block g (Array.getElem?_eq_some_iff.1 hg).1).trans hg, r⟩
/-- the visits so far: a row that the call owns -/
structure Cur (w0 W wr : World) (v0 v : Value) (l : List VT) (X : List V) : Prop where
  own : wr.ownsRow w0.heap.size 66 20 v l.length (vcs l)
  each : ∀ x ∈ l, x.In w0
  eq : vs l = X.take 401
  grown : W.grownBy wr v0.ownBlock
  blk : ∀ g, v.ownBlock = some g → v0.ownBlock = some g ∨ W.heap.size ≤ g
namespace Cur
variable {w0 W wr : World} {v0 v : Value} {l : List VT} {X : List V}
theorem len (h : Cur w0 W wr v0 v l X) : l.length ≤ 401 := by
  have := congrArg List.length h.eq
  rw [vs_len, List.length_take] at this
  omega
theorem shape (h : Cur w0 W wr v0 v l X) : ∃ p q, v = .slice p l.length q := by
  rcases h.own.2 with ⟨hv, h0⟩ | ⟨g, cap, cur, hv, _⟩
  · exact ⟨none, 0, by rw [hv, h0]⟩
  · exact ⟨_, cap, hv⟩
theorem start (hown : W.ownsRow w0.heap.size 66 20 v l.length (vcs l)) (hin : ∀ x ∈ l, x.In w0) (hlen : l.length ≤ 401) : Cur w0 W W v v l (vs l) :=
  ⟨hown, hin, (List.take_of_length_le (by rw [vs_len]; omega)).symm, World.grownBy.refl _ _, fun _ h => Or.inl h⟩
theorem below (h : Cur w0 W wr v0 v l X) (hb0 : Below w0.heap.size w0 W) (hv : ∀ g, v0.ownBlock = some g → w0.heap.size ≤ g) : Below w0.heap.size w0 wr := hb0.grown h.grown hb0.size hv
theorem later {w' : World} (h : Cur w0 W wr v0 v l X) (hb : Below wr.heap.size wr w') : Cur w0 W w' v0 v l X := ⟨ownV_below h.own hb, h.each, h.eq, grown_2 (r2 := none) h.grown (grown_below _ hb) (fun g hg => by cases hg), h.blk⟩
theorem step {w' : World} {Y : List V} {e' : Ending} (h : Cur w0 W wr v0 v l X) (g : GivesW w0 wr v (vs l ++ Y) e' w') : ∃ p q l', e' = .returned (.slice p l'.length q) ∧ l.length ≤ l'.length ∧ Cur w0 W w' v0 (.slice p l'.length q) l' (X ++ Y) := by
  obtain ⟨v', l', rfl, ho, hi, hv, hg, hl⟩ := g
  have hc : Cur w0 W w' v0 v' l' (X ++ Y) := ⟨ho, hi, by rw [hv, h.eq, take_take_app], grown_2 h.grown hg h.blk, fun g hg => by
    rcases hl g hg with h2 | h2
    · exact h.blk g h2
    · exact Or.inr (Nat.le_trans h.grown.size h2)⟩
  obtain ⟨p, q, rfl⟩ := hc.shape
  refine ⟨p, q, l', rfl, ?_, hc⟩
  have h1 := congrArg List.length hv
  rw [vs_len, List.length_take, List.length_append, vs_len] at h1
  have := h.len
  omega
theorem push {w1 : World} {o : Obj} {y : VT} {g1 cap : Nat} (h : Cur w0 W wr v0 v l X) (h4 : l.length ≤ 400) (hy : y.In w0)
    (h1 : w1.ownsRow w0.heap.size 66 20 (.slice (some ⟨g1, 0, none⟩) (l.length + 1) cap) (l ++ [y]).length (vcs (l ++ [y]))) (h2 : (wr.alloc o).grownBy w1 v.ownBlock) (h3 : v.ownBlock = some g1 ∨ g1 = wr.heap.size + 1) :
    ∃ l', l'.length = l.length + 1 ∧ Cur w0 W w1 v0 (.slice (some ⟨g1, 0, none⟩) l'.length cap) l' (X ++ [y.v]) := by
  have hX := congrArg List.length h.eq
  rw [vs_len, List.length_take] at hX
  have hll : (l ++ [y]).length = l.length + 1 := by simp
  refine ⟨l ++ [y], hll, ?_, ?_, ?_, ?_, ?_⟩
  · rw [← hll] at h1; exact h1
  · intro x hx
    rcases List.mem_append.1 hx with hx | hx
    · exact h.each x hx
    · rw [List.mem_singleton] at hx; rw [hx]; exact hy
  · rw [vs_app, h.eq, List.take_of_length_le (by omega), List.take_of_length_le (by rw [List.length_append]; simp; omega)]
    rfl
  · exact grown_2 (grown_2 h.grown (World.grownBy_alloc _ o v.ownBlock) h.blk) h2 h.blk
  · intro g hg
    cases hg
    rcases h3 with h3 | h3
    · exact h.blk _ h3
    · refine Or.inr ?_
      show _ ≤ g1
      have := h.grown.size
      omega
theorem same {Y : List V} {e : Ex} {x : Prop} [Decidable x] (h : Cur w0 W wr v0 v l X) (hx : preR e = if x then [] else Y) (ht : x := by exact rfl) : Cur w0 W wr v0 v l (X ++ preR e) := by
  rw [hx, if_pos ht, List.append_nil]
  exact h
theorem alter {Z : List V} (h : Cur w0 W wr v0 v l X) (e : X = Z) : Cur w0 W wr v0 v l Z := e ▸ h
end Cur
theorem preS_parts (s : St) (d : Nat) : preS s d = .st s d :: (preR s.a ++ preR s.b ++ preB s.body (d + 1) ++ preB s.els (d + 1)) := by
  obtain ⟨o, nm, mx, a, b, bd, el⟩ := s
  rw [preS]; rfl
structure Four (w : World) (e : Ex) (b i : Nat) (a : Option Addr) (c : Nat) : Prop where
  k0 : w.cell? ⟨b, i, none⟩ = some (.int .i64 e.op)
  k1 : w.cell? ⟨b, i + 1, none⟩ = some (.int .i64 e.n)
  k2 : w.cell? ⟨b, i + 2, none⟩ = some (.string e.s)
  k3 : w.cell? ⟨b, i + 3, none⟩ = some (.slice a e.args.length c)
theorem StCells.fourA {w : World} {s : St} {b i : Nat} {a1 a2 a3 a4 : Option Addr} {c1 c2 c3 c4 : Nat} (h : StCells w s b i a1 c1 a2 c2 a3 c3 a4 c4) : Four w s.a b (i + 3) a1 c1 := ⟨h.k3, h.k4, h.k5, h.k6⟩
theorem StCells.fourB {w : World} {s : St} {b i : Nat} {a1 a2 a3 a4 : Option Addr} {c1 c2 c3 c4 : Nat} (h : StCells w s b i a1 c1 a2 c2 a3 c3 a4 c4) : Four w s.b b (i + 7) a2 c2 := ⟨h.k7, h.k8, h.k9, h.k10⟩
def QB (l : List St) : Prop := ∀ (w0 : World) (v : Value) (r : List VT) (a : Option Addr) (c d : Nat) (w : World), okB l → l.length ≤ 1000000000000000 → Bodies w0 a l → Below w0.heap.size w0 w → w.ownsRow w0.heap.size 66 20 v r.length (vcs r) → (∀ x ∈ r, x.In w0) → r.length ≤ 401 → d ≤ r.length + 1 →
    Calls Tryd.prog 58 #[v, .slice a l.length c, .int .i64 (d : Int)] w fun e' w' => GivesW w0 w v (vs r ++ preB l d) e' w'
set_option maxHeartbeats 16000000 in
set_option maxRecDepth 100000 in
theorem rwalkBody_any : ∀ l, QB l := by
  refine body_ind fun l ih => ?_
  intro w0 v r a c d w hok hl hK hb0 hown hin hlen hd
  have hcur := Cur.start hown hin hlen
  obtain ⟨p, q, rfl⟩ := hcur.shape
  have HBv : Hid (∀ g, (Value.slice p r.length q).ownBlock = some g → w0.heap.size ≤ g) := fun g h => (World.ownsRow.lt hown g h).1
  have HK : Hid (Bodies w0 a l) := hK
  have HIH := Lib.hid ih
  have HOK := Lib.hid hok
  have HB0 := Lib.hid hb0
  have HC := Lib.hid hcur
  obtain ⟨g, hg⟩ : ∃ g, l.length = g := ⟨_, rfl⟩
  have HL := Lib.hid hg
  rw [hg] at hl ⊢
  clear hg hK ih hok hb0 hown hin hcur
  go_enter Tryd.func58, Tryd.ntmps58
  go_wp2_with fail
  go_loopw [0, 7] (fun v0 i wr => ∃ (k : Nat) (l2 : List VT) (p2 : Option Addr) (q2 : Nat), k ≤ g ∧ i = .int .i64 k ∧ v0 = .slice p2 l2.length q2 ∧ l2.length ≤ 401 ∧ r.length ≤ l2.length ∧ Hid (Cur w0 w wr (.slice p r.length q) (.slice p2 l2.length q2) l2 (vs r ++ preB (l.take k) d))) (fun _ i _ => g - (intOf i).toNat)
  case atStart => exact ⟨0, r, p, q, Nat.zero_le _, rfl, rfl, hlen, Nat.le_refl _, by rw [List.take_zero, preB, List.append_nil]; exact HC.out⟩
  case round =>
    obtain ⟨k, l2, p2, q2, hk, rfl, rfl, hl2, hr2, HC2⟩ := hrel
    have HBB : Hid (Below w0.heap.size w0 wr) := HC2.out.below HB0.out HBv.out
    by_cases hlt : k < g
    · by_cases h400 : l2.length ≤ 400
      · have b4 : decide ((l2.length : Int) ≤ 400) = true := decide_eq_true (by omega)
        have hlx : k < l.length := by rw [HL.out]; exact hlt
        have HT := Lib.hid (preB_take hlx d)
        obtain ⟨b2, i2, rfl, hat⟩ := HK.out.open hlx
        have ho := okS_open (HOK.out.get k hlx)
        obtain ⟨j1, j2⟩ := HIH.out k hlx
        generalize l[k] = s at hat HT ho j1 j2
        obtain ⟨a1, c1, a2, c2, a3, c3, a4, c4, hcs, hks⟩ := hat.open
        obtain ⟨x1, hx1⟩ : ∃ x, absent s.a = x := ⟨_, rfl⟩
        obtain ⟨x2, hx2⟩ : ∃ x, absent s.b = x := ⟨_, rfl⟩
        have HX1 : Hid (preR s.a = if x1 then [] else preE s.a true) := by show _ = _; rw [preR, hx1]
        have HX2 : Hid (preR s.b = if x2 then [] else preE s.b true) := by show _ = _; rw [preR, hx2]
        have HA1 : Hid (∀ w, Calls Tryd.prog 93 #[exV s.a a1 c1] w fun e' w' => e' = .returned (.bool x1) ∧ Below w.heap.size w w') := by show ∀ _, _; rw [← hx1]; exact fun w => rabsent_any s.a a1 c1 w
        have HA2 : Hid (∀ w, Calls Tryd.prog 93 #[exV s.b a2 c2] w fun e' w' => e' = .returned (.bool x2) ∧ Below w.heap.size w w') := by show ∀ _, _; rw [← hx2]; exact fun w => rabsent_any s.b a2 c2 w
        have HE1 := Lib.hid (fun v l w hb h1 h2 h3 => rwalkExpr_any s.a w0 v l a1 c1 true w ho.a hks.a hb h1 h2 h3)
        have HE2 := Lib.hid (fun v l w hb h1 h2 h3 => rwalkExpr_any s.b w0 v l a2 c2 true w ho.b hks.b hb h1 h2 h3)
        have HQ1 : Hid (∀ (v : Value) (r : List VT) (w : World), Below w0.heap.size w0 w → w.ownsRow w0.heap.size 66 20 v r.length (vcs r) → (∀ x ∈ r, x.In w0) → r.length ≤ 401 → d + 1 ≤ r.length + 1 → Calls Tryd.prog 58 #[v, .slice a3 s.body.length c3, .int .i64 ((d : Int) + 1)] w fun e' w' => GivesW w0 w v (vs r ++ preB s.body (d + 1)) e' w') :=
          fun v r w hb h1 h2 h3 h4 => j1 w0 v r a3 c3 (d + 1) w ho.body ho.bodyLen hks.body hb h1 h2 h3 h4
        have HQ2 : Hid (∀ (v : Value) (r : List VT) (w : World), Below w0.heap.size w0 w → w.ownsRow w0.heap.size 66 20 v r.length (vcs r) → (∀ x ∈ r, x.In w0) → r.length ≤ 401 → d + 1 ≤ r.length + 1 → Calls Tryd.prog 58 #[v, .slice a4 s.els.length c4, .int .i64 ((d : Int) + 1)] w fun e' w' => GivesW w0 w v (vs r ++ preB s.els (d + 1)) e' w') :=
          fun v r w hb h1 h2 h3 h4 => j2 w0 v r a4 c4 (d + 1) w ho.els ho.elsLen hks.els hb h1 h2 h3 h4
        have HCs := Lib.hid hcs
        have HIn : Hid (VT.In w0 (.st s d a1 c1 a2 c2 a3 c3 a4 c4)) := hks
        have HS := Lib.hid (preS_parts s d)
        have hz : w0.heap.size ≤ wr.heap.size := HBB.out.size
        have HO2 := Lib.hid HC2.out.own
        unfold exV at HE1 HE2 HA1 HA2
        obtain ⟨k0, k1, k2, k3, k4, k5, k6, k7, k8, k9, k10, k11, k12⟩ := hcs.below HBB.out
        clear hat ho j1 j2 hks hcs hx1 hx2
        go_wp2_with (at_builtin; refine wpList_append_visit rfl (.tmp 19) (.tmp 26) rfl w0.heap.size (.slice p2 l2.length q2) l2 rfl HO2.out (.st s d a1 c1 a2 c2 a3 c3 a4 c4) _ rfl wr.heap.size rfl rfl (by omega) hz ?_; intro g1 cap1 w1 hown1 hgrow1 hlie1; obtain ⟨l3, hl3, hc3⟩ := HC2.out.push h400 HIn.out hown1 hgrow1 hlie1; rw [← hl3]; have HC3 := Lib.hid hc3; have hl3a : l3.length ≤ 401 := (by omega); have hl3b : l2.length < l3.length := (by omega); clear hl3; clear hown1 hgrow1 hlie1 hc3 k0 k1 k2 k3 k4 k5 k6 k7 k8 k9 k10 k11 k12 HO2; obtain ⟨k3, k4, k5, k6⟩ := (HCs.out.below (HC3.out.below HB0.out HBv.out)).fourA)
        refine (HA1.out _).mono ?_; rintro e w2 ⟨rfl, hb2⟩
        have HC4 := Lib.hid (HC3.out.later hb2)
        clear hb2 HC3 k3 k4 k5 k6
        cases x1 with
        | true =>
          have HAB := Lib.hid (HC4.out.same HX1.out)
          clear HC4
          obtain ⟨k7, k8, k9, k10⟩ := (HCs.out.below (HAB.out.below HB0.out HBv.out)).fourB
          go_wp2_with fail
          refine (HA2.out _).mono ?_; rintro e w5 ⟨rfl, hb5⟩
          have HBB2 := Lib.hid (HAB.out.later hb5)
          clear hb5 HAB k7 k8 k9 k10
          cases x2 with
          | true =>
            have HCD := Lib.hid (HBB2.out.same HX2.out)
            clear HBB2
            obtain ⟨-, -, -, -, -, -, -, -, -, -, -, k11, -⟩ := HCs.out.below (HCD.out.below HB0.out HBv.out)
            have hl9 := HCD.out.len
            go_wp2_with fail
            refine (HQ1.out _ l3 _ (HCD.out.below HB0.out HBv.out) HCD.out.own HCD.out.each hl9 (by omega)).mono ?_; rintro e w7 hg7
            obtain ⟨p7, q7, l7, rfl, hle7, hc7⟩ := HCD.out.step hg7
            have HC7 := Lib.hid hc7
            clear hg7 hc7 hl9 HCD k11
            obtain ⟨-, -, -, -, -, -, -, -, -, -, -, -, k12⟩ := HCs.out.below (HC7.out.below HB0.out HBv.out)
            have hl9 := HC7.out.len
            go_wp2_with fail
            refine (HQ2.out _ l7 _ (HC7.out.below HB0.out HBv.out) HC7.out.own HC7.out.each hl9 (by omega)).mono ?_; rintro e w8 hg8
            obtain ⟨p8, q8, l8, rfl, hle8, hc8⟩ := HC7.out.step hg8
            have HC8 := Lib.hid (hc8.alter (by rw [HT.out, HS.out]; simp [VT.v]) : Cur w0 w w8 (.slice p r.length q) (.slice p8 l8.length q8) l8 (vs r ++ preB (l.take (k + 1)) d))
            clear hg8 hc8 hl9 HC7 k12
            have hl10 := HC8.out.len
            go_wp2_with fail
            go_roundw
            case rel =>
              first
              | exact ⟨k + 1, l8, p8, q8, by omega, by go_num, rfl, hl10, by omega, HC8.out⟩
              | (repeat' apply Exists.intro) <;> (refine ⟨⟨k + 1, l8, p8, q8, by omega, by go_num, rfl, hl10, by omega, HC8.out⟩, ?_⟩; exact rfl)
            case measure => simp [intOf]; omega
          | false =>
            have hl9 := HBB2.out.len
            obtain ⟨k7, k8, k9, k10⟩ := (HCs.out.below (HBB2.out.below HB0.out HBv.out)).fourB
            go_wp2_with fail
            have HW := HE2.out _ l3 _ (HBB2.out.below HB0.out HBv.out) HBB2.out.own HBB2.out.each hl9; refine HW.mono ?_; clear HW; rintro e w4 hg4
            obtain ⟨p5, q5, l6, rfl, hlel6, hc5⟩ := HBB2.out.step (Y := preR s.b) (by rw [HX2.out]; exact hg4)
            have HCD := Lib.hid hc5
            clear hg4 hc5 hl9 HBB2 k7 k8 k9 k10
            obtain ⟨-, -, -, -, -, -, -, -, -, -, -, k11, -⟩ := HCs.out.below (HCD.out.below HB0.out HBv.out)
            have hl9 := HCD.out.len
            go_wp2_with fail
            refine (HQ1.out _ l6 _ (HCD.out.below HB0.out HBv.out) HCD.out.own HCD.out.each hl9 (by omega)).mono ?_; rintro e w7 hg7
            obtain ⟨p7, q7, l7, rfl, hle7, hc7⟩ := HCD.out.step hg7
            have HC7 := Lib.hid hc7
            clear hg7 hc7 hl9 HCD k11
            obtain ⟨-, -, -, -, -, -, -, -, -, -, -, -, k12⟩ := HCs.out.below (HC7.out.below HB0.out HBv.out)
            have hl9 := HC7.out.len
            go_wp2_with fail
            refine (HQ2.out _ l7 _ (HC7.out.below HB0.out HBv.out) HC7.out.own HC7.out.each hl9 (by omega)).mono ?_; rintro e w8 hg8
            obtain ⟨p8, q8, l8, rfl, hle8, hc8⟩ := HC7.out.step hg8
            have HC8 := Lib.hid (hc8.alter (by rw [HT.out, HS.out]; simp [VT.v]) : Cur w0 w w8 (.slice p r.length q) (.slice p8 l8.length q8) l8 (vs r ++ preB (l.take (k + 1)) d))
            clear hg8 hc8 hl9 HC7 k12
            have hl10 := HC8.out.len
            go_wp2_with fail
            go_roundw
            case rel =>
              first
              | exact ⟨k + 1, l8, p8, q8, by omega, by go_num, rfl, hl10, by omega, HC8.out⟩
              | (repeat' apply Exists.intro) <;> (refine ⟨⟨k + 1, l8, p8, q8, by omega, by go_num, rfl, hl10, by omega, HC8.out⟩, ?_⟩; exact rfl)
            case measure => simp [intOf]; omega
        | false =>
          have hl9 := HC4.out.len
          obtain ⟨k3, k4, k5, k6⟩ := (HCs.out.below (HC4.out.below HB0.out HBv.out)).fourA
          go_wp2_with fail
          have HW := HE1.out _ l3 _ (HC4.out.below HB0.out HBv.out) HC4.out.own HC4.out.each hl9; refine HW.mono ?_; clear HW; rintro e w4 hg4
          obtain ⟨p5, q5, l5, rfl, hlel5, hc5⟩ := HC4.out.step (Y := preR s.a) (by rw [HX1.out]; exact hg4)
          have HAB := Lib.hid hc5
          clear hg4 hc5 hl9 HC4 k3 k4 k5 k6
          obtain ⟨k7, k8, k9, k10⟩ := (HCs.out.below (HAB.out.below HB0.out HBv.out)).fourB
          go_wp2_with fail
          refine (HA2.out _).mono ?_; rintro e w5 ⟨rfl, hb5⟩
          have HBB2 := Lib.hid (HAB.out.later hb5)
          clear hb5 HAB k7 k8 k9 k10
          cases x2 with
          | true =>
            have HCD := Lib.hid (HBB2.out.same HX2.out)
            clear HBB2
            obtain ⟨-, -, -, -, -, -, -, -, -, -, -, k11, -⟩ := HCs.out.below (HCD.out.below HB0.out HBv.out)
            have hl9 := HCD.out.len
            go_wp2_with fail
            refine (HQ1.out _ l5 _ (HCD.out.below HB0.out HBv.out) HCD.out.own HCD.out.each hl9 (by omega)).mono ?_; rintro e w7 hg7
            obtain ⟨p7, q7, l7, rfl, hle7, hc7⟩ := HCD.out.step hg7
            have HC7 := Lib.hid hc7
            clear hg7 hc7 hl9 HCD k11
            obtain ⟨-, -, -, -, -, -, -, -, -, -, -, -, k12⟩ := HCs.out.below (HC7.out.below HB0.out HBv.out)
            have hl9 := HC7.out.len
            go_wp2_with fail
            refine (HQ2.out _ l7 _ (HC7.out.below HB0.out HBv.out) HC7.out.own HC7.out.each hl9 (by omega)).mono ?_; rintro e w8 hg8
            obtain ⟨p8, q8, l8, rfl, hle8, hc8⟩ := HC7.out.step hg8
            have HC8 := Lib.hid (hc8.alter (by rw [HT.out, HS.out]; simp [VT.v]) : Cur w0 w w8 (.slice p r.length q) (.slice p8 l8.length q8) l8 (vs r ++ preB (l.take (k + 1)) d))
            clear hg8 hc8 hl9 HC7 k12
            have hl10 := HC8.out.len
            go_wp2_with fail
            go_roundw
            case rel =>
              first
              | exact ⟨k + 1, l8, p8, q8, by omega, by go_num, rfl, hl10, by omega, HC8.out⟩
              | (repeat' apply Exists.intro) <;> (refine ⟨⟨k + 1, l8, p8, q8, by omega, by go_num, rfl, hl10, by omega, HC8.out⟩, ?_⟩; exact rfl)
            case measure => simp [intOf]; omega
          | false =>
            have hl9 := HBB2.out.len
            obtain ⟨k7, k8, k9, k10⟩ := (HCs.out.below (HBB2.out.below HB0.out HBv.out)).fourB
            go_wp2_with fail
            have HW := HE2.out _ l5 _ (HBB2.out.below HB0.out HBv.out) HBB2.out.own HBB2.out.each hl9; refine HW.mono ?_; clear HW; rintro e w4 hg4
            obtain ⟨p5, q5, l6, rfl, hlel6, hc5⟩ := HBB2.out.step (Y := preR s.b) (by rw [HX2.out]; exact hg4)
            have HCD := Lib.hid hc5
            clear hg4 hc5 hl9 HBB2 k7 k8 k9 k10
            obtain ⟨-, -, -, -, -, -, -, -, -, -, -, k11, -⟩ := HCs.out.below (HCD.out.below HB0.out HBv.out)
            have hl9 := HCD.out.len
            go_wp2_with fail
            refine (HQ1.out _ l6 _ (HCD.out.below HB0.out HBv.out) HCD.out.own HCD.out.each hl9 (by omega)).mono ?_; rintro e w7 hg7
            obtain ⟨p7, q7, l7, rfl, hle7, hc7⟩ := HCD.out.step hg7
            have HC7 := Lib.hid hc7
            clear hg7 hc7 hl9 HCD k11
            obtain ⟨-, -, -, -, -, -, -, -, -, -, -, -, k12⟩ := HCs.out.below (HC7.out.below HB0.out HBv.out)
            have hl9 := HC7.out.len
            go_wp2_with fail
            refine (HQ2.out _ l7 _ (HC7.out.below HB0.out HBv.out) HC7.out.own HC7.out.each hl9 (by omega)).mono ?_; rintro e w8 hg8
            obtain ⟨p8, q8, l8, rfl, hle8, hc8⟩ := HC7.out.step hg8
            have HC8 := Lib.hid (hc8.alter (by rw [HT.out, HS.out]; simp [VT.v]) : Cur w0 w w8 (.slice p r.length q) (.slice p8 l8.length q8) l8 (vs r ++ preB (l.take (k + 1)) d))
            clear hg8 hc8 hl9 HC7 k12
            have hl10 := HC8.out.len
            go_wp2_with fail
            go_roundw
            case rel =>
              first
              | exact ⟨k + 1, l8, p8, q8, by omega, by go_num, rfl, hl10, by omega, HC8.out⟩
              | (repeat' apply Exists.intro) <;> (refine ⟨⟨k + 1, l8, p8, q8, by omega, by go_num, rfl, hl10, by omega, HC8.out⟩, ?_⟩; exact rfl)
            case measure => simp [intOf]; omega
      · have b4 : decide ((l2.length : Int) ≤ 400) = false := decide_eq_false (by omega)
        have HV : Hid (GivesW w0 w (.slice p r.length q) (vs r ++ preB l d) (.returned (.slice p2 l2.length q2)) wr) := by
          refine ⟨_, l2, rfl, HC2.out.own, HC2.out.each, ?_, HC2.out.grown, HC2.out.blk⟩
          have hx := HC2.out.eq
          rw [preB_split l k d, ← List.append_assoc, take_full (by rw [← hx, vs_len]; omega)]
          exact hx
        go_wp2_with fail
        go_ret
        exact HV.out
    · have HV : Hid (GivesW w0 w (.slice p r.length q) (vs r ++ preB l d) (.returned (.slice p2 l2.length q2)) wr) := by
        refine ⟨_, l2, rfl, HC2.out.own, HC2.out.each, ?_, HC2.out.grown, HC2.out.blk⟩
        have hx := HC2.out.eq
        rw [show l.take k = l from List.take_of_length_le (by rw [HL.out]; omega)] at hx
        exact hx
      go_wp2_with fail
      go_ret
      exact HV.out
end Go.Proofs.YtkjefigebdbkaaaDoor.A
namespace Go.Proofs.YtkjefigebdbkaaaDoor.A
open Go.RowKit
open L (Str isName prt size_len below_2 below_box ret_bool ret_int eql_eq bytes_eq qt qt_long qt_bad qt_ok pairS)

theorem Four.below {w w' : World} {e : Ex} {b i : Nat} {a : Option Addr} {c : Nat} (h : Four w e b i a c) (hb : Below w.heap.size w w') : Four w' e b i a c := by
  have hlt : b < w.heap.size := block_lt_of_cell h.k0
  exact ⟨(hb.cell hlt).trans h.k0, (hb.cell hlt).trans h.k1, (hb.cell hlt).trans h.k2, (hb.cell hlt).trans h.k3⟩
theorem ExAt.four {w : World} {e : Ex} {b i : Nat} (h : ExAt w e b i) : ∃ a c, Four w e b i a c ∧ Kids w a e.args := by
  obtain ⟨d0, d1, d2, a, c, d3, hk⟩ := h.open
  exact ⟨a, c, ⟨d0, d1, d2, d3⟩, hk⟩
set_option maxHeartbeats 2000000 in
set_option maxRecDepth 100000 in
theorem oabsent_any (e : Ex) (b i : Nat) (a : Option Addr) (c : Nat) (w : World) (h : Four w e b i a c) : Calls Tryd.prog 133 #[.pointer (some ⟨b, i, none⟩)] w fun e' w' => e' = .returned (.bool (absent e)) ∧ w' = w := by
  obtain ⟨k0, k1, k2, k3⟩ := h
  have hv : absent e = ((e.op == 0) && (e.n == 0) && (e.s.toList == []) && ((e.args.length : Int) == 0)) := by
    unfold absent
    rw [nil_of, Bool.beq_eq_decide_eq, Bool.beq_eq_decide_eq, Bool.beq_eq_decide_eq]
    congr 1
    cases e.args with
    | nil => rfl
    | cons x l => rw [decide_eq_false (by simp; omega)]; rfl
  have he : e.s.toList.isEmpty = (e.s.toList == []) := by cases e.s.toList <;> rfl
  rw [hv]
  clear hv
  generalize (e.s.toList == []) = b3 at he ⊢
  obtain ⟨b1, h1⟩ : ∃ b, (e.op == 0) = b := ⟨_, rfl⟩
  obtain ⟨b2, h2⟩ : ∃ b, (e.n == 0) = b := ⟨_, rfl⟩
  obtain ⟨b4, h4⟩ : ∃ b, ((e.args.length : Int) == 0) = b := ⟨_, rfl⟩
  rw [h1, h2, h4]
  cases b1 <;> cases b2 <;> cases b3 <;> cases b4
  all_goals
    go_enter Tryd.func133, Tryd.ntmps133
    go_wp2_with fail
    go_ret
    exact ⟨rfl, rfl⟩
theorem ocontents_any (s : ByteArray) (w : World) : Calls Tryd.prog 116 #[.string s] w fun e w' => e = .returned (.bool (plain s)) ∧ Below w.heap.size w w' := by
  have HC := Lib.hid (L.oquote_any s w)
  have HV : Hid (((qt s.data.toList).2 == 0) = plain s) := by
    show _ = _
    unfold plain
    by_cases h : 64 < s.size
    · rw [qt_long h, decide_eq_false (by omega)]; rfl
    · rw [decide_eq_true (by omega), Bool.true_and]
      cases h2 : s.data.toList.all prt
      · rw [qt_bad h h2]; rfl
      · rw [qt_ok h h2]; rfl
  obtain ⟨⟨q, x⟩, hq⟩ : ∃ r, qt s.data.toList = r := ⟨_, rfl⟩
  unfold pairS at HC
  rw [hq] at HC HV
  simp only at HC HV
  clear hq
  generalize plain s = P at HV ⊢
  go_enter Tryd.func116, Tryd.ntmps116
  go_wp2_with fail
  refine HC.out.mono ?_; rintro e w1 ⟨rfl, hb⟩
  go_wp2_with fail
  go_ret
  exact ⟨ret_bool HV.out, hb⟩
set_option maxHeartbeats 4000000 in
set_option maxRecDepth 100000 in
theorem omax_any (s : St) (b i : Nat) (w : World) (k0 : w.cell? ⟨b, i, none⟩ = some (.int .i64 s.op)) (k2 : w.cell? ⟨b, i + 2, none⟩ = some (.int .i64 s.mx)) :
    Calls Tryd.prog 107 #[.pointer (some ⟨b, i, none⟩)] w fun e' w' => e' = .returned (.bool (!badM s)) ∧ w' = w := by
  obtain ⟨b6, h6⟩ : ∃ b, (s.op == 6) = b := ⟨_, rfl⟩
  obtain ⟨b8, h8⟩ : ∃ b, (s.op == 8) = b := ⟨_, rfl⟩
  obtain ⟨c1, g1⟩ : ∃ b, decide (1 ≤ s.mx) = b := ⟨_, rfl⟩
  obtain ⟨c2, g2⟩ : ∃ b, decide (s.mx ≤ 16) = b := ⟨_, rfl⟩
  obtain ⟨c3, g3⟩ : ∃ b, decide (0 ≤ s.mx) = b := ⟨_, rfl⟩
  obtain ⟨c4, g4⟩ : ∃ b, decide (s.mx ≤ 999) = b := ⟨_, rfl⟩
  have HV : Hid ((!badM s) = if b6 = true then c1 && c2 else if b8 = true then c3 && c4 else true) := by
    show _ = _
    subst h6 h8 g1 g2 g3 g4
    unfold badM
    rw [Bool.eq_iff_iff]
    by_cases h6 : s.op = 6
    · have h8 : ¬ s.op = 8 := by omega
      simp [h6]
    · by_cases h8 : s.op = 8
      · simp [h8]
      · simp [h6, h8]
  rw [HV.out]
  clear HV
  cases b6
  · cases b8
    · go_enter Tryd.func107, Tryd.ntmps107
      go_wp2_with fail
      go_ret
      exact ⟨rfl, rfl⟩
    · cases c3 <;> cases c4
      all_goals
        go_enter Tryd.func107, Tryd.ntmps107
        go_wp2_with fail
        go_ret
        exact ⟨rfl, rfl⟩
  · cases c1 <;> cases c2
    all_goals
      go_enter Tryd.func107, Tryd.ntmps107
      go_wp2_with fail
      go_ret
      exact ⟨rfl, rfl⟩
end Go.Proofs.YtkjefigebdbkaaaDoor.A
namespace Go.Proofs.YtkjefigebdbkaaaDoor.A
open Go.RowKit
open L (Str isName prt size_len below_2 below_box ret_bool ret_int eql_eq bytes_eq)

theorem nodeE_bools {e : Ex} {d : Nat} : nodeE e d =
    if (decide (arity e.op < 0) || ((e.n != 0) && (e.op != 1)) || (!decide (e.s.size = 0) && !(e.op == 3) && !(e.op == 2))) = true then 1
    else if ((e.op == 3) && !nam e.s) = true then 7
    else if (decide (e.n < 0) || ((e.op == 2) && !plain e.s) || ((e.args.length : Int) != arity e.op)) = true then 1
    else if decide (12 < d) = true then 2 else 0 := by
  unfold nodeE
  simp only [Bool.or_eq_true, Bool.and_eq_true, decide_eq_true_eq, bne_iff_ne, beq_iff_eq, Bool.not_eq_true', beq_eq_false_iff_ne, decide_eq_false_iff_not]
  congr 1
  · exact propext ⟨fun h => by omega, fun h => by omega⟩
  · congr 1
    congr 1
    rw [or_assoc]
theorem below_dn (w : World) (n : Nat) : Below w.heap.size w (w.drewN n) := ⟨rfl, rfl, rfl, Nat.le_refl _, fun _ _ => rfl⟩
set_option maxHeartbeats 8000000 in
set_option maxRecDepth 100000 in
theorem oexprError_any (e : Ex) (b i : Nat) (a : Option Addr) (c d : Nat) (hd : d ≤ 1000000) (w : World) (h : Four w e b i a c) :
    Calls Tryd.prog 82 #[.pointer (some ⟨b, i, none⟩), .int .i64 (d : Int)] w fun e' w' => e' = .returned (.int .i64 (nodeE e d)) ∧ Below w.heap.size w w' := by
  have HA := Lib.hid (fun w => oarity_any e.op w)
  have HI := Lib.hid (fun w => L.oname_any e.s w)
  have HP := Lib.hid (fun w => ocontents_any e.s w)
  have HF := Lib.hid h
  obtain ⟨k0, k1, k2, k3⟩ := h
  have hV := nodeE_bools (e := e) (d := d)
  have he2 := nil_of (s := e.s)
  have he3 := empty_of (s := e.s)
  have bd : decide (12 < (d : Int)) = decide (12 < d) := decide_eq_decide.2 (by omega)
  change Hid (∀ w, Calls Tryd.prog 37 #[.string e.s] w fun e' w' => e' = .returned (.bool (nam e.s)) ∧ Below w.heap.size w w') at HI
  obtain ⟨v1, h1⟩ : ∃ v, decide (arity e.op < 0) = v := ⟨_, rfl⟩
  obtain ⟨v2, h2⟩ : ∃ v, (e.n != 0) = v := ⟨_, rfl⟩
  obtain ⟨v3, h3⟩ : ∃ v, (e.op != 1) = v := ⟨_, rfl⟩
  obtain ⟨v4, h4⟩ : ∃ v, decide (e.s.size = 0) = v := ⟨_, rfl⟩
  obtain ⟨v5, h5⟩ : ∃ v, (e.op == 3) = v := ⟨_, rfl⟩
  obtain ⟨v6, h6⟩ : ∃ v, (e.op == 2) = v := ⟨_, rfl⟩
  obtain ⟨v7, h7⟩ : ∃ v, nam e.s = v := ⟨_, rfl⟩
  obtain ⟨v8, h8⟩ : ∃ v, decide (e.n < 0) = v := ⟨_, rfl⟩
  obtain ⟨v9, h9⟩ : ∃ v, plain e.s = v := ⟨_, rfl⟩
  obtain ⟨v10, h10⟩ : ∃ v, ((e.args.length : Int) != arity e.op) = v := ⟨_, rfl⟩
  obtain ⟨v11, h11⟩ : ∃ v, decide (12 < d) = v := ⟨_, rfl⟩
  rw [h4] at he2 he3
  rw [h11] at bd
  rw [h7] at HI
  rw [h9] at HP
  rw [h1, h2, h3, h4, h5, h6, h7, h8, h9, h10, h11] at hV
  have HV := Lib.hid hV
  generalize arity e.op = A at HA h1 h10
  clear hV h4 h7 h9 h11
  go_enter Tryd.func82, Tryd.ntmps82
  go_wp2_with fail
  refine (HA.out _).mono ?_; rintro e' w1 ⟨rfl, rfl⟩
  go_wp2_with fail
  go_quiet (fail)
  all_goals go_wp2_with fail
  all_goals try (first
    | (refine (HI.out _).mono ?_; rintro e' w2 ⟨rfl, hb⟩; have HB := Lib.hid (below_2 (below_dn _ _) hb); obtain ⟨j0, j1, j2, j3⟩ := HF.out.below HB.out; clear hb; go_wp2_with fail)
    | (refine (HP.out _).mono ?_; rintro e' w2 ⟨rfl, hb⟩; have HB := Lib.hid (below_2 (below_dn _ _) hb); obtain ⟨j0, j1, j2, j3⟩ := HF.out.below HB.out; clear hb; go_wp2_with fail))
  all_goals try (refine (HP.out _).mono ?_; rintro e' w3 ⟨rfl, hb⟩; have HB2 := Lib.hid (below_2 HB.out hb); obtain ⟨l0, l1, l2, l3⟩ := HF.out.below HB2.out; clear hb; go_wp2_with fail)
  all_goals (go_ret; refine ⟨ret_int ?_, ?_⟩)
  all_goals first
    | exact below_dn _ _
    | exact HB2.out
    | exact HB.out
    | (rw [HV.out]; clear HV HF HI HP HA k0 k1 k2 k3 h1 h2 h3 h5 h6 h8 h10 bd he2 he3; (try clear HB2); (try clear HB); (try clear j0 j1 j2 j3); (try clear l0 l1 l2 l3); simp_all)
end Go.Proofs.YtkjefigebdbkaaaDoor.A
