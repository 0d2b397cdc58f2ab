/-
  What a round of a range over a function keeps: all that lay below a block, and all cells laid from another block on.
  What the program's functions of layer 12 return: the nodes of an expression, one by one: contracts.
  What the program's functions of layer 12 return: Pure and Reads: contracts.
  What the program's functions of layer 12 return: Pure and Reads: contracts.
  What First of layer 12 leaves as it was: all but one variable; the marks of its loops; how far it has come.
-/
import Derived.RangeFuncNested
import Derived.RangeFuncBound
import Derived.RangeFuncCalls
import Derived.RangeFuncLeaves
import Derived.Test.YtkjefigebdbkaaaGreatDoorTNPlain
import Derived.Test.YtkjefigebdbkaaaGreatDoorN03
import Derived.Shelf.Abstract
import Derived.Shelf.RegionOpen
import Derived.WalkKit
import Derived.OwnWalkIn
import Derived.TacticsInMore
import Derived.LoopNIn
import Derived.LoopIn
import Derived.RangeFuncBox
import Derived.Lib.Hide
import Derived.Test.YtkjefigebdbkaaaGreatDoorN19
namespace Go.Proofs.YtkjefigebdbkaaaGreatDoor.N
open Go.RowKit

structure KC (b : Option Nat) (n₀ B : Nat) (W W' : World) : Prop where
  size : W.heap.size ≤ W'.heap.size
  low : ∀ k, k < n₀ → some k ≠ b → W'.heap[k]? = W.heap[k]?
  keep : ∀ (k : Nat) (o : Obj), B ≤ k → W.heap[k]? = some o → o.isCells = true → W'.heap[k]? = some o
theorem KC.refl (b : Option Nat) (n₀ B : Nat) (W : World) : KC b n₀ B W W := ⟨Nat.le_refl _, fun _ _ _ => rfl, fun _ _ _ h _ => h⟩
theorem KC.trans {b : Option Nat} {n₀ B : Nat} {W W' W'' : World} (h : KC b n₀ B W W') (h2 : KC b n₀ B W' W'') : KC b n₀ B W W'' :=
  ⟨Nat.le_trans h.size h2.size, fun k hk hb => (h2.low k hk hb).trans (h.low k hk hb), fun k o hB hk ho => h2.keep k o hB (h.keep k o hB hk ho) ho⟩
theorem KC.putObj {b : Option Nat} {n₀ B : Nat} {w : World} (hn : n₀ ≤ w.heap.size) (W : World) (l : Nat) (o o' : Obj) (hl : w.heap.size ≤ l) (h : W.heap[l]? = some o) (ho : o.isCells = false) (_ : o.isWalk = false) : KC b n₀ B W (W.putObj l o') :=
  ⟨by simp [World.putObj], fun k hk _ => World.putObj_heap_other (by omega), fun k x _ hk hx => by
    by_cases e : k = l
    · subst e; rw [h] at hk; cases hk; rw [ho] at hx; cases hx
    · exact (World.putObj_heap_other e).trans hk⟩
theorem KC.alloc {b : Option Nat} {n₀ B : Nat} (W : World) (hn : n₀ ≤ W.heap.size) (o : Obj) : KC b n₀ B W (W.alloc o) :=
  ⟨by simp, fun k hk _ => Below.heap_alloc W o k (by omega), fun k _ _ hk _ => (Below.heap_alloc W o k (Array.getElem?_eq_some_iff.1 hk).1).trans hk⟩
theorem KC.of_below {b : Option Nat} {n₀ B : Nat} {W W' : World} (hn : n₀ ≤ W.heap.size) (h : Below W.heap.size W W') : KC b n₀ B W W' :=
  ⟨h.size, fun k hk _ => h.block k (by omega), fun k _ _ hk _ => (h.block k (Array.getElem?_eq_some_iff.1 hk).1).trans hk⟩
theorem KC.setCell {n₀ B : Nat} (W : World) {b o : Nat} (hB : b < B) (v : Value) : KC (some b) n₀ B W (W.setCell ⟨b, o, none⟩ v) :=
  ⟨by simp [World.setCell], fun k _ hb => Below.heap_setCell W ⟨b, o, none⟩ v k (fun e => hb (by rw [e])), fun k _ hk h _ => (Below.heap_setCell W ⟨b, o, none⟩ v k (by show k ≠ b; omega)).trans h⟩
def OneBox (b : Option Nat) (W : World) : Prop := ∀ g, b = some g → ∃ v t, W.heap[g]? = some (.cells #[v] t)
theorem kc_cell {b : Option Nat} {n B : Nat} {W W' : World} (hb : OneBox b W) (h : KC b n B W W') {g i : Nat} {u : Value} (hu : W.cell? ⟨g, i + 1, none⟩ = some u) (hg : g < n) (i' : Nat) : W'.cell? ⟨g, i', none⟩ = W.cell? ⟨g, i', none⟩ := by
  refine World.cell?_of_block (w := W) (h.low g hg (fun e => ?_))
  obtain ⟨v, t, h2⟩ := hb g e.symm
  simp [World.cell?, h2] at hu
mutual
theorem exAt_kc {b : Option Nat} {B : Nat} {W W' : World} (hb : OneBox b W) (h : KC b W.heap.size B W W') : ∀ (e : A.Ex) {g i : Nat}, A.ExAt W e g i → A.ExAt W' e g i
  | .mk o n s l, g, i, he => by
    have hlt := he.lt
    rw [A.ExAt] at he ⊢
    obtain ⟨h0, h1, h2, a, c, h3, h4⟩ := he
    have hx := kc_cell hb h h1 hlt
    refine ⟨(hx _).trans h0, (hx _).trans h1, (hx _).trans h2, a, c, (hx _).trans h3, ?_⟩
    rcases h4 with h4 | ⟨b2, i2, ha, h5⟩
    · exact Or.inl h4
    · exact Or.inr ⟨b2, i2, ha, exsAt_kc hb h l h5⟩
theorem exsAt_kc {b : Option Nat} {B : Nat} {W W' : World} (hb : OneBox b W) (h : KC b W.heap.size B W W') : ∀ (l : List A.Ex) {g i : Nat}, A.ExsAt W l g i → A.ExsAt W' l g i
  | [], _, _, _ => by rw [A.ExsAt]; trivial
  | e :: r, g, i, he => by
    rw [A.ExsAt] at he ⊢
    exact ⟨exAt_kc hb h e he.1, exsAt_kc hb h r he.2⟩
end
theorem kids_kc {b : Option Nat} {B : Nat} {W W' : World} (hb : OneBox b W) (h : KC b W.heap.size B W W') {a : Option Addr} {l : List A.Ex} (hk : A.Kids W a l) : A.Kids W' a l := by
  rcases hk with hk | ⟨g, i, ha, hk⟩
  · exact Or.inl hk
  · exact Or.inr ⟨g, i, ha, exsAt_kc hb h l hk⟩
end Go.Proofs.YtkjefigebdbkaaaGreatDoor.N
namespace Go.Proofs.YtkjefigebdbkaaaGreatDoor.N
open Go.RowKit Go.Shelf
open A (Ex exV exO okE)
attribute [local go_sem] Oper.semAt_some

theorem exV_mk' (o n : Int) (s : ByteArray) (l : List Ex) (a : Option Addr) (c : Nat) : exV (.mk o n s l) a c = .agg #[.int .i64 o, .int .i64 n, .string s, .slice a l.length c] := rfl
theorem room_of_none {F : Fence} (hd : F.depth = none) (k : Nat) : F.room k := fun d h => by rw [hd] at h; cases h
theorem round_depth {F : Fence} (hd : F.depth = none) {m m' : Nat} {P : Program} {l : Nat} {f : FuncId} {tmps : Array Value} {assign body : Code} {w : World} {R : Ending → World → Prop}
    (h : RoundIn F m P l f tmps assign body w R) : RoundIn F m' P l f tmps assign body w R := ⟨h.1, fun c cs _ => h.2 c cs (room_of_none hd _)⟩
theorem yield_depth {F : Fence} (hd : F.depth = none) {m : Nat} (m' : Nat) {P : Program} {l : Nat} {args : Array Value} {W : World} {R : Ending → World → Prop} (h : YieldAt F m P l args W R) : YieldAt F m' P l args W R := by
  obtain ⟨fn, tmps, assign, body, hy, hR⟩ := h
  exact ⟨fn, tmps, assign, body, hy, round_depth hd hR⟩
structure Nd where
  e : Ex
  a : Option Addr
  c : Nat
def Nd.v (x : Nd) : Value := exV x.e x.a x.c
def Nd.op (x : Nd) : Int := x.e.op
def Visited (e : Ex) (pre : List Nd) (J Jx : List Nd → World → Prop) (b : Option Nat) (n₀ B : Nat) (W : World) (e' : Ending) (W' : World) : Prop :=
  (e' = .returned (.bool true) ∧ (∃ xs, xs.map Nd.op = ops e ∧ J (pre ++ xs) W') ∧ KC b n₀ B W W') ∨ (e' = .returned (.bool false) ∧ ∃ xs, xs.map Nd.op <+: ops e ∧ Jx (pre ++ xs) W')
def QV (F : Fence) (b : Option Nat) (l B N : Nat) (J Jx : List Nd → World → Prop) (w0 : World) (e : Ex) : Prop := ∀ (n : Nat) (pre : List Nd) (a : Option Addr) (c : Nat) (W : World), okE e → A.Kids w0 a e.args → KC b w0.heap.size B w0 W → B ≤ W.heap.size → J pre W → pre.length + (ops e).length ≤ N →
  CallsIn F n Tryz.prog 46 #[exV e a c, .func (.yield l) #[] #[]] W (Visited e pre J Jx b w0.heap.size B W)
theorem take_flat {l : List Ex} {k : Nat} (hk : k < l.length) : (l.take (k + 1)).flatMap ops = (l.take k).flatMap ops ++ ops l[k] := by
  rw [List.take_succ_eq_append_getElem hk, List.flatMap_append]
  simp
theorem take_pre (l : List Ex) (k : Nat) : (l.take k).flatMap ops <+: l.flatMap ops := by
  conv => rhs; rw [← List.take_append_drop k l]
  rw [List.flatMap_append]
  exact List.prefix_append _ _
set_option maxHeartbeats 8000000 in
set_option maxRecDepth 100000 in
theorem visit_in (F : Fence) (hd : F.depth = none) (hv : F.fn 46) (hro : F.round = none) (b : Option Nat) (l B N : Nat) (J Jx : List Nd → World → Prop) (w0 : World) (hbx : OneBox b w0)
    (hJa : ∀ s W o, J s W → J s (W.alloc o))
    (hY : ∀ m pre x W, J pre W → pre.length < N → YieldAt F m Tryz.prog l #[Nd.v x] W fun e W' => (e = .returned (.bool true) ∧ J (pre ++ [x]) W' ∧ KC b w0.heap.size B W W') ∨ (e = .returned (.bool false) ∧ Jx (pre ++ [x]) W')) :
    ∀ e, QV F b l B N J Jx w0 e := by
  refine A.Ex.ind (P := QV F b l B N J Jx w0) ?_
  intro o m s t ih n pre a c W hok hK hb0 hB hJ hN
  have hK' : A.Kids w0 a t := hK
  have hn0 : w0.heap.size ≤ W.heap.size := hb0.size
  have hok' : ∀ x ∈ t, okE x := by
    rw [okE] at hok
    exact fun x hx => by
      obtain ⟨j, hj, rfl⟩ := List.getElem_of_mem hx
      exact A.okEs.get hok.2.2.2.2 j hj
  have hll : t.length ≤ 1000000000000000 := by rw [okE] at hok; exact hok.2.2.2.1
  have hops : ops (.mk o m s t) = o :: t.flatMap ops := ops_mk o m s t
  have hdd : ∀ k : Nat, (F.depth.isSome = true → 1 ≤ k) := fun k h => by rw [hd] at h; cases h
  obtain ⟨W1, hW1⟩ : ∃ W1, W.alloc (.cells #[.int .i64 o, .int .i64 m, .string s, .slice a t.length c] 41) = W1 := ⟨_, rfl⟩
  have hk1 : KC b w0.heap.size B W W1 := by rw [← hW1]; exact KC.alloc W hn0 _
  have hJ1 : J pre W1 := by rw [← hW1]; exact hJa _ _ _ hJ
  have hsz1 : W1.heap.size = W.heap.size + 1 := by rw [← hW1]; simp
  have hbl : W1.heap[W.heap.size]? = some (.cells #[.int .i64 o, .int .i64 m, .string s, .slice a t.length c] 41) := by rw [← hW1]; exact World.alloc_heap_new W _
  have hpl : pre.length < N := by rw [hops] at hN; simp only [List.length_cons] at hN; omega
  obtain ⟨fn, tmps, assign, body, hy, hR⟩ := hY (n - 1) pre ⟨.mk o m s t, a, c⟩ W1 hJ1 hpl
  have hR2 : RoundIn F (n - 1) Tryz.prog l fn tmps assign body W1 fun e W2 => (e = .returned (.bool true) ∧ J (pre ++ [⟨.mk o m s t, a, c⟩]) W2 ∧ KC b w0.heap.size B W1 W2 ∧ W2.cell? ⟨W.heap.size, 3, none⟩ = some (.slice a t.length c)) ∨ (e = .returned (.bool false) ∧ Jx (pre ++ [⟨.mk o m s t, a, c⟩]) W2) := by
    refine hR.mono fun e W2 h => h.elim (fun ⟨h1, h2, h3⟩ => Or.inl ⟨h1, h2, h3, ?_⟩) Or.inr
    have hk := h3.keep W.heap.size _ hB hbl rfl
    simp [World.cell?, hk]
  simp only [Nd.v, exV_mk'] at hy
  simp only [exV_mk']
  refine callsIn_of_wp Tryz.func46 rfl hv ?_ hro
  simp only [Tryz.ntmps46, List.size_toArray, List.length_cons, List.length_nil, Nat.reduceAdd, Nat.reduceSub, Array.replicate_succ, Array.replicate_zero, List.push_toArray, List.append_toArray, List.nil_append, List.cons_append]
  have x0 : W1.cell? ⟨W.heap.size, 0, none⟩ = some (.int .i64 o) := by simp [World.cell?, hbl]
  have x1 : W1.cell? ⟨W.heap.size, 1, none⟩ = some (.int .i64 m) := by simp [World.cell?, hbl]
  have x2 : W1.cell? ⟨W.heap.size, 2, none⟩ = some (.string s) := by simp [World.cell?, hbl]
  have x3 : W1.cell? ⟨W.heap.size, 3, none⟩ = some (.slice a t.length c) := by simp [World.cell?, hbl]
  rw [← hW1] at hy x0 x1 x2 x3
  have HW1 := Lib.hid hW1
  have hbs : KC b w0.heap.size B w0 W1 := hb0.trans hk1
  rw [← hW1] at hR2
  have HR2 := Lib.hid hR2
  have HK1 := Lib.hid hk1
  have HKid := Lib.hid hK'
  have HBs := Lib.hid hbs
  have HOPS := Lib.hid hops
  have HZ1 := Lib.hid hsz1
  have HBB := Lib.hid hB
  have HN := Lib.hid hN
  have HIH : Hid (∀ (k : Nat) (h : k < t.length) (pre2 : List Nd) (a2 : Option Addr) (c2 : Nat) (W3 : World), A.Kids w0 a2 t[k].args → KC b w0.heap.size B w0 W3 → B ≤ W3.heap.size → J pre2 W3 → pre2.length + (ops t[k]).length ≤ N →
      CallsIn F (n - 1) Tryz.prog 46 #[exV t[k] a2 c2, .func (.yield l) #[] #[]] W3 (Visited t[k] pre2 J Jx b w0.heap.size B W3)) := fun k h pre2 a2 c2 W3 h1 h2 h3 h4 h5 => ih k h (n - 1) pre2 a2 c2 W3 (hok' _ (List.getElem_mem h)) h1 h2 h3 h4 h5
  obtain ⟨nd, hnd⟩ : ∃ nd : Nd, nd = ⟨.mk o m s t, a, c⟩ := ⟨_, rfl⟩
  have HND : Hid (nd.op = o) := by rw [hnd]; rfl
  rw [← hnd] at HR2
  have HJA := Lib.hid hJa
  obtain ⟨g, hg⟩ : ∃ g, t.length = g := ⟨_, rfl⟩
  have HL := Lib.hid hg
  rw [hg] at hy HR2 HW1 x0 x1 x2 x3 hll ⊢
  have HT0 : Hid ((t.take 0).flatMap ops = []) := rfl
  clear hR hR2 hW1 hbl hJ1 hJ hY hok hok' hK hb0 hN hk1 hbs hops hg hK' ih hJa hsz1 hB hpl hnd
  gi_wp2
  refine HR2.out.mono ?_
  clear HR2 hy
  rintro e2 W2 (⟨rfl, hJ2, hk2, y3⟩ | ⟨rfl, hJx2⟩)
  · have HJ2 : Hid (J (pre ++ [nd]) W2) := hJ2
    rw [HW1.out] at hk2
    have HK2 := Lib.hid hk2
    clear hJ2 hk2 x0 x1 x2 x3
    gi_wp2
    gi_loopw [14] (fun s14 wr => ∃ (k : Nat) (xs : List Nd), k ≤ g ∧ s14 = .int .i64 k ∧ Hid (xs.map Nd.op = (t.take k).flatMap ops) ∧ Hid (J (pre ++ nd :: xs) wr) ∧ Hid (KC b w0.heap.size B W2 wr)) (fun s14 _ => g - (intOf s14).toNat)
    case atStart => exact ⟨0, [], Nat.zero_le _, rfl, rfl, HJ2, KC.refl _ _ _ _⟩
    case round =>
      obtain ⟨k, xs, hk, rfl, HX, HJr, HKr⟩ := hrel
      by_cases hlt : k < g
      · have hlx : k < t.length := by rw [HL.out]; exact hlt
        have HBr := Lib.hid ((HBs.out.trans HK2.out).trans HKr.out)
        obtain ⟨b2, i2, rfl, hat⟩ := (kids_kc hbx HBr.out HKid.out).open hlx
        obtain ⟨_, _, ha, hat0⟩ := HKid.out.open hlx
        cases ha
        obtain ⟨d0, d1, d2, a2, cc, d3, hk2⟩ := hat.open
        obtain ⟨-, d1', -, a3, c3, d3', hk3⟩ := hat0.open
        have hsame := (kc_cell hbx HBr.out d1' hat0.lt (i2 + k * 4 + 3)).trans d3'
        rw [d3] at hsame
        injection hsame with hsame
        injection hsame with hs1 hs2 hs3
        subst hs1 hs3
        have hlen : pre.length + 1 + xs.length + (ops t[k]).length ≤ N := by
          have h1 := HN.out
          rw [HOPS.out] at h1
          have h2 := congrArg List.length HX.out
          rw [List.length_map] at h2
          have h3 := take_flat hlx
          have h4 := (take_pre t (k + 1)).length_le
          rw [h3, List.length_append] at h4
          simp only [List.length_cons] at h1
          omega
        have HC := Lib.hid (fun (W3 : World) (o3 : Obj) (e3 : W3 = wr.alloc o3) => HIH.out k hlx (pre ++ nd :: xs) a2 cc W3 hk3 (by rw [e3]; exact HBr.out.trans (KC.alloc wr HBr.out.size o3)) (by rw [e3]; have h1 := HBB.out; have h2 := HK1.out.size; have h3 := HK2.out.size; have h4 := HKr.out.size; simp; omega) (by rw [e3]; exact HJA.out _ _ _ HJr.out) (by rw [List.length_append, List.length_cons]; omega))
        have HX2 : Hid (∀ ys : List Nd, ys.map Nd.op = ops t[k] → (xs ++ ys).map Nd.op = (t.take (k + 1)).flatMap ops) := by
          intro ys hys
          rw [List.map_append, HX.out, hys, take_flat hlx]
        have HX3 : Hid (∀ ys : List Nd, ys.map Nd.op <+: ops t[k] → (nd :: (xs ++ ys)).map Nd.op <+: o :: t.flatMap ops) := by
          intro ys hys
          rw [List.map_cons, HND.out, List.map_append, HX.out]
          refine List.prefix_cons_inj _ |>.2 (((List.prefix_append_right_inj _).2 hys).trans ?_)
          rw [← take_flat hlx]
          exact take_pre _ _
        clear hat hat0 hk2 hk3 d1' d3' hlen
        unfold exV at HC
        generalize t[k].args.length = m2 at d3 HC
        generalize t[k].op = o2 at d0 HC
        generalize t[k].n = n2 at d1 HC
        generalize t[k].s = s2 at d2 HC
        generalize t[k] = ek at HC HX2 HX3
        gi_wp2_with ((try refine ⟨hdd _, ?_⟩); gi_at_call 46; refine (HC.out _ _ rfl).mono ?_; clear HC; rintro e3 W3 (⟨rfl, ⟨ys, hys, hJ3⟩, hk3⟩ | ⟨rfl, ys, hys, hJx3⟩))
        · go_roundw
          case rel => exact ⟨k + 1, xs ++ ys, by omega, by go_num, HX2.out ys hys, by rw [← List.cons_append, ← List.append_assoc]; exact hJ3, HKr.out.trans ((KC.alloc wr HBr.out.size _).trans hk3)⟩
          case measure => simp [intOf]; omega
        · go_ret
          refine Or.inr ⟨rfl, nd :: (xs ++ ys), ?_, ?_⟩
          · rw [HOPS.out]; exact HX3.out ys hys
          · rw [← List.cons_append, ← List.append_assoc]; exact hJx3
      · have hx := HX.out
        rw [List.take_of_length_le (by have := HL.out; omega)] at hx
        have HV : Hid (Visited (.mk o m s t) pre J Jx b w0.heap.size B W (.returned (.bool true)) wr) := by
          refine Or.inl ⟨rfl, ⟨nd :: xs, ?_, HJr.out⟩, HK1.out.trans (HK2.out.trans HKr.out)⟩
          rw [HOPS.out, List.map_cons, HND.out, hx]
        clear hx
        gi_wp2
        go_ret
        exact HV.out
  · have HV : Hid (Visited (.mk o m s t) pre J Jx b w0.heap.size B W (.returned (.bool false)) W2) := by
      refine Or.inr ⟨rfl, [nd], ?_, hJx2⟩
      rw [HOPS.out, List.map_cons, HND.out]
      exact List.prefix_cons_inj _ |>.2 (List.nil_prefix)
    clear hJx2
    gi_wp2
    go_ret
    exact HV.out
theorem nodes_stops (b : Option Nat) (F : Fence) (hd : F.depth = none) (n : Nat) (hv : F.fn 46) (h86 : F.fn 45) (hro : F.round = none) (Bt : Nat) (e : Ex) (a : Option Addr) (c : Nat) (w : World) (hok : okE e) (hbl : w.heap[Bt]? = some (exO e a c)) (hK : A.Kids w a e.args) (hbx : OneBox b w) :
    SeqStopsK F n Tryz.prog 45 #[.pointer (some ⟨Bt, 0, none⟩)] (fun x : Nd => #[x.v]) (KC b w.heap.size w.heap.size) (fun xs => xs.map Nd.op = ops e) (fun xs => xs.map Nd.op <+: ops e) (ops e).length w := by
  intro l J Jx W hW hJa hJxa hY h0
  have hlt : Bt < w.heap.size := (Array.getElem?_eq_some_iff.1 hbl).1
  have hbW : W.heap[Bt]? = some (exO e a c) := (hW.block Bt hlt).trans hbl
  have hJal : ∀ s W o, J s W → J s (W.alloc o) := fun s X o h => hJa s X _ none h (World.grownBy_alloc X o none) (fun r e => by cases e)
  have hp := visit_in F hd hv hro b l w.heap.size (ops e).length J Jx w hbx hJal (fun m pre x X hj hl => yield_depth hd m (hY pre x X hj hl)) e (n - 1) [] a c W hok hK (KC.of_below (Nat.le_refl _) hW) hW.size h0 (by simp)
  have hdd : ∀ k : Nat, (F.depth.isSome = true → 1 ≤ k) := fun k h => by rw [hd] at h; cases h
  have x0 : W.cell? ⟨Bt, 0, none⟩ = some (.int .i64 e.op) := by simp [World.cell?, hbW, exO]
  have x1 : W.cell? ⟨Bt, 1, none⟩ = some (.int .i64 e.n) := by simp [World.cell?, hbW, exO]
  have x2 : W.cell? ⟨Bt, 2, none⟩ = some (.string e.s) := by simp [World.cell?, hbW, exO]
  have x3 : W.cell? ⟨Bt, 3, none⟩ = some (.slice a e.args.length c) := by simp [World.cell?, hbW, exO]
  have HP := Lib.hid hp
  have HR : Hid (∀ e' W', Visited e [] J Jx b w.heap.size w.heap.size W e' W' → (∃ v, e' = .returned v) ∧ ((∃ xs, xs.map Nd.op = ops e ∧ J xs W') ∨ (∃ pre, pre.map Nd.op <+: ops e ∧ Jx pre W'))) := by
    rintro e' W' (⟨rfl, ⟨ys, hys, hJ3⟩, hk3⟩ | ⟨rfl, ys, hys, hJx3⟩)
    · exact ⟨⟨_, rfl⟩, Or.inl ⟨ys, hys, by simpa using hJ3⟩⟩
    · exact ⟨⟨_, rfl⟩, Or.inr ⟨ys, hys, by simpa using hJx3⟩⟩
  unfold exV at HP
  generalize e.args.length = m2 at x3 HP
  generalize e.op = o2 at x0 HP
  generalize e.n = n2 at x1 HP
  generalize e.s = s2 at x2 HP
  clear hp hbW hbl hJal hY h0 hJa hJxa hW hK hok
  refine callsIn_of_wp Tryz.func45 rfl h86 ?_ hro
  simp only [Tryz.ntmps45, List.size_toArray, List.length_cons, List.length_nil, Nat.reduceAdd, Nat.reduceSub, Array.replicate_succ, Array.replicate_zero, List.push_toArray, List.append_toArray, List.nil_append, List.cons_append]
  gi_wp2_with ((try refine ⟨hdd _, ?_⟩); gi_at_call 46; refine HP.out.mono ?_; intro e3 W3 h3; have HV := Lib.hid (HR.out _ _ h3); rcases h3 with ⟨rfl, -, -⟩ | ⟨rfl, -⟩)
  all_goals
    go_end0
    exact ⟨⟨_, rfl⟩, HV.out.2⟩
end Go.Proofs.YtkjefigebdbkaaaGreatDoor.N
namespace Go.Proofs.YtkjefigebdbkaaaGreatDoor.N
open Go.RowKit Go.Shelf
open A (Ex exV exO okE)
open L (below_2 below_box ret_bool)
attribute [local go_sem] Oper.semAt_some

set_option maxHeartbeats 1000000 in
theorem oisN_any (o : Int) (w : World) : Calls Tryz.prog 20 #[.int .i64 o] w fun e w' => e = .returned (.bool (isN o)) ∧ w = w' := by
  obtain ⟨R, hR⟩ : ∃ R, isN o = R := ⟨_, rfl⟩
  rw [hR]
  unfold isN at hR
  have HR := Lib.hid hR
  clear hR
  by_cases h1 : o = 25
  · subst h1
    have HV : Hid (true = R) := by show _ = _; rw [← HR.out]; rfl
    go_enter Tryz.func20, Tryz.ntmps20
    go_wp2_with fail
    go_ret
    exact ⟨ret_bool HV.out, rfl⟩
  have b1 : (o == 25) = false := beq_eq_false_iff_ne.2 h1
  by_cases h2 : o = 26
  · subst h2
    have HV : Hid (true = R) := by show _ = _; rw [← HR.out]; rfl
    clear h1 b1
    go_enter Tryz.func20, Tryz.ntmps20
    go_wp2_with fail
    go_ret
    exact ⟨ret_bool HV.out, rfl⟩
  have b2 : (o == 26) = false := beq_eq_false_iff_ne.2 h2
  have HV : Hid (decide (o = 27) = R) := by show _ = _; rw [← HR.out, decide_eq_false h1, decide_eq_false h2]; rfl
  by_cases h3 : o = 27
  · subst h3
    clear h1 h2 b1 b2
    go_enter Tryz.func20, Tryz.ntmps20
    go_wp2_with fail
    go_ret
    exact ⟨ret_bool HV.out, rfl⟩
  have b3 : (o == 27) = false := beq_eq_false_iff_ne.2 h3
  have HV2 : Hid (false = R) := by show _ = _; rw [← HV.out, decide_eq_false h3]
  clear h1 h2 h3
  go_enter Tryz.func20, Tryz.ntmps20
  go_wp2_with fail
  go_ret
  exact ⟨ret_bool HV2.out, rfl⟩
set_option maxHeartbeats 1000000 in
theorem oisR_any (o : Int) (w : World) : Calls Tryz.prog 55 #[.int .i64 o] w fun e w' => e = .returned (.bool (isR o)) ∧ w = w' := by
  obtain ⟨R, hR⟩ : ∃ R, isR o = R := ⟨_, rfl⟩
  rw [hR]
  unfold isR at hR
  have HR := Lib.hid hR
  clear hR
  by_cases h1 : o = 22
  · subst h1
    have HV : Hid (true = R) := by show _ = _; rw [← HR.out]; rfl
    go_enter Tryz.func55, Tryz.ntmps55
    go_wp2_with fail
    go_ret
    exact ⟨ret_bool HV.out, rfl⟩
  have b1 : (o == 22) = false := beq_eq_false_iff_ne.2 h1
  by_cases h2 : o = 23
  · subst h2
    have HV : Hid (true = R) := by show _ = _; rw [← HR.out]; rfl
    clear h1 b1
    go_enter Tryz.func55, Tryz.ntmps55
    go_wp2_with fail
    go_ret
    exact ⟨ret_bool HV.out, rfl⟩
  have b2 : (o == 23) = false := beq_eq_false_iff_ne.2 h2
  have HV : Hid (decide (o = 24) = R) := by show _ = _; rw [← HR.out, decide_eq_false h1, decide_eq_false h2]; rfl
  by_cases h3 : o = 24
  · subst h3
    clear h1 h2 b1 b2
    go_enter Tryz.func55, Tryz.ntmps55
    go_wp2_with fail
    go_ret
    exact ⟨ret_bool HV.out, rfl⟩
  have b3 : (o == 24) = false := beq_eq_false_iff_ne.2 h3
  have HV2 : Hid (false = R) := by show _ = _; rw [← HV.out, decide_eq_false h3]
  clear h1 h2 h3
  go_enter Tryz.func55, Tryz.ntmps55
  go_wp2_with fail
  go_ret
  exact ⟨ret_bool HV2.out, rfl⟩
set_option maxHeartbeats 1000000 in
theorem onodes_any (e : Ex) (a : Option Addr) (c : Nat) (w : World) : Calls Tryz.prog 19 #[exV e a c] w fun e' w' => e' = .returned (.func (.func 45) #[] #[.pointer (some ⟨w.heap.size, 0, none⟩)]) ∧ w' = w.alloc (exO e a c) := by
  unfold exV exO
  go_enter Tryz.func19, Tryz.ntmps19
  go_wp2_with fail
  go_ret
  exact ⟨rfl, rfl⟩
end Go.Proofs.YtkjefigebdbkaaaGreatDoor.N
namespace Go.Proofs.YtkjefigebdbkaaaGreatDoor.N
open Go.RowKit Go.Shelf
open A (Ex exV exO okE)
open L (below_2 below_box ret_bool)
attribute [local go_sem] Oper.semAt_some

theorem own_cells {β : Type} {B k : Nat} {o : β → Obj} (ho : ∀ s, (o s).isCells = true) : OwnFrom B (fun (s : β) (W : World) => W.heap[k]? = some (o s)) := fun s X Y row hs hg hr => by
  refine (hg.block k (Array.getElem?_eq_some_iff.1 hs).1 (fun e => ?_)).trans hs
  obtain ⟨-, o2, h2, h3⟩ := hr k e.symm
  rw [hs] at h2
  cases h2
  rw [ho s] at h3
  cases h3
theorem own_size {β : Type} {B m : Nat} : OwnFrom B (fun (_ : β) (W : World) => m ≤ W.heap.size) := fun _ _ _ _ hs hg _ => Nat.le_trans hs hg.size
theorem cell_blk {W : World} {k : Nat} {cs : Array Value} {t : TypeId} (h : W.heap[k]? = some (.cells cs t)) (i : Nat) : W.cell? ⟨k, i, none⟩ = cs[i]? := by simp [World.cell?, h]
theorem set_blk {W : World} {k : Nat} {v u : Value} {t : TypeId} (h : W.heap[k]? = some (.cells #[v] t)) : (W.setCell ⟨k, 0, none⟩ u).heap[k]? = some (.cells #[u] t) := Boxed.set u h

set_option maxHeartbeats 8000000 in
set_option maxRecDepth 100000 in
theorem oPure_any (e : Ex) (a : Option Addr) (c : Nat) (hok : okE e) (w : World) (hK : A.Kids w a e.args) :
    Calls Tryz.prog 27 #[exV e a c] w fun e' w' => e' = .returned (.bool (pureE e)) ∧ Below w.heap.size w w' := by
  refine (callsIn_wide (n := 9)).1 ?_
  refine callsIn_of_wp_marks Tryz.func27 rfl trivial ?_ rfl
  simp only [Tryz.ntmps27, List.size_toArray, List.length_cons, List.length_nil, Nat.reduceAdd, Nat.reduceSub, Array.replicate_succ, Array.replicate_zero, List.push_toArray, List.append_toArray, List.nil_append, List.cons_append]
  have HN := Lib.hid (fun (w' : World) => onodes_any e a c w')
  unfold exV at HN ⊢
  unfold exO at HN
  gi_wp2_with ((refine ⟨trivial, ?_⟩; gi_at_call 19; refine (callsIn_wide.2 (HN.out _)).mono ?_; rintro e' w' ⟨rfl, rfl⟩))
  have hb1 := below_box w (.cells #[.int .i64 e.op, .int .i64 e.n, .string e.s, .slice a e.args.length c] 41)
  have hb2 := below_box (w.alloc (.cells #[.int .i64 e.op, .int .i64 e.n, .string e.s, .slice a e.args.length c] 41)) (.cells #[.bool false] 4)
  have hb3 := below_box ((w.alloc (.cells #[.int .i64 e.op, .int .i64 e.n, .string e.s, .slice a e.args.length c] 41)).alloc (.cells #[.bool false] 4)) (.cells #[.int .i64 e.op, .int .i64 e.n, .string e.s, .slice a e.args.length c] 41)
  have s1 : (w.alloc (.cells #[.int .i64 e.op, .int .i64 e.n, .string e.s, .slice a e.args.length c] 41)).heap.size = w.heap.size + 1 := by simp
  have s2 : ((w.alloc (.cells #[.int .i64 e.op, .int .i64 e.n, .string e.s, .slice a e.args.length c] 41)).alloc (.cells #[.bool false] 4)).heap.size = w.heap.size + 1 + 1 := by simp
  have c2 := World.alloc_heap_new (w.alloc (.cells #[.int .i64 e.op, .int .i64 e.n, .string e.s, .slice a e.args.length c] 41)) (.cells #[.bool false] 4)
  rw [s1] at c2
  have c3 := World.alloc_heap_new ((w.alloc (.cells #[.int .i64 e.op, .int .i64 e.n, .string e.s, .slice a e.args.length c] 41)).alloc (.cells #[.bool false] 4)) (.cells #[.int .i64 e.op, .int .i64 e.n, .string e.s, .slice a e.args.length c] 41)
  rw [s2] at c3
  have hbb := below_2 (below_2 hb1 hb2) hb3
  obtain ⟨W0, hW0⟩ : ∃ W0, ((w.alloc (.cells #[.int .i64 e.op, .int .i64 e.n, .string e.s, .slice a e.args.length c] 41)).alloc (.cells #[.bool false] 4)).alloc (.cells #[.int .i64 e.op, .int .i64 e.n, .string e.s, .slice a e.args.length c] 41) = W0 := ⟨_, rfl⟩
  have s3 : W0.heap.size = w.heap.size + 3 := by rw [← hW0]; simp
  have c2' : W0.heap[w.heap.size + 1]? = some (.cells #[.bool false] 4) := by rw [← hW0]; exact (hb3.block _ (by rw [s2]; omega)).trans c2
  rw [hW0] at c3 hbb ⊢
  have HK0 := Lib.hid (hK.below hbb)
  have HBB := Lib.hid hbb
  have HC2 := Lib.hid c2'
  have HC3 : Hid (W0.heap[w.heap.size + 2]? = some (exO e a c)) := c3
  have HS3 := Lib.hid s3
  have HOK := Lib.hid hok
  have hle : W0.heap.size = w.heap.size + 3 := s3
  clear hb1 hb2 hb3 s1 s2 c2 c3 c2' hbb hW0 s3 HN hK hok
  generalize hEX : (Value.agg #[.int .i64 e.op, .int .i64 e.n, .string e.s, .slice a e.args.length c]) = EX
  clear hEX
  refine wpIn_rangeFunc_ownH (F := Fence.wide) (n := 9) rfl (by decide) (gf := 45) (lb := #[.pointer (some ⟨w.heap.size + 2, 0, none⟩)]) rfl trivial (enters_of Tryz.func45 (by kernel_rfl) rfl)
    (nodes_stops none Fence.wide rfl 8 trivial trivial rfl (w.heap.size + 2) e a c W0 HOK.out HC3.out HK0.out (fun _ h => by cases h)) (fun h k => h.trans k) (KC.putObj (Nat.le_refl _)) (Below.refl _ _) (fun _ => rfl)
    (fun pre W => ((W.heap[w.heap.size + 1]? = some (.cells #[.bool false] 4) ∧ (∀ x ∈ pre, (isN x.op || isR x.op) = false)) ∧ W0.heap.size ≤ W.heap.size) ∧ Below w.heap.size w W)
    (fun c pre W => (c = .ret ∧ W.heap[w.heap.size + 1]? = some (.cells #[.bool false] 4) ∧ ∃ x ∈ pre, (isN x.op || isR x.op) = true) ∧ Below w.heap.size w W)
    (OwnFrom.and (OwnFrom.and (OwnFrom.and (own_cells fun _ => rfl) (ownFrom_pure _ _)) own_size) (ownFrom_below (Nat.le_refl _) (by omega)))
    (fun c => OwnFrom.and (OwnFrom.and (ownFrom_pure _ (fun _ => c = Code.ret)) (OwnFrom.and (own_cells fun _ => rfl) (ownFrom_pure _ _))) (ownFrom_below (Nat.le_refl _) (by omega)))
    ⟨⟨⟨HC2.out, fun x hx => absurd hx List.not_mem_nil⟩, Nat.le_refl _⟩, HBB.out⟩
    (fun x a' W => ∃ Bx, W.heap[Bx]? = some (exO x.e x.a x.c) ∧ a' = { tmps := #[EX, .pointer (some ⟨w.heap.size, 0, none⟩), .pointer (some ⟨w.heap.size + 1, 0, none⟩), .pointer (some ⟨Bx, 0, none⟩), EX, .func (.func 45) #[] #[.pointer (some ⟨w.heap.size + 2, 0, none⟩)], x.v, undef, undef, undef, undef, undef, undef, undef, undef], defers := [] })
    (fun x a' s X Y row ⟨Bx, h1, h2⟩ hg hr => ⟨Bx, own_cells (k := Bx) (o := fun (_ : Unit) => exO x.e x.a x.c) (fun _ => rfl) () X Y row h1 hg hr, h2⟩) ?assign ?body ?done ?stop
  case assign =>
    rintro l pre x W K ⟨⟨⟨hc, hp⟩, hz⟩, hB⟩ hKK
    have HKK := Lib.hid hKK
    have HX : Hid (∀ Y, W.alloc (exO x.e x.a x.c) = Y → KeepsFrom W0.heap.size W Y ∧ KC none W0.heap.size W0.heap.size W Y ∧ (((Y.heap[w.heap.size + 1]? = some (.cells #[.bool false] 4) ∧ (∀ x ∈ pre, (isN x.op || isR x.op) = false)) ∧ W0.heap.size ≤ Y.heap.size) ∧ Below w.heap.size w Y) ∧ Y.heap[W.heap.size]? = some (exO x.e x.a x.c)) := by
      rintro Y rfl
      exact ⟨(KeepsOthers.alloc _ _).from _, KC.alloc W hz _, ⟨⟨⟨(Below.heap_alloc _ _ _ (Array.getElem?_eq_some_iff.1 hc).1).trans hc, hp⟩, by simp; omega⟩, hB.alloc hB.size _⟩, World.alloc_heap_new W _⟩
    clear hc hp hz hB hKK
    unfold exO at HX
    unfold Nd.v exV
    gi_wp2
    obtain ⟨h1, h2, h3, h4⟩ := HX.out _ rfl
    exact HKK.out _ _ h1 h2 h3 ⟨W.heap.size, h4, rfl⟩
  case body =>
    rintro l pre x a' W hl ⟨r, hr⟩ ⟨⟨⟨hc, hp⟩, hz⟩, hB⟩ ⟨Bx, bX, rfl⟩ hlt
    have HC := Lib.hid hc
    have HP := Lib.hid hp
    have HZ := Lib.hid hz
    have HB := Lib.hid hB
    have x0 : W.cell? ⟨Bx, 0, none⟩ = some (.int .i64 x.e.op) := cell_blk bX 0
    have q0 : W.cell? ⟨w.heap.size + 1, 0, none⟩ = some (.bool false) := cell_blk hc 0
    have HS : Hid ((W.setCell ⟨w.heap.size + 1, 0, none⟩ (.bool false)).heap[w.heap.size + 1]? = some (.cells #[.bool false] 4)) := set_blk hc
    have qf : W.frozen? ⟨w.heap.size + 1, 0, none⟩ = false := Boxed.frozen (t := 4) hc
    clear hc hp hz hB bX hr hl hlt
    obtain ⟨b, hb⟩ : ∃ b, isN x.e.op = b := ⟨_, rfl⟩
    obtain ⟨b2, hb2⟩ : ∃ b, isR x.e.op = b := ⟨_, rfl⟩
    have HI1 := Lib.hid (fun (w' : World) => oisN_any x.e.op w')
    have HI2 := Lib.hid (fun (w' : World) => oisR_any x.e.op w')
    rw [hb] at HI1
    rw [hb2] at HI2
    have HBD : Hid ((isN x.op || isR x.op) = (b || b2)) := by show (isN x.e.op || isR x.e.op) = _; rw [hb, hb2]
    clear hb hb2
    cases b with
    | true =>
      gi_wp2_with (first
      | (refine ⟨trivial, ?_⟩; gi_at_call 20; refine (CallsIn.inRound l (callsIn_wide.2 (HI1.out _))).mono ?_; rintro e' w' ⟨rfl, rfl⟩)
      | (refine ⟨trivial, ?_⟩; gi_at_call 55; refine (CallsIn.inRound l (callsIn_wide.2 (HI2.out _))).mono ?_; rintro e' w' ⟨rfl, rfl⟩))
      refine ⟨trivial, ?_⟩
      gi_wp2
      exact ⟨(KeepsOthers.setCell _ _ _).from _, ⟨rfl, HS.out, x, List.mem_append.2 (Or.inr List.mem_cons_self), HBD.out⟩, HB.out.setCell (p := ⟨w.heap.size + 1, 0, none⟩) (by show w.heap.size ≤ w.heap.size + 1; omega) _⟩
    | false =>
      cases b2 with
      | true =>
        gi_wp2_with (first
      | (refine ⟨trivial, ?_⟩; gi_at_call 20; refine (CallsIn.inRound l (callsIn_wide.2 (HI1.out _))).mono ?_; rintro e' w' ⟨rfl, rfl⟩)
      | (refine ⟨trivial, ?_⟩; gi_at_call 55; refine (CallsIn.inRound l (callsIn_wide.2 (HI2.out _))).mono ?_; rintro e' w' ⟨rfl, rfl⟩))
        exact ⟨(KeepsOthers.setCell _ _ _).from _, ⟨rfl, HS.out, x, List.mem_append.2 (Or.inr List.mem_cons_self), HBD.out⟩, HB.out.setCell (p := ⟨w.heap.size + 1, 0, none⟩) (by show w.heap.size ≤ w.heap.size + 1; omega) _⟩
      | false =>
        gi_wp2_with (first
      | (refine ⟨trivial, ?_⟩; gi_at_call 20; refine (CallsIn.inRound l (callsIn_wide.2 (HI1.out _))).mono ?_; rintro e' w' ⟨rfl, rfl⟩)
      | (refine ⟨trivial, ?_⟩; gi_at_call 55; refine (CallsIn.inRound l (callsIn_wide.2 (HI2.out _))).mono ?_; rintro e' w' ⟨rfl, rfl⟩))
        exact ⟨KeepsFrom.refl _ _, KC.refl _ _ _ _, ⟨⟨HC.out, fun y hy => (List.mem_append.1 hy).elim (HP.out y) (fun e' => by rw [List.mem_singleton.1 e']; exact HBD.out)⟩, HZ.out⟩, HB.out⟩
  case done =>
    rintro D ys W hD hys ⟨⟨⟨hc, hp⟩, hz⟩, hB⟩ hKD
    have q0 : W.cell? ⟨w.heap.size + 1, 0, none⟩ = some (.bool false) := cell_blk hc 0
    have qf : W.frozen? ⟨w.heap.size + 1, 0, none⟩ = false := Boxed.frozen (t := 4) hc
    have HKD := Lib.hid hKD
    have HC := Lib.hid hc
    have HB := Lib.hid hB
    have HR : Hid (pureE e = true) := by
      show _ = _
      unfold pureE
      rw [← hys, List.any_map]
      have : (ys.any ((fun o => isN o || isR o) ∘ Nd.op)) = false := by
        rw [List.any_eq_false]
        intro y hy
        have := hp y hy
        simp only [Function.comp] at *
        rw [this]; decide
      rw [this]; rfl
    clear hys hp hc hB hz
    gi_wp2
    have hK' := (KeepsOthers.setCell W ⟨w.heap.size + 1, 0, none⟩ (.bool true)).same D _ HKD.out rfl
    refine ⟨by simp, .inl ⟨_, _, rfl, run_takeDeferred hK', ?_⟩⟩
    have hc5 := cell_kept (World.cell?_setCell_same' W ⟨w.heap.size + 1, 0, none⟩ (.bool true) (by rw [q0]; rfl)) (grownBy_putObj' _ D (.deferred none)) (fun r e => by cases e; exact ⟨_, hK', rfl⟩)
    refine ⟨.bool true, ?_, by rw [HR.out], (HB.out.setCell (p := ⟨w.heap.size + 1, 0, none⟩) (by show w.heap.size ≤ w.heap.size + 1; omega) _).trans (belowK_b (w := w) (Nat.le_refl _) _ D _ _ (by omega) hK' rfl rfl)⟩
    simp [results, Tryz.f27, go_sem, hc5]
  case stop =>
    rintro D c pre W hD hpre ⟨⟨rfl, hc, y, hy, hbad⟩, hB⟩ hKD
    have q0 : W.cell? ⟨w.heap.size + 1, 0, none⟩ = some (.bool false) := cell_blk hc 0
    have HKD := Lib.hid hKD
    have HB := Lib.hid hB
    have HR : Hid (pureE e = false) := by
      show _ = _
      unfold pureE
      have : (ops e).any (fun o => isN o || isR o) = true := List.any_eq_true.2 ⟨y.op, hpre.subset (List.mem_map.2 ⟨y, hy, rfl⟩), hbad⟩
      rw [this]; rfl
    clear hpre hy hbad hc hB
    gi_wp2
    refine ⟨by simp, .inl ⟨_, _, rfl, run_takeDeferred HKD.out, ?_⟩⟩
    have hc5 := cell_kept q0 (grownBy_putObj' _ D (.deferred none)) (fun r e => by cases e; exact ⟨_, HKD.out, rfl⟩)
    refine ⟨.bool false, ?_, by rw [HR.out], HB.out.trans (belowK_b (w := w) (Nat.le_refl _) W D _ _ (by omega) HKD.out rfl rfl)⟩
    simp [results, Tryz.f27, go_sem, hc5]

set_option maxHeartbeats 8000000 in
set_option maxRecDepth 100000 in
theorem oReads_any (e : Ex) (a : Option Addr) (c : Nat) (hok : okE e) (w : World) (hK : A.Kids w a e.args) :
    Calls Tryz.prog 28 #[exV e a c] w fun e' w' => e' = .returned (.bool (readsE e)) ∧ Below w.heap.size w w' := by
  refine (callsIn_wide (n := 9)).1 ?_
  refine callsIn_of_wp_marks Tryz.func28 rfl trivial ?_ rfl
  simp only [Tryz.ntmps28, List.size_toArray, List.length_cons, List.length_nil, Nat.reduceAdd, Nat.reduceSub, Array.replicate_succ, Array.replicate_zero, List.push_toArray, List.append_toArray, List.nil_append, List.cons_append]
  have HN := Lib.hid (fun (w' : World) => onodes_any e a c w')
  unfold exV at HN ⊢
  unfold exO at HN
  gi_wp2_with ((refine ⟨trivial, ?_⟩; gi_at_call 19; refine (callsIn_wide.2 (HN.out _)).mono ?_; rintro e' w' ⟨rfl, rfl⟩))
  have hb1 := below_box w (.cells #[.int .i64 e.op, .int .i64 e.n, .string e.s, .slice a e.args.length c] 41)
  have hb2 := below_box (w.alloc (.cells #[.int .i64 e.op, .int .i64 e.n, .string e.s, .slice a e.args.length c] 41)) (.cells #[.bool false] 4)
  have hb3 := below_box ((w.alloc (.cells #[.int .i64 e.op, .int .i64 e.n, .string e.s, .slice a e.args.length c] 41)).alloc (.cells #[.bool false] 4)) (.cells #[.int .i64 e.op, .int .i64 e.n, .string e.s, .slice a e.args.length c] 41)
  have s1 : (w.alloc (.cells #[.int .i64 e.op, .int .i64 e.n, .string e.s, .slice a e.args.length c] 41)).heap.size = w.heap.size + 1 := by simp
  have s2 : ((w.alloc (.cells #[.int .i64 e.op, .int .i64 e.n, .string e.s, .slice a e.args.length c] 41)).alloc (.cells #[.bool false] 4)).heap.size = w.heap.size + 1 + 1 := by simp
  have c2 := World.alloc_heap_new (w.alloc (.cells #[.int .i64 e.op, .int .i64 e.n, .string e.s, .slice a e.args.length c] 41)) (.cells #[.bool false] 4)
  rw [s1] at c2
  have c3 := World.alloc_heap_new ((w.alloc (.cells #[.int .i64 e.op, .int .i64 e.n, .string e.s, .slice a e.args.length c] 41)).alloc (.cells #[.bool false] 4)) (.cells #[.int .i64 e.op, .int .i64 e.n, .string e.s, .slice a e.args.length c] 41)
  rw [s2] at c3
  have hbb := below_2 (below_2 hb1 hb2) hb3
  obtain ⟨W0, hW0⟩ : ∃ W0, ((w.alloc (.cells #[.int .i64 e.op, .int .i64 e.n, .string e.s, .slice a e.args.length c] 41)).alloc (.cells #[.bool false] 4)).alloc (.cells #[.int .i64 e.op, .int .i64 e.n, .string e.s, .slice a e.args.length c] 41) = W0 := ⟨_, rfl⟩
  have s3 : W0.heap.size = w.heap.size + 3 := by rw [← hW0]; simp
  have c2' : W0.heap[w.heap.size + 1]? = some (.cells #[.bool false] 4) := by rw [← hW0]; exact (hb3.block _ (by rw [s2]; omega)).trans c2
  rw [hW0] at c3 hbb ⊢
  have HK0 := Lib.hid (hK.below hbb)
  have HBB := Lib.hid hbb
  have HC2 := Lib.hid c2'
  have HC3 : Hid (W0.heap[w.heap.size + 2]? = some (exO e a c)) := c3
  have HS3 := Lib.hid s3
  have HOK := Lib.hid hok
  have hle : W0.heap.size = w.heap.size + 3 := s3
  clear hb1 hb2 hb3 s1 s2 c2 c3 c2' hbb hW0 s3 HN hK hok
  generalize hEX : (Value.agg #[.int .i64 e.op, .int .i64 e.n, .string e.s, .slice a e.args.length c]) = EX
  clear hEX
  refine wpIn_rangeFunc_ownH (F := Fence.wide) (n := 9) rfl (by decide) (gf := 45) (lb := #[.pointer (some ⟨w.heap.size + 2, 0, none⟩)]) rfl trivial (enters_of Tryz.func45 (by kernel_rfl) rfl)
    (nodes_stops none Fence.wide rfl 8 trivial trivial rfl (w.heap.size + 2) e a c W0 HOK.out HC3.out HK0.out (fun _ h => by cases h)) (fun h k => h.trans k) (KC.putObj (Nat.le_refl _)) (Below.refl _ _) (fun _ => rfl)
    (fun pre W => ((W.heap[w.heap.size + 1]? = some (.cells #[.bool false] 4) ∧ (∀ x ∈ pre, (isR x.op) = false)) ∧ W0.heap.size ≤ W.heap.size) ∧ Below w.heap.size w W)
    (fun c pre W => (c = .ret ∧ W.heap[w.heap.size + 1]? = some (.cells #[.bool true] 4) ∧ ∃ x ∈ pre, (isR x.op) = true) ∧ Below w.heap.size w W)
    (OwnFrom.and (OwnFrom.and (OwnFrom.and (own_cells fun _ => rfl) (ownFrom_pure _ _)) own_size) (ownFrom_below (Nat.le_refl _) (by omega)))
    (fun c => OwnFrom.and (OwnFrom.and (ownFrom_pure _ (fun _ => c = Code.ret)) (OwnFrom.and (own_cells fun _ => rfl) (ownFrom_pure _ _))) (ownFrom_below (Nat.le_refl _) (by omega)))
    ⟨⟨⟨HC2.out, fun x hx => absurd hx List.not_mem_nil⟩, Nat.le_refl _⟩, HBB.out⟩
    (fun x a' W => ∃ Bx, W.heap[Bx]? = some (exO x.e x.a x.c) ∧ a' = { tmps := #[EX, .pointer (some ⟨w.heap.size, 0, none⟩), .pointer (some ⟨w.heap.size + 1, 0, none⟩), .pointer (some ⟨Bx, 0, none⟩), EX, .func (.func 45) #[] #[.pointer (some ⟨w.heap.size + 2, 0, none⟩)], x.v, undef, undef, undef], defers := [] })
    (fun x a' s X Y row ⟨Bx, h1, h2⟩ hg hr => ⟨Bx, own_cells (k := Bx) (o := fun (_ : Unit) => exO x.e x.a x.c) (fun _ => rfl) () X Y row h1 hg hr, h2⟩) ?assign ?body ?done ?stop
  case assign =>
    rintro l pre x W K ⟨⟨⟨hc, hp⟩, hz⟩, hB⟩ hKK
    have HKK := Lib.hid hKK
    have HX : Hid (∀ Y, W.alloc (exO x.e x.a x.c) = Y → KeepsFrom W0.heap.size W Y ∧ KC none W0.heap.size W0.heap.size W Y ∧ (((Y.heap[w.heap.size + 1]? = some (.cells #[.bool false] 4) ∧ (∀ x ∈ pre, (isR x.op) = false)) ∧ W0.heap.size ≤ Y.heap.size) ∧ Below w.heap.size w Y) ∧ Y.heap[W.heap.size]? = some (exO x.e x.a x.c)) := by
      rintro Y rfl
      exact ⟨(KeepsOthers.alloc _ _).from _, KC.alloc W hz _, ⟨⟨⟨(Below.heap_alloc _ _ _ (Array.getElem?_eq_some_iff.1 hc).1).trans hc, hp⟩, by simp; omega⟩, hB.alloc hB.size _⟩, World.alloc_heap_new W _⟩
    clear hc hp hz hB hKK
    unfold exO at HX
    unfold Nd.v exV
    gi_wp2
    obtain ⟨h1, h2, h3, h4⟩ := HX.out _ rfl
    exact HKK.out _ _ h1 h2 h3 ⟨W.heap.size, h4, rfl⟩
  case body =>
    rintro l pre x a' W hl ⟨r, hr⟩ ⟨⟨⟨hc, hp⟩, hz⟩, hB⟩ ⟨Bx, bX, rfl⟩ hlt
    have HC := Lib.hid hc
    have HP := Lib.hid hp
    have HZ := Lib.hid hz
    have HB := Lib.hid hB
    have x0 : W.cell? ⟨Bx, 0, none⟩ = some (.int .i64 x.e.op) := cell_blk bX 0
    have q0 : W.cell? ⟨w.heap.size + 1, 0, none⟩ = some (.bool false) := cell_blk hc 0
    have HS : Hid ((W.setCell ⟨w.heap.size + 1, 0, none⟩ (.bool true)).heap[w.heap.size + 1]? = some (.cells #[.bool true] 4)) := set_blk hc
    have qf : W.frozen? ⟨w.heap.size + 1, 0, none⟩ = false := Boxed.frozen (t := 4) hc
    clear hc hp hz hB bX hr hl hlt
    obtain ⟨b, hb⟩ : ∃ b, isR x.e.op = b := ⟨_, rfl⟩
    have HI1 := Lib.hid (fun (w' : World) => oisR_any x.e.op w')
    rw [hb] at HI1
    have HBD : Hid ((isR x.op) = b) := hb
    clear hb
    cases b with
    | true =>
      gi_wp2_with (refine ⟨trivial, ?_⟩; gi_at_call 55; refine (CallsIn.inRound l (callsIn_wide.2 (HI1.out _))).mono ?_; rintro e' w' ⟨rfl, rfl⟩)
      exact ⟨(KeepsOthers.setCell _ _ _).from _, ⟨rfl, HS.out, x, List.mem_append.2 (Or.inr List.mem_cons_self), HBD.out⟩, HB.out.setCell (p := ⟨w.heap.size + 1, 0, none⟩) (by show w.heap.size ≤ w.heap.size + 1; omega) _⟩
    | false =>
      gi_wp2_with (refine ⟨trivial, ?_⟩; gi_at_call 55; refine (CallsIn.inRound l (callsIn_wide.2 (HI1.out _))).mono ?_; rintro e' w' ⟨rfl, rfl⟩)
      exact ⟨KeepsFrom.refl _ _, KC.refl _ _ _ _, ⟨⟨HC.out, fun y hy => (List.mem_append.1 hy).elim (HP.out y) (fun e' => by rw [List.mem_singleton.1 e']; exact HBD.out)⟩, HZ.out⟩, HB.out⟩
  case done =>
    rintro D ys W hD hys ⟨⟨⟨hc, hp⟩, hz⟩, hB⟩ hKD
    have q0 : W.cell? ⟨w.heap.size + 1, 0, none⟩ = some (.bool false) := cell_blk hc 0
    have qf : W.frozen? ⟨w.heap.size + 1, 0, none⟩ = false := Boxed.frozen (t := 4) hc
    have HKD := Lib.hid hKD
    have HC := Lib.hid hc
    have HB := Lib.hid hB
    have HR : Hid (readsE e = false) := by
      show _ = _
      unfold readsE
      rw [← hys, List.any_map]
      have : (ys.any ((isR) ∘ Nd.op)) = false := by
        rw [List.any_eq_false]
        intro y hy
        have := hp y hy
        simp only [Function.comp] at *
        rw [this]; decide
      rw [this]
    clear hys hp hc hB hz
    gi_wp2
    have hK' := (KeepsOthers.setCell W ⟨w.heap.size + 1, 0, none⟩ (.bool false)).same D _ HKD.out rfl
    refine ⟨by simp, .inl ⟨_, _, rfl, run_takeDeferred hK', ?_⟩⟩
    have hc5 := cell_kept (World.cell?_setCell_same' W ⟨w.heap.size + 1, 0, none⟩ (.bool false) (by rw [q0]; rfl)) (grownBy_putObj' _ D (.deferred none)) (fun r e => by cases e; exact ⟨_, hK', rfl⟩)
    refine ⟨.bool false, ?_, by rw [HR.out], (HB.out.setCell (p := ⟨w.heap.size + 1, 0, none⟩) (by show w.heap.size ≤ w.heap.size + 1; omega) _).trans (belowK_b (w := w) (Nat.le_refl _) _ D _ _ (by omega) hK' rfl rfl)⟩
    simp [results, Tryz.f28, go_sem, hc5]
  case stop =>
    rintro D c pre W hD hpre ⟨⟨rfl, hc, y, hy, hbad⟩, hB⟩ hKD
    have q0 : W.cell? ⟨w.heap.size + 1, 0, none⟩ = some (.bool true) := cell_blk hc 0
    have HKD := Lib.hid hKD
    have HB := Lib.hid hB
    have HR : Hid (readsE e = true) := by
      show _ = _
      unfold readsE
      have : (ops e).any (isR) = true := List.any_eq_true.2 ⟨y.op, hpre.subset (List.mem_map.2 ⟨y, hy, rfl⟩), hbad⟩
      rw [this]
    clear hpre hy hbad hc hB
    gi_wp2
    refine ⟨by simp, .inl ⟨_, _, rfl, run_takeDeferred HKD.out, ?_⟩⟩
    have hc5 := cell_kept q0 (grownBy_putObj' _ D (.deferred none)) (fun r e => by cases e; exact ⟨_, HKD.out, rfl⟩)
    refine ⟨.bool true, ?_, by rw [HR.out], HB.out.trans (belowK_b (w := w) (Nat.le_refl _) W D _ _ (by omega) HKD.out rfl rfl)⟩
    simp [results, Tryz.f28, go_sem, hc5]
end Go.Proofs.YtkjefigebdbkaaaGreatDoor.N
namespace Go.Proofs.YtkjefigebdbkaaaGreatDoor.N
open Go.RowKit Go.Shelf
open A (Ex Pr exprs exV exO okE)
open L (below_2 below_box ret_bool)

/-! ### how far it has come -/
theorem fstF_at {l r : List Int} {o : Int} (h : l.any isN = false) (ho : isN o = true) (k : Int) : fstF k (l ++ o :: r) = (o, k + l.length, true) := by
  rw [fstF_app, if_neg (by rw [h]; decide), fstF, if_pos ho]
def noneN (l : List Ex) (k : Nat) : Prop := ((l.take k).flatMap ops).any isN = false
def lenN (l : List Ex) (k : Nat) : Nat := ((l.take k).flatMap ops).length
theorem noneN_zero (l : List Ex) : noneN l 0 := rfl
theorem noneN_next {l : List Ex} {k : Nat} (hk : k < l.length) (h : noneN l k) {ys : List Nd} (hy : ys.map Nd.op = ops l[k]) (hn : ∀ y ∈ ys, isN y.op = false) : noneN l (k + 1) := by
  unfold noneN at *
  rw [take_flat hk, List.any_append, h, ← hy, List.any_map, Bool.false_or, List.any_eq_false]
  intro y hm
  simp only [Function.comp]
  rw [hn y hm]; decide
theorem lenN_next {l : List Ex} {k : Nat} (hk : k < l.length) {ys : List Nd} (hy : ys.map Nd.op = ops l[k]) : lenN l (k + 1) = lenN l k + ys.length := by
  unfold lenN
  rw [take_flat hk, List.length_append, ← hy, List.length_map]
theorem lenN_le {l : List Ex} (k : Nat) : lenN l k ≤ (l.flatMap ops).length := (take_pre l k).length_le
theorem stop_at {l : List Ex} {k : Nat} (hk : k < l.length) (h : noneN l k) {pre : List Nd} {x : Nd} (hp : (pre ++ [x]).map Nd.op <+: ops l[k]) (hn : ∀ y ∈ pre, isN y.op = false) (hx : isN x.op = true) :
    fstF 0 (l.flatMap ops) = (x.op, ((lenN l k + pre.length : Nat) : Int), true) := by
  obtain ⟨r, hr⟩ := hp
  have h1 : l.flatMap ops = ((l.take k).flatMap ops ++ pre.map Nd.op) ++ x.op :: (r ++ (l.drop (k + 1)).flatMap ops) := by
    conv => lhs; rw [← List.take_append_drop k l]
    rw [List.flatMap_append, List.drop_eq_getElem_cons hk, List.flatMap_cons, ← hr]
    simp [List.append_assoc]
  rw [h1, fstF_at _ hx, List.length_append, List.length_map]
  · unfold lenN; simp
  · unfold noneN at h
    rw [List.any_append, h, List.any_map, Bool.false_or, List.any_eq_false]
    intro y hm
    simp only [Function.comp]
    rw [hn y hm]; decide
theorem end_at {l : List Ex} {k : Nat} (hk : l.length ≤ k) (h : noneN l k) : fstF 0 (l.flatMap ops) = (0, 0, false) := by
  unfold noneN at h
  rw [List.take_of_length_le hk] at h
  exact fstF_none h 0

/-! ### all but one block -/
structure OB (b : Nat) (W W' : World) : Prop where
  os : W'.os = W.os
  tape : W'.tape = W.tape
  output : W'.output = W.output
  size : W.heap.size ≤ W'.heap.size
  block : ∀ k, k < W.heap.size → k ≠ b → W'.heap[k]? = W.heap[k]?
theorem OB.refl (b : Nat) (W : World) : OB b W W := ⟨rfl, rfl, rfl, Nat.le_refl _, fun _ _ _ => rfl⟩
theorem OB.trans {b : Nat} {X Y Z : World} (h : OB b X Y) (k : OB b Y Z) : OB b X Z :=
  ⟨k.os.trans h.os, k.tape.trans h.tape, k.output.trans h.output, Nat.le_trans h.size k.size, fun i hi hb => (k.block i (Nat.lt_of_lt_of_le hi h.size) hb).trans (h.block i hi hb)⟩
theorem OB.of_below {b : Nat} {X Y : World} (h : Below X.heap.size X Y) : OB b X Y := ⟨h.os, h.tape, h.output, h.size, fun k hk _ => h.block k hk⟩
theorem OB.set {b : Nat} (W : World) (v : Value) : OB b W (W.setCell ⟨b, 0, none⟩ v) := ⟨rfl, rfl, rfl, by simp [World.setCell], fun k _ hb => Below.heap_setCell W ⟨b, 0, none⟩ v k hb⟩
theorem OB.below {b n : Nat} {X Y : World} (h : OB b X Y) (hb : n ≤ b) (hn : n ≤ X.heap.size) : Below n X Y := ⟨h.os, h.tape, h.output, h.size, fun k hk => h.block k (by omega) (by omega)⟩
theorem OB.cells {b k : Nat} {X Y : World} {o : Obj} (h : OB b X Y) (hk : X.heap[k]? = some o) (hb : k ≠ b) : Y.heap[k]? = some o := (h.block k (Array.getElem?_eq_some_iff.1 hk).1 hb).trans hk
theorem own_OB {β : Type} {B b : Nat} {W0 : World} (hB : W0.heap.size ≤ B) : OwnFrom B (fun (_ : β) W => OB b W0 W) := fun _ X Y row hs hg hr =>
  ⟨hg.os.trans hs.os, hg.tape.trans hs.tape, hg.output.trans hs.output, Nat.le_trans hs.size hg.size, fun k hk hb => (hg.block k (Nat.lt_of_lt_of_le hk hs.size) (fun e => by
    have := (hr k e.symm).1
    omega)).trans (hs.block k hk hb)⟩
theorem ex_box {b : Nat} {W W' : World} {v : Value} {t : TypeId} (hb : W.heap[b]? = some (.cells #[v] t)) {g i : Nat} {u : Value} (h : W.cell? ⟨g, i + 1, none⟩ = some u) (hO : OB b W W') (i' : Nat) : W'.cell? ⟨g, i', none⟩ = W.cell? ⟨g, i', none⟩ := by
  have hlt := block_lt_of_cell h
  refine World.cell?_of_block (w := W) (hO.block g hlt (fun e => ?_))
  have e' : g = b := e
  subst e'
  simp [World.cell?, hb] at h
mutual
theorem exAt_other {b : Nat} {W W' : World} {v : Value} {t : TypeId} (hb : W.heap[b]? = some (.cells #[v] t)) (hO : OB b W W') : ∀ (e : Ex) {g i : Nat}, A.ExAt W e g i → A.ExAt W' e g i
  | .mk o n s l, g, i, h => by
    rw [A.ExAt] at h ⊢
    obtain ⟨h0, h1, h2, a, c, h3, h4⟩ := h
    have hx := ex_box hb h1 hO
    refine ⟨(hx _).trans h0, (hx _).trans h1, (hx _).trans h2, a, c, (hx _).trans h3, ?_⟩
    rcases h4 with h4 | ⟨b2, i2, ha, h5⟩
    · exact Or.inl h4
    · exact Or.inr ⟨b2, i2, ha, exsAt_other hb hO l h5⟩
theorem exsAt_other {b : Nat} {W W' : World} {v : Value} {t : TypeId} (hb : W.heap[b]? = some (.cells #[v] t)) (hO : OB b W W') : ∀ (l : List Ex) {g i : Nat}, A.ExsAt W l g i → A.ExsAt W' l g i
  | [], _, _, _ => by rw [A.ExsAt]; trivial
  | e :: r, g, i, h => by
    rw [A.ExsAt] at h ⊢
    exact ⟨exAt_other hb hO e h.1, exsAt_other hb hO r h.2⟩
end
theorem kids_other {b : Nat} {W W' : World} {v : Value} {t : TypeId} (hb : W.heap[b]? = some (.cells #[v] t)) (hO : OB b W W') {a : Option Addr} {l : List Ex} (h : A.Kids W a l) : A.Kids W' a l := by
  rcases h with h | ⟨g, i, ha, h⟩
  · exact Or.inl h
  · exact Or.inr ⟨g, i, ha, exsAt_other hb hO l h⟩

/-! ### the marks of the loops -/
def mark (D : Nat) : Deferred := { target := .collected D, args := #[] }
structure Marks (n : Nat) (l : List Nat) (W : World) : Prop where
  nd : l.Nodup
  each : ∀ D ∈ l, n ≤ D ∧ W.heap[D]? = some (.deferred (some []))
theorem Marks.nil (n : Nat) (W : World) : Marks n [] W := ⟨List.nodup_nil, fun _ h => absurd h List.not_mem_nil⟩
theorem Marks.cons {n : Nat} {l : List Nat} {W : World} (h : Marks n l W) {D : Nat} (hD : n ≤ D) (hk : W.heap[D]? = some (.deferred (some []))) (hn : ∀ x ∈ l, x < D) : Marks n (D :: l) W :=
  ⟨List.nodup_cons.2 ⟨fun hm => Nat.lt_irrefl _ (hn D hm), h.nd⟩, fun x hx => (List.mem_cons.1 hx).elim (fun e => by subst e; exact ⟨hD, hk⟩) (h.each x)⟩
theorem Marks.kept {n : Nat} {l : List Nat} {W W' : World} (h : Marks n l W) (hk : ∀ (k : Nat) (o : Obj), W.heap[k]? = some o → o.isCells = false → W'.heap[k]? = some o) : Marks n l W' :=
  ⟨h.nd, fun D hD => ⟨(h.each D hD).1, hk D _ (h.each D hD).2 rfl⟩⟩
theorem own_marks {β : Type} {B n : Nat} {l : List Nat} (hl : ∀ x ∈ l, x < B) : OwnFrom B (fun (_ : β) (W : World) => Marks n l W) := fun _ X Y row hs hg hr =>
  ⟨hs.nd, fun D hD => ⟨(hs.each D hD).1, (hg.block D (Array.getElem?_eq_some_iff.1 (hs.each D hD).2).1 (fun e => by have := (hr D e.symm).1; have := hl D hD; omega)).trans (hs.each D hD).2⟩⟩
theorem leaves_marks {F : Fence} {m : Nat} {P : Program} {fn : Func} {tmps : Array Value} {R : Ending → World → Prop} {n : Nat} : ∀ (l : List Nat) (W : World), Marks n l W →
    (∀ W', Below n W W' → (∀ (k : Nat) (o : Obj), W.heap[k]? = some o → o.isCells = true → W'.heap[k]? = some o) → LeavesInM F m P fn tmps R [] .returning W') → LeavesInM F m P fn tmps R (l.map mark) .returning W
  | [], W, _, h => h W (Below.refl _ _) fun _ _ h _ => h
  | D :: l, W, hM, h => by
    obtain ⟨h1, h2⟩ := hM.each D List.mem_cons_self
    have hn := List.nodup_cons.1 hM.nd
    have hb : Below n W (W.putObj D (.deferred none)) := ⟨rfl, rfl, rfl, by simp [World.putObj], fun k hk => World.putObj_heap_other (by omega)⟩
    have hc : ∀ (k : Nat) (o : Obj), W.heap[k]? = some o → o.isCells = true → (W.putObj D (.deferred none)).heap[k]? = some o := fun k o hk ho => by
      by_cases e : k = D
      · subst e; rw [h2] at hk; cases hk; cases ho
      · exact (World.putObj_heap_other e).trans hk
    refine ⟨by simp, .inl ⟨D, _, rfl, run_takeDeferred h2, ?_⟩⟩
    refine leaves_marks l _ ⟨hn.2, fun x hx => ⟨(hM.each x (List.mem_cons_of_mem _ hx)).1, ?_⟩⟩ fun W' hb' hc' => h W' (hb.trans hb') fun k o hk ho => hc' k o (hc k o hk ho) ho
    exact (World.putObj_heap_other (fun e => hn.1 (by rw [← e]; exact hx))).trans (hM.each x (List.mem_cons_of_mem _ hx)).2
structure Three (g : Nat) (x y z : Value) (t1 t2 t3 : TypeId) (W : World) : Prop where
  c1 : W.heap[g + 1]? = some (.cells #[x] t1)
  c2 : W.heap[g + 1 + 1]? = some (.cells #[y] t2)
  c3 : W.heap[g + 1 + 1 + 1]? = some (.cells #[z] t3)
theorem Three.set {g : Nat} {x y z x' y' z' : Value} {t1 t2 t3 : TypeId} {W : World} (h : Three g x y z t1 t2 t3 W) :
    Three g x' y' z' t1 t2 t3 (((W.setCell ⟨g + 1, 0, none⟩ x').setCell ⟨g + 1 + 1, 0, none⟩ y').setCell ⟨g + 1 + 1 + 1, 0, none⟩ z') :=
  ⟨(Below.heap_setCell _ _ _ _ (by show g + 1 ≠ g + 1 + 1 + 1; omega)).trans ((Below.heap_setCell _ _ _ _ (by show g + 1 ≠ g + 1 + 1; omega)).trans (set_blk h.c1)),
   (Below.heap_setCell _ _ _ _ (by show g + 1 + 1 ≠ g + 1 + 1 + 1; omega)).trans (set_blk ((Below.heap_setCell _ _ _ _ (by show g + 1 + 1 ≠ g + 1; omega)).trans h.c2)),
   set_blk ((Below.heap_setCell _ _ _ _ (by show g + 1 + 1 + 1 ≠ g + 1 + 1; omega)).trans ((Below.heap_setCell _ _ _ _ (by show g + 1 + 1 + 1 ≠ g + 1; omega)).trans h.c3))⟩
theorem set3_below' {n g : Nat} {X W : World} {x y z : Value} (h : Below n X W) (hn : n ≤ g) : Below n X (((W.setCell ⟨g + 1, 0, none⟩ x).setCell ⟨g + 1 + 1, 0, none⟩ y).setCell ⟨g + 1 + 1 + 1, 0, none⟩ z) :=
  ((h.setCell (p := ⟨g + 1, 0, none⟩) (by show n ≤ g + 1; omega) _).setCell (p := ⟨g + 1 + 1, 0, none⟩) (by show n ≤ g + 1 + 1; omega) _).setCell (p := ⟨g + 1 + 1 + 1, 0, none⟩) (by show n ≤ g + 1 + 1 + 1; omega) _
theorem set3_others {g : Nat} (W : World) {x y z : Value} : KeepsOthers W (((W.setCell ⟨g + 1, 0, none⟩ x).setCell ⟨g + 1 + 1, 0, none⟩ y).setCell ⟨g + 1 + 1 + 1, 0, none⟩ z) :=
  ((KeepsOthers.setCell _ _ _).trans (KeepsOthers.setCell _ _ _)).trans (KeepsOthers.setCell _ _ _)
theorem Three.kept {g : Nat} {x y z : Value} {t1 t2 t3 : TypeId} {W W' : World} (h : Three g x y z t1 t2 t3 W) (hk : ∀ (k : Nat) (o : Obj), W.heap[k]? = some o → o.isCells = true → W'.heap[k]? = some o) : Three g x y z t1 t2 t3 W' :=
  ⟨hk _ _ h.c1 rfl, hk _ _ h.c2 rfl, hk _ _ h.c3 rfl⟩
theorem Three.kept2 {g b : Nat} {x y z : Value} {t1 t2 t3 : TypeId} {W W' : World} (h : Three g x y z t1 t2 t3 W) (hO : OB b W W') (h1 : g + 1 ≠ b) (h2 : g + 1 + 1 ≠ b) (h3 : g + 1 + 1 + 1 ≠ b) : Three g x y z t1 t2 t3 W' :=
  ⟨hO.cells h.c1 h1, hO.cells h.c2 h2, hO.cells h.c3 h3⟩
theorem own_three {β : Type} {B g : Nat} {x y z : β → Value} {t1 t2 t3 : TypeId} : OwnFrom B (fun (s : β) (W : World) => Three g (x s) (y s) (z s) t1 t2 t3 W) := fun s X Y row hs hg hr =>
  ⟨own_cells (o := fun s => .cells #[x s] t1) (fun _ => rfl) s X Y row hs.c1 hg hr, own_cells (o := fun s => .cells #[y s] t2) (fun _ => rfl) s X Y row hs.c2 hg hr, own_cells (o := fun s => .cells #[z s] t3) (fun _ => rfl) s X Y row hs.c3 hg hr⟩
theorem frozen_blk {W : World} {k : Nat} {v : Value} {t : TypeId} (h : W.heap[k]? = some (.cells #[v] t)) : W.frozen? ⟨k, 0, none⟩ = false := Boxed.frozen (t := t) h
end Go.Proofs.YtkjefigebdbkaaaGreatDoor.N
