/-
  Expressions and procedures as arguments of the rows of layer 8: what a reading shows, and what the reach gives.
  What the listed table gives the walks of layer 11, worlds that meet the condition, and lists of variables and of arguments as arguments: used by each law's proof.
-/
import Derived.Test.YtnelpgeiioflmaaGreatDoorRows
import Derived.Test.YtnelpgeiioflmaaGreatDoorM03
import Derived.WalkKit
import Derived.ProofKit
import Derived.OpenShut
import Derived.ChangeMaps5
import Derived.Lib.SmallJoins
import Derived.SliceStrings
import Derived.JoinedCond
import Derived.Carry
import Derived.SizedLaws
import Derived.Test.YtnelpgeiioflmaaGreatDoorTie
import Derived.Test.YtnelpgeiioflmaaGreatDoorCards
import Derived.LaidMore
import Derived.Stop.Joined
import Derived.Stop.LaidErr
import Derived.Lib.LaidTab
import Derived.Lib.LaidU8
import Derived.SevenTiedAt
import Derived.Lay
import Derived.Test.YtnelpgeiioflmaaGreatDoorM16
namespace Go.Proofs.YtnelpgeiioflmaaGreatDoor.A
open Go.ChangeShapes Go.WideShapes Go.ChangeAt Go.WideMaps Go.WideElems Go.RowKit Go.Joins
open L (size_len)

theorem laid_out : laidOutB Tryz.prog = true := by kernel_rfl
theorem cellsEx : Tryz.prog.cellsOf 42 = 4 := by kernel_rfl
theorem cellsSt : Tryz.prog.cellsOf 44 = 13 := by kernel_rfl
theorem cellsPm : Tryz.prog.cellsOf 49 = 2 := by kernel_rfl
theorem cellsPr : Tryz.prog.cellsOf 25 = 3 := by kernel_rfl
theorem cellsInt : Tryz.prog.cellsOf 3 = 1 := by kernel_rfl
theorem cellsI64 : Tryz.prog.cellsOf 2 = 1 := by kernel_rfl
theorem cellsStr : Tryz.prog.cellsOf 9 = 1 := by kernel_rfl
theorem cellsExs : Tryz.prog.cellsOf 40 = 1 := by kernel_rfl
theorem cellsSts : Tryz.prog.cellsOf 23 = 1 := by kernel_rfl
theorem bytesEx : Tryz.prog.bytesOf 42 = 56 := by kernel_rfl
theorem bytesSt : Tryz.prog.bytesOf 44 = 192 := by kernel_rfl
theorem bytesPm : Tryz.prog.bytesOf 49 = 24 := by kernel_rfl
theorem fieldsEx : ∃ fs, Tryz.prog.underlying 42 = some (.struct fs) ∧ fs.toList.map (·.type) = [3, 2, 9, 40] := ⟨_, Tryz.underlying42, rfl⟩
theorem fieldsSt : ∃ fs, Tryz.prog.underlying 44 = some (.struct fs) ∧ fs.toList.map (·.type) = [3, 9, 3, 42, 42, 23, 23] := ⟨_, Tryz.underlying44, rfl⟩
theorem fieldsPm : ∃ fs, Tryz.prog.underlying 49 = some (.struct fs) ∧ fs.toList.map (·.type) = [9, 3] := ⟨_, Tryz.underlying49, rfl⟩
theorem fieldsPr : ∃ fs, Tryz.prog.underlying 25 = some (.struct fs) ∧ fs.toList.map (·.type) = [9, 22, 23] := ⟨_, Tryz.underlying25, rfl⟩
theorem bounds_i64 {a : Int} (h : (Lit.int .i64 a).wf = true) : -9223372036854775808 ≤ a ∧ a ≤ 9223372036854775807 := by
  simpa [Lit.wf, IntKind.min, IntKind.max, IntKind.bits, IntKind.signed] using h
def RB (ws : List Nat) : Prop := ∀ x ∈ ws, x ≤ reachBytes
theorem RB.left {a b : List Nat} (h : RB (a ++ b)) : RB a := fun x hx => h x (List.mem_append.2 (Or.inl hx))
theorem RB.right {a b : List Nat} (h : RB (a ++ b)) : RB b := fun x hx => h x (List.mem_append.2 (Or.inr hx))
theorem RB.head {a : Nat} {b : List Nat} (h : RB (a :: b)) : a ≤ reachBytes := h a List.mem_cons_self
theorem RB.tail {a : Nat} {b : List Nat} (h : RB (a :: b)) : RB b := fun x hx => h x (List.mem_cons_of_mem _ hx)
theorem reach47 : reachBytes ≤ 140737488355328 := by decide
section
variable {H : Type} {enc : TypeId × Value → H} {w : World} {base b0 : Nat} {spare : Nat → Bool} {held : Bool}
theorem four {cs : List Value} (h : cs.length = 4) : ∃ a b c d, cs = [a, b, c, d] := by
  match cs, h with
  | [a, b, c, d], _ => exact ⟨a, b, c, d, rfl⟩
theorem thirteen {cs : List Value} (h : cs.length = 13) : ∃ a b c d e f g h i j k l m, cs = [a, b, c, d, e, f, g, h, i, j, k, l, m] := by
  match cs, h with
  | [a, b, c, d, e, f, g, h, i, j, k, l, m], _ => exact ⟨a, b, c, d, e, f, g, h, i, j, k, l, m, rfl⟩
def ExR (enc : TypeId × Value → H) (w : World) (base : Nat) (spare : Nat → Bool) (held : Bool) (n : Nat) : Prop :=
  ∀ (cs : List Value) (y : DataW H × List MemPlace), DataW.trod enc Tryz.prog w base spare held n 42 cs = some y →
    ∃ (e : Ex) (a : Option Addr) (c : Nat), cs = [.int .i64 e.op, .int .i64 e.n, .string e.s, .slice a e.args.length c] ∧ Kids w a e.args ∧ (RB (y.1.weights Tryz.prog 42) → okE e)
theorem kids_of {n : Nat} (IH : ExR enc w base spare held n) : ∀ (elems : List (DataW H × List MemPlace)) (b i : Nat),
    (∀ j, j < elems.length → (w.cells? base ⟨b, i + j * 4, none⟩ 4).bind (DataW.trod enc Tryz.prog w base spare held n 42) = elems[j]?) →
    ∃ l : List Ex, l.length = elems.length ∧ ExsAt w l b i ∧ (RB (DataW.weightsAll Tryz.prog 42 (elems.map (·.1))) → okEs l)
  | [], _, _, _ => ⟨[], rfl, by rw [ExsAt]; trivial, fun _ => by rw [okEs]; trivial⟩
  | y :: r, b, i, h => by
    have h0 := h 0 (by simp)
    rw [List.getElem?_cons_zero, Option.bind_eq_some_iff] at h0
    obtain ⟨cs, hcs, hy⟩ := h0
    obtain ⟨e, a, c, rfl, hk, hr⟩ := IH cs y hy
    have hc := (World.cells?_some hcs).2.2
    rw [Nat.zero_mul, Nat.add_zero] at hc
    obtain ⟨l, hl, hat, hrl⟩ := kids_of IH r b (i + 4) (fun j hj => by
      have := h (j + 1) (by simpa using hj)
      rw [List.getElem?_cons_succ] at this
      rw [show i + 4 + j * 4 = i + (j + 1) * 4 by omega]
      exact this)
    refine ⟨e :: l, by simp [hl], ?_, fun hw => ?_⟩
    · rw [ExsAt]
      refine ⟨?_, hat⟩
      have c0 := hc 0 (by decide)
      have c1 := hc 1 (by decide)
      have c2 := hc 2 (by decide)
      have c3 := hc 3 (by decide)
      rw [add_plain] at c0 c1 c2 c3
      obtain ⟨o, m, s, args⟩ := e
      rw [ExAt]
      exact ⟨c0, c1, c2, a, c, c3, hk⟩
    · rw [List.map_cons, DataW.weightsAll] at hw
      rw [okEs]
      exact ⟨hr hw.left, hrl hw.right⟩
theorem spot_none {a : Addr} {n : Nat} {f : List Value → Option (DataW H × List MemPlace)} {y : DataW H × List MemPlace} (hn : 0 < n) (h : (w.cells? base (a.add (0 * n)) n).bind f = some y) : a.spot = none := by
  rw [Option.bind_eq_some_iff] at h
  obtain ⟨cs, hcs, _⟩ := h
  obtain ⟨_, hl, hc⟩ := World.cells?_some hcs
  have h0 := hc 0 hn
  rw [List.getElem?_eq_getElem (by omega), Nat.zero_mul] at h0
  simpa [Addr.add] using World.cell?_spot h0
theorem slice_ex {n : Nat} (IH : ∀ m, m < n → ExR enc w base spare held m) {cs : List Value} {y : DataW H × List MemPlace} (h : DataW.trod enc Tryz.prog w base spare held n 40 cs = some y) :
    ∃ (l : List Ex) (a : Option Addr) (c : Nat), cs = [.slice a l.length c] ∧ Kids w a l ∧ (RB (y.1.weights Tryz.prog 40) → l.length ≤ 1000000000000000 ∧ okEs l) := by
  rcases DataW.trod_slice Tryz.underlying40 h with ⟨hcs, hx⟩ | ⟨a, len, cap, elems, rest, m, hm, hcs, hx, hb, hl, hmx, hlen, hel, _, _⟩
  · exact ⟨[], none, 0, hcs, Or.inl rfl, fun _ => ⟨Nat.zero_le _, by rw [okEs]; trivial⟩⟩
  · rw [cellsEx] at hel
    subst hlen
    by_cases h0 : elems.length = 0
    · refine ⟨[], some a, cap, by rw [hcs, h0]; rfl, Or.inl rfl, fun _ => ⟨Nat.zero_le _, by rw [okEs]; trivial⟩⟩
    · have hsp : a.spot = none := by
        have := hel 0 (by omega)
        rw [List.getElem?_eq_getElem (by omega)] at this
        exact spot_none (by decide) this
      obtain ⟨b, i, spot⟩ := a
      simp only at hsp
      subst hsp
      obtain ⟨l, hll, hat, hr⟩ := kids_of (IH m (by omega)) elems b i (fun j hj => by
        have := hel j hj
        rw [add_plain] at this
        exact this)
      refine ⟨l, some ⟨b, i, none⟩, cap, by rw [hcs, hll], Or.inr ⟨b, i, rfl, hat⟩, fun hw => ?_⟩
      rw [hx] at hw
      simp only [DataW.weights, Tryz.underlying40, bytesEx] at hw
      have h1 := hw.head
      have := reach47
      rw [List.length_map] at h1
      exact ⟨by rw [hll]; omega, hr hw.tail.left⟩
theorem ex_reads : ∀ n, ExR enc w base spare held n := by
  intro n
  induction n using Nat.strongRecOn with
  | ind n IH =>
    intro cs y h
    obtain ⟨xs, m, hm, hx, hl, hlen, hf⟩ := DataW.trod_struct Tryz.underlying42 h
    rw [cellsEx] at hl
    obtain ⟨c0, c1, c2, c3, rfl⟩ := four hl
    match xs, hlen, hx, hf with
    | [x0, x1, x2, x3], _, hx, hf =>
      have f0 := hf 0 _ rfl
      have f1 := hf 1 _ rfl
      have f2 := hf 2 _ rfl
      have f3 := hf 3 _ rfl
      obtain ⟨o, e0, e0', w0⟩ := DataW.trod_int Tryz.underlying3 f0
      obtain ⟨k, e1, e1', w1⟩ := DataW.trod_int Tryz.underlying2 f1
      obtain ⟨s, e2, e2', w2⟩ := DataW.trod_string Tryz.underlying9 f2
      obtain ⟨l, a, c, e3, hk, hr⟩ := slice_ex (n := m) (fun i hi => IH i (by omega)) f3
      simp [cellsStr, cellsInt, cellsI64, cellsExs] at e0 e1 e2 e3
      subst e0 e1 e2 e3 e0' e1' e2'
      refine ⟨.mk o k s l, a, c, rfl, hk, fun hw => ?_⟩
      rw [hx] at hw
      obtain ⟨fs, h1, h2⟩ := fieldsEx
      simp only [DataW.weights, h1, h2, DataW.weightsEach, List.map_cons, List.map_nil, List.nil_append, List.append_nil, List.cons_append] at hw
      have hs := hw.head
      obtain ⟨hl1, hl2⟩ := hr hw.tail
      have := reach47
      rw [← size_len] at hs
      rw [okE]
      exact ⟨bounds_i64 w0, bounds_i64 w1, by omega, hl1, hl2⟩
/-! ### statements -/

theorem st_of {s : St} {b i : Nat} {a1 a2 a3 a4 : Option Addr} {c1 c2 c3 c4 : Nat} (h : StCells w s b i a1 c1 a2 c2 a3 c3 a4 c4) (k : StKids w s a1 a2 a3 a4) : StAt w s b i := by
  obtain ⟨o, nm, mx, ⟨o1, n1, s1, l1⟩, ⟨o2, n2, s2, l2⟩, bd, el⟩ := s
  rw [StAt, ExAt, ExAt]
  exact ⟨h.k0, h.k1, h.k2, ⟨h.k3, h.k4, h.k5, a1, c1, h.k6, k.a⟩, ⟨h.k7, h.k8, h.k9, a2, c2, h.k10, k.b⟩, ⟨a3, c3, h.k11, k.body⟩, ⟨a4, c4, h.k12, k.els⟩⟩
def StR (enc : TypeId × Value → H) (w : World) (base : Nat) (spare : Nat → Bool) (held : Bool) (n : Nat) : Prop :=
  ∀ (cs : List Value) (y : DataW H × List MemPlace), DataW.trod enc Tryz.prog w base spare held n 44 cs = some y →
    ∃ (s : St) (a1 : Option Addr) (c1 : Nat) (a2 : Option Addr) (c2 : Nat) (a3 : Option Addr) (c3 : Nat) (a4 : Option Addr) (c4 : Nat),
      cs = [.int .i64 s.op, .string s.name, .int .i64 s.mx, .int .i64 s.a.op, .int .i64 s.a.n, .string s.a.s, .slice a1 s.a.args.length c1, .int .i64 s.b.op, .int .i64 s.b.n, .string s.b.s, .slice a2 s.b.args.length c2, .slice a3 s.body.length c3, .slice a4 s.els.length c4] ∧
      StKids w s a1 a2 a3 a4 ∧ (RB (y.1.weights Tryz.prog 44) → okS s)
theorem bodies_of {n : Nat} (IH : StR enc w base spare held n) : ∀ (elems : List (DataW H × List MemPlace)) (b i : Nat),
    (∀ j, j < elems.length → (w.cells? base ⟨b, i + j * 13, none⟩ 13).bind (DataW.trod enc Tryz.prog w base spare held n 44) = elems[j]?) →
    ∃ l : List St, l.length = elems.length ∧ StsAt w l b i ∧ (RB (DataW.weightsAll Tryz.prog 44 (elems.map (·.1))) → okB l)
  | [], _, _, _ => ⟨[], rfl, by rw [StsAt]; trivial, fun _ => by rw [okB]; trivial⟩
  | y :: r, b, i, h => by
    have h0 := h 0 (by simp)
    rw [List.getElem?_cons_zero, Option.bind_eq_some_iff] at h0
    obtain ⟨cs, hcs, hy⟩ := h0
    obtain ⟨s, a1, c1, a2, c2, a3, c3, a4, c4, rfl, hk, hr⟩ := IH cs y hy
    have hc := (World.cells?_some hcs).2.2
    rw [Nat.zero_mul, Nat.add_zero] at hc
    obtain ⟨l, hl, hat, hrl⟩ := bodies_of IH r b (i + 13) (fun j hj => by
      have := h (j + 1) (by simpa using hj)
      rw [List.getElem?_cons_succ] at this
      rw [show i + 13 + j * 13 = i + (j + 1) * 13 by omega]
      exact this)
    refine ⟨s :: l, by simp [hl], ?_, fun hw => ?_⟩
    · rw [StsAt]
      have hc' := hc
      simp only [add_plain] at hc'
      exact ⟨st_of ⟨hc' 0 (by decide), hc' 1 (by decide), hc' 2 (by decide), hc' 3 (by decide), hc' 4 (by decide), hc' 5 (by decide), hc' 6 (by decide), hc' 7 (by decide), hc' 8 (by decide), hc' 9 (by decide), hc' 10 (by decide), hc' 11 (by decide), hc' 12 (by decide)⟩ hk, hat⟩
    · rw [List.map_cons, DataW.weightsAll] at hw
      rw [okB]
      exact ⟨hr hw.left, hrl hw.right⟩
theorem slice_st {n : Nat} (IH : ∀ m, m < n → StR enc w base spare held m) {cs : List Value} {y : DataW H × List MemPlace} (h : DataW.trod enc Tryz.prog w base spare held n 23 cs = some y) :
    ∃ (l : List St) (a : Option Addr) (c : Nat), cs = [.slice a l.length c] ∧ Bodies w a l ∧ (RB (y.1.weights Tryz.prog 23) → l.length ≤ 1000000000000000 ∧ okB l) := by
  rcases DataW.trod_slice Tryz.underlying23 h with ⟨hcs, hx⟩ | ⟨a, len, cap, elems, rest, m, hm, hcs, hx, hb, hl, hmx, hlen, hel, _, _⟩
  · exact ⟨[], none, 0, hcs, Or.inl rfl, fun _ => ⟨Nat.zero_le _, by rw [okB]; trivial⟩⟩
  · rw [cellsSt] at hel
    subst hlen
    by_cases h0 : elems.length = 0
    · refine ⟨[], some a, cap, by rw [hcs, h0]; rfl, Or.inl rfl, fun _ => ⟨Nat.zero_le _, by rw [okB]; trivial⟩⟩
    · have hsp : a.spot = none := by
        have := hel 0 (by omega)
        rw [List.getElem?_eq_getElem (by omega)] at this
        exact spot_none (by decide) this
      obtain ⟨b, i, spot⟩ := a
      simp only at hsp
      subst hsp
      obtain ⟨l, hll, hat, hr⟩ := bodies_of (IH m (by omega)) elems b i (fun j hj => by
        have := hel j hj
        rw [add_plain] at this
        exact this)
      refine ⟨l, some ⟨b, i, none⟩, cap, by rw [hcs, hll], Or.inr ⟨b, i, rfl, hat⟩, fun hw => ?_⟩
      rw [hx] at hw
      simp only [DataW.weights, Tryz.underlying23, bytesSt] at hw
      have h1 := hw.head
      have := reach47
      rw [List.length_map] at h1
      exact ⟨by rw [hll]; omega, hr hw.tail.left⟩
theorem st_reads : ∀ n, StR enc w base spare held n := by
  intro n
  induction n using Nat.strongRecOn with
  | ind n IH =>
    intro cs y h
    obtain ⟨xs, m, hm, hx, hl, hlen, hf⟩ := DataW.trod_struct Tryz.underlying44 h
    rw [cellsSt] at hl
    obtain ⟨c0, c1, c2, c3, c4, c5, c6, c7, c8, c9, c10, c11, c12, rfl⟩ := thirteen hl
    match xs, hlen, hx, hf with
    | [x0, x1, x2, x3, x4, x5, x6], _, hx, hf =>
      have f0 := hf 0 _ rfl
      have f1 := hf 1 _ rfl
      have f2 := hf 2 _ rfl
      have f3 := hf 3 _ rfl
      have f4 := hf 4 _ rfl
      have f5 := hf 5 _ rfl
      have f6 := hf 6 _ rfl
      obtain ⟨o, e0, e0', w0⟩ := DataW.trod_int Tryz.underlying3 f0
      obtain ⟨nm, e1, e1', w1⟩ := DataW.trod_string Tryz.underlying9 f1
      obtain ⟨mx, e2, e2', w2⟩ := DataW.trod_int Tryz.underlying3 f2
      obtain ⟨ea, a1, k1, e3, hk1, hr1⟩ := ex_reads m _ _ f3
      obtain ⟨eb, a2, k2, e4, hk2, hr2⟩ := ex_reads m _ _ f4
      obtain ⟨lb, a3, k3, e5, hk3, hr3⟩ := slice_st (n := m) (fun i hi => IH i (by omega)) f5
      obtain ⟨le, a4, k4, e6, hk4, hr4⟩ := slice_st (n := m) (fun i hi => IH i (by omega)) f6
      simp [cellsStr, cellsInt, cellsEx, cellsSts] at e0 e1 e2 e3 e4 e5 e6
      obtain ⟨rfl, rfl, rfl, rfl⟩ := e3
      obtain ⟨rfl, rfl, rfl, rfl⟩ := e4
      subst e0 e1 e2 e5 e6 e0' e1' e2'
      refine ⟨.mk o nm mx ea eb lb le, a1, k1, a2, k2, a3, k3, a4, k4, rfl, ⟨hk1, hk2, hk3, hk4⟩, fun hw => ?_⟩
      rw [hx] at hw
      obtain ⟨fs, h1, h2⟩ := fieldsSt
      simp only [DataW.weights, h1, h2, DataW.weightsEach, List.map_cons, List.map_nil, List.nil_append, List.append_nil, List.cons_append] at hw
      have hs := hw.head
      have hw1 := hw.tail
      obtain ⟨hl1, hl2⟩ := hr3 hw1.right.right.left
      obtain ⟨hl3, hl4⟩ := hr4 hw1.right.right.right
      have := reach47
      rw [← size_len] at hs
      rw [okS]
      exact ⟨bounds_i64 w0, by omega, bounds_i64 w2, hr1 hw1.left, hr2 hw1.right.left, hl1, hl2, hl3, hl4⟩
/-! ### parameters -/
theorem two {α : Type} {cs : List α} (h : cs.length = 2) : ∃ a b, cs = [a, b] := by
  match cs, h with
  | [a, b], _ => exact ⟨a, b, rfl⟩

set_option maxRecDepth 10000 in
theorem pms_of {n : Nat} : ∀ (elems : List (DataW H × List MemPlace)) (b i : Nat),
    (∀ j, j < elems.length → (w.cells? base ⟨b, i + j * 2, none⟩ 2).bind (DataW.trod enc Tryz.prog w base spare held n 49) = elems[j]?) →
    ∃ l : List Pm, l.length = elems.length ∧ (∀ j (h : j < l.length), w.cell? ⟨b, i + j * 2, none⟩ = some (.string l[j].name) ∧ w.cell? ⟨b, i + j * 2 + 1, none⟩ = some (.int .i64 l[j].ty)) ∧
      (RB (DataW.weightsAll Tryz.prog 49 (elems.map (·.1))) → ∀ j (h : j < l.length), l[j].name.size ≤ 1000000000000000)
  | [], _, _, _ => ⟨[], rfl, (fun j h => by cases h), (fun _ j h => by cases h)⟩
  | y :: r, b, i, h => by
    have h0 := h 0 (by simp)
    rw [List.getElem?_cons_zero, Option.bind_eq_some_iff] at h0
    obtain ⟨cs, hcs, hy⟩ := h0
    obtain ⟨_, hl2, hc⟩ := World.cells?_some hcs
    obtain ⟨xs, m, hm, hx, hl, hlen, hf⟩ := DataW.trod_struct Tryz.underlying49 hy
    obtain ⟨c0, c1, rfl⟩ := two hl2
    obtain ⟨x0, x1, rfl⟩ := two (α := DataW H × List MemPlace) (hlen.trans rfl)
    have f0 := hf 0 _ rfl
    have f1 := hf 1 _ rfl
    obtain ⟨nm, e0, e0', w0⟩ := DataW.trod_string Tryz.underlying9 f0
    obtain ⟨ty, e1, e1', w1⟩ := DataW.trod_int Tryz.underlying3 f1
    simp [cellsStr, cellsInt] at e0 e1
    subst e0 e1 e0' e1'
    rw [Nat.zero_mul, Nat.add_zero] at hc
    obtain ⟨l, hll, hat, hrl⟩ := pms_of r b (i + 2) (fun j hj => by
      have := h (j + 1) (by simpa using hj)
      rw [List.getElem?_cons_succ] at this
      rw [show i + 2 + j * 2 = i + (j + 1) * 2 by omega]
      exact this)
    refine ⟨⟨nm, ty⟩ :: l, by simp [hll], fun j hj => ?_, fun hw j hj => ?_⟩
    · cases j with
      | zero =>
        have k0 := hc 0 (by decide)
        have k1 := hc 1 (by decide)
        rw [add_plain] at k0 k1
        exact ⟨by simpa using k0, by simpa using k1⟩
      | succ j =>
        have := hat j (by simpa using hj)
        rw [show i + (j + 1) * 2 = i + 2 + j * 2 by omega]
        simpa using this
    · rw [List.map_cons, DataW.weightsAll, hx] at hw
      obtain ⟨fs, h1, h2⟩ := fieldsPm
      cases j with
      | zero =>
        have hw0 := hw.left
        simp only [DataW.weights, h1, h2, DataW.weightsEach, List.map_cons, List.map_nil, List.append_nil] at hw0
        have hs := hw0.head
        have := reach47
        rw [← size_len] at hs
        show nm.size ≤ _
        omega
      | succ j =>
        have := hrl hw.right j (by simpa using hj)
        simpa using this
theorem slice_pm {n : Nat} {cs : List Value} {y : DataW H × List MemPlace} (h : DataW.trod enc Tryz.prog w base spare held n 22 cs = some y) :
    ∃ (l : List Pm) (a : Option Addr) (c : Nat), cs = [.slice a l.length c] ∧ PmsAt w a l ∧ l.length ≤ c ∧ (RB (y.1.weights Tryz.prog 22) → l.length ≤ 1000000000000000 ∧ ∀ j (h : j < l.length), l[j].name.size ≤ 1000000000000000) := by
  rcases DataW.trod_slice Tryz.underlying22 h with ⟨hcs, hx⟩ | ⟨a, len, cap, elems, rest, m, hm, hcs, hx, hb, hl, hmx, hlen, hel, _, _⟩
  · exact ⟨[], none, 0, hcs, Or.inl rfl, Nat.le_refl _, fun _ => ⟨Nat.zero_le _, (fun j h => by cases h)⟩⟩
  · rw [cellsPm] at hel
    subst hlen
    by_cases h0 : elems.length = 0
    · exact ⟨[], some a, cap, by rw [hcs, h0]; rfl, Or.inl rfl, Nat.zero_le _, fun _ => ⟨Nat.zero_le _, (fun j h => by cases h)⟩⟩
    · have hsp : a.spot = none := by
        have := hel 0 (by omega)
        rw [List.getElem?_eq_getElem (by omega)] at this
        exact spot_none (by decide) this
      obtain ⟨b, i, spot⟩ := a
      simp only at hsp
      subst hsp
      obtain ⟨l, hll, hat, hr⟩ := pms_of elems b i (fun j hj => by
        have := hel j hj
        rw [add_plain] at this
        exact this)
      refine ⟨l, some ⟨b, i, none⟩, cap, by rw [hcs, hll], Or.inr ⟨b, i, rfl, hat⟩, by omega, fun hw => ?_⟩
      rw [hx] at hw
      simp only [DataW.weights, Tryz.underlying22, bytesPm] at hw
      have h1 := hw.head
      have := reach47
      rw [List.length_map] at h1
      exact ⟨by rw [hll]; omega, hr hw.tail.left⟩
/-! ### arguments -/

theorem rb_each {ts : List TypeId} {ds : List (DataW H)} (hz : (DataW.weightsEach Tryz.prog ts ds).all (· ≤ reachBytes) = true) {j : Nat} {t : TypeId} {d : DataW H} (ht : ts[j]? = some t) (hd : ds[j]? = some d) : RB (d.weights Tryz.prog t) :=
  fun x hx => by simpa using List.all_eq_true.1 hz _ (DataW.weights_mem_each ht hd x hx)
set_option maxRecDepth 100000 in
theorem open_pr {v : Value} {d : DataW H} {p : List MemPlace} (hv : Value.okWide Tryz.prog w .any b0 25 v) (h : DataW.Trod enc Tryz.prog w base spare held 25 v d p) :
    ∃ (x : Pr) (a1 : Option Addr) (c1 : Nat) (a2 : Option Addr) (c2 : Nat), v = prV x a1 c1 a2 c2 ∧ PrIn w x a1 a2 ∧ x.params.length ≤ c1 ∧ (RB (d.weights Tryz.prog 25) → OkP x) := by
  obtain ⟨c0, c1, c2, y0, y1, y2, m, rfl, rfl, rfl, hy0, hy1, hy2⟩ := open_agg3 Tryz.underlying25 (by kernel_rfl) cellsPr hv h
  obtain ⟨nm, e0, e0', w0⟩ := DataW.trod_string Tryz.underlying9 hy0
  obtain ⟨lp, a1, k1, e1, hk1, hc1, hr1⟩ := slice_pm hy1
  obtain ⟨lb, a2, k2, e2, hk2, hr2⟩ := slice_st (fun i _ => st_reads i) hy2
  simp at e0 e1 e2
  subst e0 e1 e2
  refine ⟨⟨nm, lp, lb⟩, a1, k1, a2, k2, rfl, ⟨hk1, hk2⟩, hc1, fun hw => ?_⟩
  obtain ⟨fs, h1, h2⟩ := fieldsPr
  rw [e0'] at hw
  simp only [DataW.weights, h1, h2, DataW.weightsEach, List.nil_append, List.append_nil, List.cons_append] at hw
  have hs := hw.head
  have hw1 := hw.tail
  obtain ⟨q1, q2⟩ := hr1 hw1.left
  obtain ⟨q3, q4⟩ := hr2 hw1.right
  have := reach47
  rw [← size_len] at hs
  exact ⟨by show nm.size ≤ _; omega, q1, q2, q3, q4⟩
end
end Go.Proofs.YtnelpgeiioflmaaGreatDoor.A
namespace Go.Proofs.YtnelpgeiioflmaaGreatDoor
open Go.ChangeShapes Go.WideShapes Go.ChangeAt Go.WideMaps Go.WideElems Go.RowKit

theorem own : ownKnob Tryz.prog.godebug = none := by kernel_rfl
theorem gOps : Tryz.prog.globalNamed "clockwork/types.operators" = some 0 := by kernel_rfl
theorem tOps : (Tryz.prog.globals[0]?).map (·.type) = some 145 := by kernel_rfl
theorem cOp : Tryz.prog.cellsOf 144 = 2 := by kernel_rfl
theorem cSet : Tryz.prog.cellsOf 142 = 1 := by kernel_rfl
theorem cInt : Tryz.prog.cellsOf 3 = 1 := by kernel_rfl
def laid1 : List (String × DataW Unit) := [("clockwork/types.operators", Rows.laid_clockwork_types_operators)]
theorem met1 (os : Os) (args : Array Value) : laidMetH Tryz.prog laid1 ((World.laidAll Tryz.prog os laid1).forCall (fun _ _ => 0) ⟨#[], args, []⟩).memory := by
  rw [MakeChecks.laidMetH_plain _ _ _ (by kernel_rfl)]
  exact laidMet_laidAll _ (by kernel_rfl) (by kernel_rfl)
theorem shape1 (os : Os) : (World.laidAll Tryz.prog os laid1).Shaped Tryz.prog := World.shaped_of_ZipB (by kernel_rfl) (by kernel_rfl)
def opsData : List (DataW Unit) := (List.range 28).map fun (n : Nat) => .agg [.lit (.int .i64 (Y.inE (n : Int))), .lit (.int .i64 (Y.outE (n : Int)))]
theorem ops_laid : (Rows.laid_clockwork_types_operators : DataW Unit) = .agg opsData := by kernel_rfl
theorem ops_of {W : World} (h : Lib.VarReads Tryz.prog W "clockwork/types.operators" Rows.laid_clockwork_types_operators) (n : Nat) (h2 : n ≤ 27) :
    W.cell? ⟨0, n * 2, none⟩ = some (.int .i64 (Y.inE (n : Int))) ∧ W.cell? ⟨0, n * 2 + 1, none⟩ = some (.int .i64 (Y.outE (n : Int))) := by
  rw [ops_laid] at h
  obtain ⟨g, t, cs, fuel, p, hg, hty, hvar, hd⟩ := h
  obtain rfl := Option.some.inj (gOps.symm.trans hg)
  obtain rfl := Option.some.inj (tOps.symm.trans hty)
  obtain ⟨fuel', d, q, hdi, he⟩ := Lib.array_elem Tryz.underlying145 hd n (by omega)
  unfold opsData at hdi
  simp only [List.getElem?_map, List.getElem?_range (show n < 28 by omega), Option.map_some, Option.some.injEq] at hdi
  subst hdi
  rw [cOp] at he
  obtain ⟨xs, m, hm, hx, hl, hlen, hf⟩ := DataW.trod_struct Tryz.underlying144 he
  match xs, hlen, hx, hf with
  | [x0, x1], _, hx, hf =>
    have f0 := hf 0 _ rfl
    have f1 := hf 1 _ rfl
    obtain ⟨o, e0, e0', _⟩ := DataW.trod_int Tryz.underlying142 f0
    obtain ⟨s, e1, e1', _⟩ := DataW.trod_int Tryz.underlying3 f1
    subst e0' e1'
    simp at hx
    obtain ⟨⟨rfl, rfl⟩, _⟩ := hx
    simp [cInt, cSet] at e0 e1
    have c0 := congrArg (·[0]?) e0
    have c1 := congrArg (·[0]?) e1
    simp [List.getElem?_drop] at c0 c1
    constructor
    · rw [World.var?_cell gOps hvar (n * 2), ← Array.getElem?_toList]
      simpa using c0
    · rw [World.var?_cell gOps hvar (n * 2 + 1), ← Array.getElem?_toList]
      simpa using c1
theorem tab_of_1 {W : World} (h : laidMetH Tryz.prog laid1 W) : Y.Tb W := by
  rw [MakeChecks.laidMetH_plain _ _ _ (by kernel_rfl)] at h
  have ho := Lib.laidMet.reads h (show ("clockwork/types.operators", Rows.laid_clockwork_types_operators) ∈ laid1 by simp [laid1])
  exact ⟨fun n hn => (ops_of ho n hn).1, fun n hn => (ops_of ho n hn).2⟩
end Go.Proofs.YtnelpgeiioflmaaGreatDoor
namespace Go.Proofs.YtnelpgeiioflmaaGreatDoor.Y
open Go.ChangeShapes Go.WideShapes Go.ChangeAt Go.WideMaps Go.WideElems Go.RowKit Go.Joins
open L (size_len)
open A (Pm PmsAt RB RB.left RB.right RB.head RB.tail reach47 two bounds_i64 cellsPm bytesPm fieldsPm spot_none cellsStr cellsInt)
section
variable {H : Type} {enc : TypeId × Value → H} {w : World} {base b0 : Nat} {spare : Nat → Bool} {held : Bool}
end
end Go.Proofs.YtnelpgeiioflmaaGreatDoor.Y
