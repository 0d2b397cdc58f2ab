/-
  Expressions and procedures as arguments of the rows of layer 8: what a reading shows, and what the reach gives.
-/
import Derived.Test.YtgjnddjpinhkgaaRows
import Derived.Test.YtgjnddjpinhkgaaM03
import Derived.WalkKit
import Derived.ProofKit
import Derived.OpenShut
import Derived.ChangeMaps5
import Derived.Lib.SmallJoins
import Derived.SliceStrings
import Derived.JoinedCond
import Derived.Carry
import Derived.SizedLaws
namespace Go.Proofs.Ytgjnddjpinhkgaa.A
open Go.ChangeShapes Go.WideShapes Go.ChangeAt Go.WideMaps Go.WideElems Go.RowKit Go.Joins
open L (size_len)

theorem own : ownKnob Try.prog.godebug = none := by kernel_rfl
theorem laid_out : laidOutB Try.prog = true := by kernel_rfl
theorem cellsEx : Try.prog.cellsOf 24 = 4 := by kernel_rfl
theorem cellsInt : Try.prog.cellsOf 3 = 1 := by kernel_rfl
theorem cellsI64 : Try.prog.cellsOf 2 = 1 := by kernel_rfl
theorem cellsStr : Try.prog.cellsOf 9 = 1 := by kernel_rfl
theorem cellsExs : Try.prog.cellsOf 22 = 1 := by kernel_rfl
theorem bytesEx : Try.prog.bytesOf 24 = 56 := by kernel_rfl
theorem fieldsEx : ∃ fs, Try.prog.underlying 24 = some (.struct fs) ∧ fs.toList.map (·.type) = [3, 2, 9, 22] := ⟨_, Try.underlying24, rfl⟩
theorem bounds_i64 {a : Int} (h : (Lit.int .i64 a).wf = true) : -9223372036854775808 ≤ a ∧ a ≤ 9223372036854775807 := by
  simpa [Lit.wf, IntKind.min, IntKind.max, IntKind.bits, IntKind.signed] using h
/-- within the reach -/
def RB (ws : List Nat) : Prop := ∀ x ∈ ws, x ≤ reachBytes
theorem RB.left {a b : List Nat} (h : RB (a ++ b)) : RB a := fun x hx => h x (List.mem_append.2 (Or.inl hx))
theorem RB.right {a b : List Nat} (h : RB (a ++ b)) : RB b := fun x hx => h x (List.mem_append.2 (Or.inr hx))
theorem RB.head {a : Nat} {b : List Nat} (h : RB (a :: b)) : a ≤ reachBytes := h a List.mem_cons_self
theorem RB.tail {a : Nat} {b : List Nat} (h : RB (a :: b)) : RB b := fun x hx => h x (List.mem_cons_of_mem _ hx)
theorem reach47 : reachBytes ≤ 140737488355328 := by decide
section
variable {H : Type} {enc : TypeId × Value → H} {w : World} {base b0 : Nat} {spare : Nat → Bool} {held : Bool}
theorem four {cs : List Value} (h : cs.length = 4) : ∃ a b c d, cs = [a, b, c, d] := by
  match cs, h with
  | [a, b, c, d], _ => exact ⟨a, b, c, d, rfl⟩
/-- a reading of an expression's cells, at this depth of reading -/
def ExR (enc : TypeId × Value → H) (w : World) (base : Nat) (spare : Nat → Bool) (held : Bool) (n : Nat) : Prop :=
  ∀ (cs : List Value) (y : DataW H × List MemPlace), DataW.trod enc Try.prog w base spare held n 24 cs = some y →
    ∃ (e : Ex) (a : Option Addr) (c : Nat), cs = [.int .i64 e.op, .int .i64 e.n, .string e.s, .slice a e.args.length c] ∧ Kids w a e.args ∧ (RB (y.1.weights Try.prog 24) → okE e)
theorem kids_of {n : Nat} (IH : ExR enc w base spare held n) : ∀ (elems : List (DataW H × List MemPlace)) (b i : Nat),
    (∀ j, j < elems.length → (w.cells? base ⟨b, i + j * 4, none⟩ 4).bind (DataW.trod enc Try.prog w base spare held n 24) = elems[j]?) →
    ∃ l : List Ex, l.length = elems.length ∧ ExsAt w l b i ∧ (RB (DataW.weightsAll Try.prog 24 (elems.map (·.1))) → okEs l)
  | [], _, _, _ => ⟨[], rfl, by rw [ExsAt]; trivial, fun _ => by rw [okEs]; trivial⟩
  | y :: r, b, i, h => by
    have h0 := h 0 (by simp)
    rw [List.getElem?_cons_zero, Option.bind_eq_some_iff] at h0
    obtain ⟨cs, hcs, hy⟩ := h0
    obtain ⟨e, a, c, rfl, hk, hr⟩ := IH cs y hy
    have hc := (World.cells?_some hcs).2.2
    rw [Nat.zero_mul, Nat.add_zero] at hc
    obtain ⟨l, hl, hat, hrl⟩ := kids_of IH r b (i + 4) (fun j hj => by
      have := h (j + 1) (by simpa using hj)
      rw [List.getElem?_cons_succ] at this
      rw [show i + 4 + j * 4 = i + (j + 1) * 4 by omega]
      exact this)
    refine ⟨e :: l, by simp [hl], ?_, fun hw => ?_⟩
    · rw [ExsAt]
      refine ⟨?_, hat⟩
      have c0 := hc 0 (by decide)
      have c1 := hc 1 (by decide)
      have c2 := hc 2 (by decide)
      have c3 := hc 3 (by decide)
      rw [add_plain] at c0 c1 c2 c3
      obtain ⟨o, m, s, args⟩ := e
      rw [ExAt]
      exact ⟨c0, c1, c2, a, c, c3, hk⟩
    · rw [List.map_cons, DataW.weightsAll] at hw
      rw [okEs]
      exact ⟨hr hw.left, hrl hw.right⟩
theorem spot_none {a : Addr} {n : Nat} {f : List Value → Option (DataW H × List MemPlace)} {y : DataW H × List MemPlace} (hn : 0 < n) (h : (w.cells? base (a.add (0 * n)) n).bind f = some y) : a.spot = none := by
  rw [Option.bind_eq_some_iff] at h
  obtain ⟨cs, hcs, _⟩ := h
  obtain ⟨_, hl, hc⟩ := World.cells?_some hcs
  have h0 := hc 0 hn
  rw [List.getElem?_eq_getElem (by omega), Nat.zero_mul] at h0
  simpa [Addr.add] using World.cell?_spot h0
/-- a slice of expressions -/
theorem slice_ex {n : Nat} (IH : ∀ m, m < n → ExR enc w base spare held m) {cs : List Value} {y : DataW H × List MemPlace} (h : DataW.trod enc Try.prog w base spare held n 22 cs = some y) :
    ∃ (l : List Ex) (a : Option Addr) (c : Nat), cs = [.slice a l.length c] ∧ Kids w a l ∧ (RB (y.1.weights Try.prog 22) → l.length ≤ 1000000000000000 ∧ okEs l) := by
  rcases DataW.trod_slice Try.underlying22 h with ⟨hcs, hx⟩ | ⟨a, len, cap, elems, rest, m, hm, hcs, hx, hb, hl, hmx, hlen, hel, _, _⟩
  · exact ⟨[], none, 0, hcs, Or.inl rfl, fun _ => ⟨Nat.zero_le _, by rw [okEs]; trivial⟩⟩
  · rw [cellsEx] at hel
    subst hlen
    by_cases h0 : elems.length = 0
    · refine ⟨[], some a, cap, by rw [hcs, h0]; rfl, Or.inl rfl, fun _ => ⟨Nat.zero_le _, by rw [okEs]; trivial⟩⟩
    · have hsp : a.spot = none := by
        have := hel 0 (by omega)
        rw [List.getElem?_eq_getElem (by omega)] at this
        exact spot_none (by decide) this
      obtain ⟨b, i, spot⟩ := a
      simp only at hsp
      subst hsp
      obtain ⟨l, hll, hat, hr⟩ := kids_of (IH m (by omega)) elems b i (fun j hj => by
        have := hel j hj
        rw [add_plain] at this
        exact this)
      refine ⟨l, some ⟨b, i, none⟩, cap, by rw [hcs, hll], Or.inr ⟨b, i, rfl, hat⟩, fun hw => ?_⟩
      rw [hx] at hw
      simp only [DataW.weights, Try.underlying22, bytesEx] at hw
      have h1 := hw.head
      have := reach47
      rw [List.length_map] at h1
      exact ⟨by rw [hll]; omega, hr hw.tail.left⟩
/-- an expression's cells -/
theorem ex_reads : ∀ n, ExR enc w base spare held n := by
  intro n
  induction n using Nat.strongRecOn with
  | ind n IH =>
    intro cs y h
    obtain ⟨xs, m, hm, hx, hl, hlen, hf⟩ := DataW.trod_struct Try.underlying24 h
    rw [cellsEx] at hl
    obtain ⟨c0, c1, c2, c3, rfl⟩ := four hl
    match xs, hlen, hx, hf with
    | [x0, x1, x2, x3], _, hx, hf =>
      have f0 := hf 0 _ rfl
      have f1 := hf 1 _ rfl
      have f2 := hf 2 _ rfl
      have f3 := hf 3 _ rfl
      obtain ⟨o, e0, e0', w0⟩ := DataW.trod_int Try.underlying3 f0
      obtain ⟨k, e1, e1', w1⟩ := DataW.trod_int Try.underlying2 f1
      obtain ⟨s, e2, e2', w2⟩ := DataW.trod_string Try.underlying9 f2
      obtain ⟨l, a, c, e3, hk, hr⟩ := slice_ex (n := m) (fun i hi => IH i (by omega)) f3
      simp [cellsStr, cellsInt, cellsI64, cellsExs] at e0 e1 e2 e3
      subst e0 e1 e2 e3 e0' e1' e2'
      refine ⟨.mk o k s l, a, c, rfl, hk, fun hw => ?_⟩
      rw [hx] at hw
      obtain ⟨fs, h1, h2⟩ := fieldsEx
      simp only [DataW.weights, h1, h2, DataW.weightsEach, List.map_cons, List.map_nil, List.nil_append, List.append_nil, List.cons_append] at hw
      have hs := hw.head
      obtain ⟨hl1, hl2⟩ := hr hw.tail
      have := reach47
      rw [← size_len] at hs
      rw [okE]
      exact ⟨bounds_i64 w0, bounds_i64 w1, by omega, hl1, hl2⟩
/-! ### statements -/

/-! ### arguments -/

theorem rb_each {ts : List TypeId} {ds : List (DataW H)} (hz : (DataW.weightsEach Try.prog ts ds).all (· ≤ reachBytes) = true) {j : Nat} {t : TypeId} {d : DataW H} (ht : ts[j]? = some t) (hd : ds[j]? = some d) : RB (d.weights Try.prog t) :=
  fun x hx => by simpa using List.all_eq_true.1 hz _ (DataW.weights_mem_each ht hd x hx)
set_option maxRecDepth 100000 in
/-- an expression as an argument -/
theorem open_ex {v : Value} {d : DataW H} {p : List MemPlace} (hv : Value.okWide Try.prog w .any b0 24 v) (h : DataW.Trod enc Try.prog w base spare held 24 v d p) :
    ∃ (e : Ex) (a : Option Addr) (c : Nat), v = exV e a c ∧ Kids w a e.args ∧ (RB (d.weights Try.prog 24) → okE e) := by
  obtain ⟨cs, rfl, hsz⟩ := okWide_struct Try.underlying24 hv
  obtain ⟨fuel, hf⟩ := h
  have hc : (Value.agg cs).cells.toList = cs.toList := by simp [Value.cells]
  rw [hc] at hf
  obtain ⟨e, a, c, he, hk, hr⟩ := ex_reads fuel _ _ hf
  refine ⟨e, a, c, ?_, hk, hr⟩
  unfold exV
  congr 1
  exact Array.toList_inj.1 (by rw [he])
end
end Go.Proofs.Ytgjnddjpinhkgaa.A
