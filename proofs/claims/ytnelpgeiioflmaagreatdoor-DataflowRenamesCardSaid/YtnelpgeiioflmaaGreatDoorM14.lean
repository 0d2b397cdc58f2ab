/-
  Maps from strings to numbers and to truth values that a call makes, as functions: what a look-up, a store and a deletion do.
  What the program's functions of layer 11 return: has, accepts, typeError, typeOfVariable: contracts.
  What the program's functions of layer 11 return: typeOf: a contract by induction on the tree.
  What the program's functions of layer 11 return: Of: a contract.
  The checker of layer 11 in memory; declare and assignment: contracts.
-/
import Derived.Test.YtnelpgeiioflmaaGreatDoorSYProc
import Derived.Test.YtnelpgeiioflmaaGreatDoorM08
import Derived.Maps.OwnSet
import Derived.Maps.OwnOps
import Derived.Test.YtnelpgeiioflmaaGreatDoorM09
import Derived.Test.YtnelpgeiioflmaaGreatDoorM04
import Derived.Deep.RegionLaw
import Derived.Deep.RegionWith
namespace Go.Proofs.YtnelpgeiioflmaaGreatDoor.Y
open Go.RowKit Go.WideMaps Go.ChangeMaps
open Go.Maps (Keyed)
open A (Ex St Pm Pr V)

theorem zero_i (w : World) : (zeroValue 3).run Tryz.prog w = .ok (.int .i64 0) w := by kernel_rfl
theorem zero_b (w : World) : (zeroValue 4).run Tryz.prog w = .ok (.bool false) w := by kernel_rfl
theorem key_s : Keyed Tryz.prog 9 := Go.Maps.string_keyed Tryz.underlying9
theorem key_mk {x : ByteArray} (hx : x.size ≤ maxLen) : keyOf Tryz.prog 9 (.string x) = some (.string x.data.toList) := keyOf_string_mk Tryz.underlying9 hx
theorem lit_ne {x y : ByteArray} (h : x ≠ y) : (Lit.string x.data.toList) ≠ Lit.string y.data.toList := fun e => h (by
  injection e with e
  exact L.bytes_eq e)
theorem k_is (y : ByteArray) : WideAt.IsKeyLit (.string y.data.toList) := trivial
def MI (w : World) (b n : Nat) (f : Env) : Prop := ∃ D : DataW Unit, w.ownsMap Tryz.prog 9 (plainElem Tryz.prog 3) b n D ∧
  ∀ x : ByteArray, Maps.has D (.string x.data.toList) = (f x).isSome ∧ D.atKey (.string x.data.toList) (.lit (.int .i64 0)) = .lit (.int .i64 ((f x).getD 0))
def MB (w : World) (b n : Nat) (g : ByteArray → Bool) : Prop := ∃ D : DataW Unit, w.ownsMap Tryz.prog 9 (plainElem Tryz.prog 4) b n D ∧
  ∀ x : ByteArray, D.atKey (.string x.data.toList) (.lit (.bool false)) = .lit (.bool (g x))
theorem MI.made (w : World) : MI (w.alloc (.map #[] 0)) w.heap.size 0 (fun _ => none) := ⟨.map [], World.ownsMap_made _ _ _ _, fun _ => ⟨rfl, rfl⟩⟩
theorem MB.made (w : World) : MB (w.alloc (.map #[] 0)) w.heap.size 0 (fun _ => false) := ⟨.map [], World.ownsMap_made _ _ _ _, fun _ => rfl⟩
theorem MI.lt {w : World} {b n : Nat} {f : Env} (h : MI w b n f) : b < w.heap.size := by obtain ⟨D, h, _⟩ := h; exact h.lt
theorem MB.lt {w : World} {b n : Nat} {f : ByteArray → Bool} (h : MB w b n f) : b < w.heap.size := by obtain ⟨D, h, _⟩ := h; exact h.lt
theorem MI.moved {w w' : World} {b n : Nat} {f : Env} (h : MI w b n f) (hb : w'.heap[b]? = w.heap[b]?) : MI w' b n f := by
  obtain ⟨D, ⟨es, clock, h1, r⟩, h2⟩ := h
  exact ⟨D, ⟨es, clock, hb.trans h1, r⟩, h2⟩
theorem MB.moved {w w' : World} {b n : Nat} {f : ByteArray → Bool} (h : MB w b n f) (hb : w'.heap[b]? = w.heap[b]?) : MB w' b n f := by
  obtain ⟨D, ⟨es, clock, h1, r⟩, h2⟩ := h
  exact ⟨D, ⟨es, clock, hb.trans h1, r⟩, h2⟩
theorem MI.below {w w' : World} {b n : Nat} {f : Env} (h : MI w b n f) (hb : Below w.heap.size w w') : MI w' b n f := h.moved (hb.block b h.lt)
theorem MB.below {w w' : World} {b n : Nat} {f : ByteArray → Bool} (h : MB w b n f) (hb : Below w.heap.size w w') : MB w' b n f := h.moved (hb.block b h.lt)
theorem MI.mono {w : World} {b n n' : Nat} {f : Env} (h : MI w b n f) (hn : n ≤ n') : MI w b n' f := by obtain ⟨D, h, r⟩ := h; exact ⟨D, h.mono hn, r⟩
theorem MB.mono {w : World} {b n n' : Nat} {f : ByteArray → Bool} (h : MB w b n f) (hn : n ≤ n') : MB w b n' f := by obtain ⟨D, h, r⟩ := h; exact ⟨D, h.mono hn, r⟩
/-! ### look-ups -/
theorem MI.look {w : World} {b n : Nat} {f : Env} (h : MI w b n f) {x : ByteArray} (hx : x.size ≤ maxLen) (T : TypeId) (ht : Tryz.prog.underlying T = some (.map 9 3)) :
    (Instr.lookup T (.map (some b)) (.string x) true).run Tryz.prog w = .ok (.tuple #[.int .i64 ((f x).getD 0), .bool (f x).isSome]) w := by
  obtain ⟨D, h, r⟩ := h
  obtain ⟨v, ps, h1, h2⟩ := h.look_ok key_s ht (zero_i w) (plainElem_int Tryz.underlying3 (by decide)) (key_mk hx)
  obtain ⟨c, rfl, h3, h4⟩ := plainElem_int_inv Tryz.underlying3 h2
  rw [(r x).2] at h3
  simp only [Prod.mk.injEq, DataW.lit.injEq, Lit.int.injEq, true_and] at h3
  rw [h1, (r x).1, h3.1]
theorem plainElem_bool_inv {H : Type} {v : Value} {z : DataW H × List MemPlace} (h : plainElem Tryz.prog 4 v = some z) : ∃ a, v = .bool a ∧ z = (.lit (.bool a), []) := by
  unfold plainElem at h
  simp only [show Tryz.prog.underlying 4 = some .bool from Tryz.underlying4] at h
  cases v <;> simp at h
  exact ⟨_, rfl, h.symm⟩
theorem MB.look {w : World} {b n : Nat} {f : ByteArray → Bool} (h : MB w b n f) {x : ByteArray} (hx : x.size ≤ maxLen) (T : TypeId) (ht : Tryz.prog.underlying T = some (.map 9 4)) :
    (Instr.lookup T (.map (some b)) (.string x) false).run Tryz.prog w = .ok (.bool (f x)) w := by
  obtain ⟨D, h, r⟩ := h
  obtain ⟨v, ps, h1, h2⟩ := h.lookup key_s ht (zero_b w) (plainElem_bool Tryz.underlying4 false) (key_mk hx)
  obtain ⟨c, rfl, h3⟩ := plainElem_bool_inv h2
  rw [r x] at h3
  simp only [Prod.mk.injEq, DataW.lit.injEq, Lit.bool.injEq] at h3
  rw [h1, h3.1]
/-! ### what a store and a deletion leave -/
theorem rep_put {D : DataW Unit} {f : Env} (hD : Maps.IsMap D) (r : ∀ x : ByteArray, Maps.has D (.string x.data.toList) = (f x).isSome ∧ D.atKey (.string x.data.toList) (.lit (.int .i64 0)) = .lit (.int .i64 ((f x).getD 0))) (y : ByteArray) (t : Int) :
    ∀ x : ByteArray, Maps.has (D.put (.string y.data.toList) (.lit (.int .i64 t))) (.string x.data.toList) = (put f y t x).isSome ∧ (D.put (.string y.data.toList) (.lit (.int .i64 t))).atKey (.string x.data.toList) (.lit (.int .i64 0)) = .lit (.int .i64 ((put f y t x).getD 0)) := fun x => by
  unfold put
  by_cases h : y = x
  · subst h
    rw [if_pos rfl, Maps.has_put_same hD (k_is y), Maps.atKey_put_same hD (k_is y)]
    exact ⟨rfl, rfl⟩
  · rw [if_neg h, Maps.has_put_other (lit_ne (Ne.symm h)), Maps.atKey_put_other (lit_ne (Ne.symm h))]
    exact r x
theorem rep_del {D : DataW Unit} {f : Env} (r : ∀ x : ByteArray, Maps.has D (.string x.data.toList) = (f x).isSome ∧ D.atKey (.string x.data.toList) (.lit (.int .i64 0)) = .lit (.int .i64 ((f x).getD 0))) (y : ByteArray) :
    ∀ x : ByteArray, Maps.has (D.del (.string y.data.toList)) (.string x.data.toList) = (del f y x).isSome ∧ (D.del (.string y.data.toList)).atKey (.string x.data.toList) (.lit (.int .i64 0)) = .lit (.int .i64 ((del f y x).getD 0)) := fun x => by
  unfold del
  by_cases h : y = x
  · subst h
    rw [if_pos rfl, Maps.has_del_same, Maps.atKey_del_same]
    exact ⟨rfl, rfl⟩
  · rw [if_neg h, Maps.has_del_other (lit_ne (Ne.symm h)), Maps.atKey_del_other (lit_ne (Ne.symm h))]
    exact r x
def setB (g : ByteArray → Bool) (y : ByteArray) : ByteArray → Bool := fun x => decide (y = x) || g x
theorem rep_set {D : DataW Unit} {g : ByteArray → Bool} (hD : Maps.IsMap D) (r : ∀ x : ByteArray, D.atKey (.string x.data.toList) (.lit (.bool false)) = .lit (.bool (g x))) (y : ByteArray) :
    ∀ x : ByteArray, (D.put (.string y.data.toList) (.lit (.bool true))).atKey (.string x.data.toList) (.lit (.bool false)) = .lit (.bool (setB g y x)) := fun x => by
  unfold setB
  by_cases h : y = x
  · subst h
    rw [Maps.atKey_put_same hD (k_is y), decide_eq_true rfl]; rfl
  · rw [Maps.atKey_put_other (lit_ne (Ne.symm h)), r x, decide_eq_false h]; rfl
structure Only (b : Nat) (w w' : World) : Prop where
  size : w'.heap.size = w.heap.size
  block : ∀ k, k ≠ b → w'.heap[k]? = w.heap[k]?
  grown : w.grownBy w' (some b)
theorem only_of {w w' : World} {b : Nat} (h : w.mapTurned w' b) : Only b w w' := by
  have hg := h.grown
  obtain ⟨es, clock, es', clock', hb, rfl⟩ := h
  exact ⟨by simp [setBlock], fun k hk => heap_setBlock_other hb _ hk, hg⟩
theorem MB.set_run {w : World} {b n : Nat} {g : ByteArray → Bool} (h : MB w b n g) (hn : n < maxLen) {y : ByteArray} (hy : y.size ≤ maxLen) (T : TypeId) (ht : Tryz.prog.underlying T = some (.map 9 4)) :
    ∃ w', (Instr.mapUpdate T (.map (some b)) (.string y) (.bool true)).run Tryz.prog w = .ok () w' ∧ MB w' b (n + 1) (setB g y) ∧ Only b w w' := by
  obtain ⟨D, hown, r⟩ := h
  obtain ⟨w', h1, h2, h3⟩ := hown.store key_s ht hn (key_mk hy) (plainElem_bool Tryz.underlying4 true)
  exact ⟨w', h1, ⟨_, h2, rep_set hown.isMap r y⟩, only_of h3⟩
theorem MI.del_run {w : World} {b n : Nat} {f : Env} (h : MI w b n f) {y : ByteArray} (hy : y.size ≤ maxLen) (T ty : TypeId) (ht : Tryz.prog.underlying T = some (.map 9 3)) :
    ∃ w', (Builtin.delete_ #[T, 9] ty #[.map (some b), .string y]).run Tryz.prog w = .ok (.tuple #[]) w' ∧ MI w' b n (del f y) ∧ Only b w w' := by
  obtain ⟨D, hown, r⟩ := h
  obtain ⟨w', h1, h2, h3⟩ := hown.drop key_s ht (key_mk hy) ty
  exact ⟨w', h1, ⟨_, h2, rep_del r y⟩, only_of h3⟩
section
variable {w : World} {ops : Array Oper} {rest : List Oper} {o : Oper} {a : Act} {Q : Exit → Act → World → Prop}
theorem wpList_put (hg : o.guard = none) (m x v : Operand) (T : TypeId) (hop : o.op = Op.mapUpdate T m x v) (ht : Tryz.prog.underlying T = some (.map 9 3))
    (b n : Nat) (f : Env) (hm : a.eval m = .map (some b)) (hown : MI w b n f) (hn : n < maxLen) (y : ByteArray) (hx : a.eval x = .string y) (hy : y.size ≤ maxLen) (t : Int) (hv : a.eval v = .int .i64 t) (hwf : (Lit.int .i64 t).wf = true)
    (hK : ∀ w', MI w' b (n + 1) (put f y t) → Only b w w' → wpList Tryz.prog ops Q rest (a.put o.dst undef) w') : wpList Tryz.prog ops Q (o :: rest) a w := by
  obtain ⟨D, hown, r⟩ := hown
  refine wpList_mapUpdate_in w hg m x v T hop 9 3 key_s ht (plainElem Tryz.prog 3) b n D hm hown hn _ _ _ hx hv (key_mk hy) _ _ (plainElem_int Tryz.underlying3 hwf) fun w' h1 h2 => hK w' ⟨_, h1, rep_put hown.isMap r y t⟩ (only_of h2)
theorem wpList_set (hg : o.guard = none) (m x v : Operand) (T : TypeId) (hop : o.op = Op.mapUpdate T m x v) (ht : Tryz.prog.underlying T = some (.map 9 4))
    (b n : Nat) (g : ByteArray → Bool) (hm : a.eval m = .map (some b)) (hown : MB w b n g) (hn : n < maxLen) (y : ByteArray) (hx : a.eval x = .string y) (hy : y.size ≤ maxLen) (hv : a.eval v = .bool true)
    (hK : ∀ w', MB w' b (n + 1) (setB g y) → Only b w w' → wpList Tryz.prog ops Q rest (a.put o.dst undef) w') : wpList Tryz.prog ops Q (o :: rest) a w := by
  obtain ⟨D, hown, r⟩ := hown
  refine wpList_mapUpdate_in w hg m x v T hop 9 4 key_s ht (plainElem Tryz.prog 4) b n D hm hown hn _ _ _ hx hv (key_mk hy) _ _ (plainElem_bool Tryz.underlying4 true) fun w' h1 h2 => hK w' ⟨_, h1, rep_set hown.isMap r y⟩ (only_of h2)
end
end Go.Proofs.YtnelpgeiioflmaaGreatDoor.Y
namespace Go.Proofs.YtnelpgeiioflmaaGreatDoor.Y
open Go.RowKit
open L (Str isName prt size_len below_2 below_box ret_bool ret_int eql_eq bytes_eq)
open A (Ex St Pm Pr V arity vE absent Kids exV exO Bx)

set_option maxHeartbeats 4000000 in
set_option maxRecDepth 100000 in
theorem ohas_any {m t : Int} (hm : m = 0 ∨ m = 2 ∨ m = 4 ∨ m = 6 ∨ m = 8 ∨ m = 14) (ht : 0 ≤ t ∧ t ≤ 3) (w : World) :
    Calls Tryz.prog 136 #[.int .i64 m, .int .i64 t] w fun e' w' => e' = .returned (.bool (hasT m t)) ∧ w' = w := by
  have ht' : t = 0 ∨ t = 1 ∨ t = 2 ∨ t = 3 := by omega
  clear ht
  rcases ht' with rfl | rfl | rfl | rfl <;> rcases hm with rfl | rfl | rfl | rfl | rfl | rfl
  all_goals
    go_enter Tryz.func136, Tryz.ntmps136
    go_wp2_with fail
    go_ret
    exact ⟨ret_bool (by decide), rfl⟩
set_option maxHeartbeats 1000000 in
set_option maxRecDepth 100000 in
theorem otypeError_any (b : Bool) (w : World) : Calls Tryz.prog 120 #[.bool b] w fun e' w' => e' = .returned (.int .i64 (fitE b)) ∧ w' = w := by
  cases b
  all_goals
    go_enter Tryz.func120, Tryz.ntmps120
    go_wp2_with fail
    go_ret
    exact ⟨rfl, rfl⟩
set_option maxHeartbeats 2000000 in
set_option maxRecDepth 100000 in
theorem otypeOfVariable_any (s : ByteArray) (hs : s.size ≤ maxLen) (b n : Nat) (f : Env) (w : World) (hM : MI w b n f) :
    Calls Tryz.prog 131 #[.map (some b), .string s] w fun e' w' => e' = .returned (.tuple #[.int .i64 (tyV f s).1, .int .i64 (tyV f s).2]) ∧ w' = w := by
  have hl := hM.look hs 103 Tryz.underlying103
  clear hM
  cases hf : f s with
  | none =>
    rw [tyV_none hf]
    rw [hf] at hl
    have hl2 : (Instr.lookup 103 (.map (some b)) (.string s) true).run Tryz.prog w = .ok (.tuple #[.int .i64 0, .bool false]) w := hl
    clear hl hf
    go_enter Tryz.func131, Tryz.ntmps131
    go_wp2_with fail
    go_ret2
    exact ⟨rfl, rfl⟩
  | some t =>
    rw [tyV_some hf]
    rw [hf] at hl
    have hl2 : (Instr.lookup 103 (.map (some b)) (.string s) true).run Tryz.prog w = .ok (.tuple #[.int .i64 t, .bool true]) w := hl
    clear hl hf
    by_cases ht : 1 ≤ t ∧ t ≤ 3
    · rw [if_pos ht]
      rcases rng_cases ht with rfl | rfl | rfl
      all_goals
        go_enter Tryz.func131, Tryz.ntmps131
        go_wp2_with fail
        go_ret2
        exact ⟨rfl, rfl⟩
    · rw [if_neg ht]
      have h1 : (t != 1) = true := bne_iff_ne.2 (by omega)
      have h2 : (t != 2) = true := bne_iff_ne.2 (by omega)
      have h3 : (t != 3) = true := bne_iff_ne.2 (by omega)
      clear ht
      go_enter Tryz.func131, Tryz.ntmps131
      go_wp2_with fail
      go_ret2
      exact ⟨rfl, rfl⟩
def IntsAt (w : World) (a : Option Addr) (l : List Int) : Prop := l = [] ∨ ∃ b i, a = some ⟨b, i, none⟩ ∧ ∀ j (h : j < l.length), w.cell? ⟨b, i + j, none⟩ = some (.int .i64 l[j])
theorem IntsAt.below {w w' : World} {a : Option Addr} {l : List Int} (h : IntsAt w a l) (hb : Below w.heap.size w w') : IntsAt w' a l := by
  rcases h with h | ⟨b, i, ha, h⟩
  · exact Or.inl h
  · exact Or.inr ⟨b, i, ha, fun j hj => (hb.cell (block_lt_of_cell (h j hj))).trans (h j hj)⟩
theorem IntsAt.open {w : World} {a : Option Addr} {l : List Int} (h : IntsAt w a l) {k : Nat} (hk : k < l.length) : ∃ b i, a = some ⟨b, i, none⟩ ∧ ∀ j (h : j < l.length), w.cell? ⟨b, i + j, none⟩ = some (.int .i64 l[j]) :=
  h.resolve_left (fun e => by rw [e] at hk; exact absurd hk (Nat.not_lt_zero _))
def accF (m h : Int) : List Int → Bool
  | [] => true
  | t :: r => (hasT m t && decide (t = h)) && accF m h r
theorem acc_is (m : Int) (ts : List Int) : acc m ts = accF m (ts.headD 0) ts := by
  unfold acc
  generalize ts.headD 0 = h
  induction ts with
  | nil => rfl
  | cons t r ih => rw [List.all_cons, accF, ih]
set_option maxHeartbeats 4000000 in
set_option maxRecDepth 100000 in
theorem oaccepts_any {m : Int} (hm : m = 0 ∨ m = 2 ∨ m = 4 ∨ m = 6 ∨ m = 8 ∨ m = 14) (r : Int) (ts : List Int) (hts : ∀ t ∈ ts, 0 ≤ t ∧ t ≤ 3) (hl : ts.length ≤ 1000000000000000) (a : Option Addr) (c : Nat) (w : World) (hK : IntsAt w a ts) :
    Calls Tryz.prog 132 #[.agg #[.int .i64 m, .int .i64 r], .slice a ts.length c] w fun e' w' => e' = .returned (.bool (acc m ts)) ∧ Below w.heap.size w w' := by
  have hw := below_box w (.cells #[.int .i64 m, .int .i64 r] 144)
  have HC := Lib.hid (fun t (h : t ∈ ts) w => ohas_any hm (hts t h) w)
  have HK := Lib.hid (hK.below hw)
  have HW := Lib.hid hw
  obtain ⟨h, hh⟩ : ∃ h, ts.headD 0 = h := ⟨_, rfl⟩
  have HH : Hid (ts.headD 0 = h) := hh
  rw [acc_is, hh]
  obtain ⟨R, hR⟩ : ∃ R, accF m h ts = R := ⟨_, rfl⟩
  rw [hR]
  have HR : Hid (accF m h (ts.drop 0) = R) := hR
  obtain ⟨n, hn⟩ : ∃ n, ts.length = n := ⟨_, rfl⟩
  have HL := Lib.hid hn
  have hbx := Bx.new w #[.int .i64 m, .int .i64 r] 144
  have HBX := Lib.hid hbx
  rw [hn] at hl ⊢
  clear hn hR hK hw hh hm hts hbx
  go_enter Tryz.func132, Tryz.ntmps132
  go_wp2_with fail
  go_loopw [9] (fun s9 wr => ∃ k : Nat, k ≤ n ∧ s9 = .int .i64 k ∧ Hid (accF m h (ts.drop k) = R) ∧ Hid (Below (w.alloc (.cells #[.int .i64 m, .int .i64 r] 144)).heap.size (w.alloc (.cells #[.int .i64 m, .int .i64 r] 144)) wr)) (fun s9 _ => n - (intOf s9).toNat)
  case atStart => exact ⟨0, Nat.zero_le _, rfl, HR, Below.refl _ _⟩
  case round =>
    obtain ⟨k, hk, rfl, HX2, HB⟩ := hrel
    have hbx := HBX.out.below HB.out
    have x0 := hbx.cell 0
    have x1 := hbx.cell 1
    simp at x0 x1
    clear hbx
    by_cases hlt : k < n
    · have hlx : k < ts.length := by rw [HL.out]; exact hlt
      have hx := HX2.out
      rw [List.drop_eq_getElem_cons hlx, accF] at hx
      obtain ⟨b3, i3, rfl, hc⟩ := (HK.out.below HB.out).open hlx
      have f0 := hc k hlx
      have f1 := hc 0 (by omega)
      rw [Nat.add_zero] at f1
      have hh0 : ts[0] = h := by
        have := HH.out
        cases ts with
        | nil => simp at hlx
        | cons u v => simpa using this
      rw [hh0] at f1
      have HC2 := Lib.hid (HC.out ts[k] (List.getElem_mem hlx) wr)
      generalize ts[k] = t at f0 HC2 hx
      generalize hasT m t = y at HC2 hx
      obtain ⟨v, hv⟩ : ∃ v, decide (t = h) = v := ⟨_, rfl⟩
      have hb : (t == h) = v := by rw [← hv]; exact Bool.beq_eq_decide_eq _ _
      rw [hv] at hx
      clear hc hh0 hv
      cases y
      · have HN : Hid (false = R) := hx
        clear hx
        go_wp2_with fail
        refine HC2.out.mono ?_; rintro e w2 ⟨rfl, rfl⟩
        go_wp2_with fail
        go_ret
        exact ⟨ret_bool HN.out, below_2 HW.out HB.out⟩
      · cases v
        · have HN : Hid (false = R) := hx
          clear hx
          go_wp2_with fail
          refine HC2.out.mono ?_; rintro e w2 ⟨rfl, rfl⟩
          go_wp2_with fail
          go_ret
          exact ⟨ret_bool HN.out, below_2 HW.out HB.out⟩
        · have HN : Hid (accF m h (ts.drop (k + 1)) = R) := hx
          clear hx
          go_wp2_with fail
          refine HC2.out.mono ?_; rintro e w2 ⟨rfl, rfl⟩
          go_wp2_with fail
          go_roundw
          case rel => exact ⟨k + 1, by omega, by go_num, HN.out, HB.out⟩
          case measure => simp [intOf]; omega
    · have HN : Hid (true = R) := by
        show _ = _
        rw [← HX2.out, List.drop_of_length_le (by rw [HL.out]; omega), accF]
      clear x0 x1
      go_wp2_with fail
      go_ret
      exact ⟨ret_bool HN.out, below_2 HW.out HB.out⟩
end Go.Proofs.YtnelpgeiioflmaaGreatDoor.Y
namespace Go.Proofs.YtnelpgeiioflmaaGreatDoor.Y
open Go.RowKit
open L (Str isName prt size_len below_2 below_box ret_bool ret_int eql_eq bytes_eq)
open A (Ex St Pm Pr V arity vE vEs absent exV exO Bx RowK Own1 exV_mk exO_mk)

theorem info_i : (Tryz.prog.info? 3).map (fun i => (i.zero, i.size, i.bytes)) = some (some (.int .i64 0), 1, 8) := by kernel_rfl
def kI : RowK Int where
  f := fun x => [.int .i64 x]
  size := 1
  bytes := 8
  t := 141
  e := 3
  z := .int .i64 0
  inn := fun _ _ _ => True
  und := Tryz.underlying141
  info := info_i
  len := fun _ => rfl
  one := fun x u hu => by simp at hu; rw [hu]; rfl
  pos := by decide
  zs := rfl
  small := by decide
  next := fun _ _ => trivial
theorem own_ints {w : World} {b0 : Nat} {Z : Nat → Prop} {p : Option Addr} {q : Nat} {l : List Int} (h : Own1 kI w b0 Z (.slice p l.length q) l) : IntsAt w p l := by
  by_cases h0 : l = []
  · exact Or.inl h0
  · obtain ⟨g, rfl, _, _⟩ := h.cell (List.length_pos_iff.2 h0)
    refine Or.inr ⟨g, 0, rfl, fun j hj => ?_⟩
    obtain ⟨g2, hg, _, hc⟩ := h.cell hj
    cases hg
    have := hc 0 (by decide)
    rw [Nat.zero_add]
    rw [show j * kI.size + 0 = j from Nat.mul_one j] at this
    exact this
structure Tb (w : World) : Prop where
  ins : ∀ n : Nat, n ≤ 27 → w.cell? ⟨0, n * 2, none⟩ = some (.int .i64 (inE (n : Int)))
  out : ∀ n : Nat, n ≤ 27 → w.cell? ⟨0, n * 2 + 1, none⟩ = some (.int .i64 (outE (n : Int)))
theorem Tb.below {w w' : World} (h : Tb w) (hb : Below w.heap.size w w') : Tb w' :=
  ⟨fun n hn => (hb.cell (block_lt_of_cell (h.ins n hn))).trans (h.ins n hn), fun n hn => (hb.cell (block_lt_of_cell (h.out n hn))).trans (h.out n hn)⟩
theorem inE_set (o : Int) : inE o = 0 ∨ inE o = 2 ∨ inE o = 4 ∨ inE o = 6 ∨ inE o = 8 ∨ inE o = 14 := by
  unfold inE
  repeat' split
  all_goals simp
theorem nam_size {x : ByteArray} (h : A.nam x = true) : x.size ≤ 16 := by
  unfold A.nam L.isName at h
  rw [size_len]
  simp only [Bool.and_eq_true, decide_eq_true_eq] at h
  omega
def Vd (e : Ex) : Prop := (∃ d, vE e d = 0) ∨ absent e = true
theorem Vd.parts {o n : Int} {s : ByteArray} {l : List Ex} (h : Vd (.mk o n s l)) : (∃ k : Nat, o = (k : Int) ∧ k ≤ 27) ∧ l.length ≤ 2 ∧ (o = 3 → s.size ≤ 16) ∧ (∀ x ∈ l, Vd x) ∧ (∀ f, ∀ t ∈ (tyEs f l).1, 0 ≤ t ∧ t ≤ 3) := by
  rcases h with ⟨d, h⟩ | h
  · obtain ⟨h1, h2⟩ := vE_open h
    obtain ⟨h3, h4, h5⟩ := node_open h1
    have h3' : 0 ≤ arity o := h3
    have h4' : (l.length : Int) = arity o := h4
    refine ⟨⟨o.toNat, ?_, ?_⟩, ?_, fun h => ?_, fun x hx => ?_, fun f t ht => ?_⟩
    · rcases arity_cases h3' with ⟨-, h⟩ | ⟨-, h⟩ | ⟨-, h⟩ <;> omega
    · rcases arity_cases h3' with ⟨-, h⟩ | ⟨-, h⟩ | ⟨-, h⟩ <;> omega
    · rcases arity_cases h3' with ⟨h, -⟩ | ⟨h, -⟩ | ⟨h, -⟩ <;> omega
    · have h6 : A.nam s = true := h5 h
      have := nam_size h6
      omega
    · left
      have : ∀ (l : List Ex) (d : Nat), vEs l d = 0 → ∀ x ∈ l, vE x d = 0 := by
        intro l
        induction l with
        | nil => intro d _ x hx; cases hx
        | cons e r ih =>
          intro d h x hx
          obtain ⟨h7, h8⟩ := vEs_cons h
          rcases List.mem_cons.1 hx with rfl | hx
          · exact h7
          · exact ih d h8 x hx
      exact ⟨_, this l _ h2 x hx⟩
    · have := tys_in f l h2 t ht
      omega
  · unfold absent at h
    simp only [Bool.and_eq_true, decide_eq_true_iff, List.isEmpty_iff] at h
    obtain ⟨⟨⟨h1, -⟩, -⟩, h4⟩ := h
    have h1' : o = 0 := h1
    have h4' : l = [] := h4
    subst h1'; subst h4'
    exact ⟨⟨0, rfl, by omega⟩, Nat.zero_le _, fun h => by omega, fun x hx => (nomatch hx), fun f t ht => by rw [tyEs] at ht; cases ht⟩
theorem tys_drop (f : Env) {l : List Ex} {k : Nat} (hk : k < l.length) : tyEs f (l.drop k) = if (tyE f l[k]).2 ≠ 0 then ([], (tyE f l[k]).2) else ((tyE f l[k]).1 :: (tyEs f (l.drop (k + 1))).1, (tyEs f (l.drop (k + 1))).2) := by
  rw [List.drop_eq_getElem_cons hk, tyEs]
theorem ret_2 {a b c d : Int} (h1 : a = c) (h2 : b = d) : Ending.returned (.tuple #[.int .i64 a, .int .i64 b]) = .returned (.tuple #[.int .i64 c, .int .i64 d]) := by rw [h1, h2]
def QT (f : Env) (e : Ex) : Prop := ∀ (a : Option Addr) (c : Nat) (w : World) (b n : Nat), MI w b n f → Vd e → Tb w → A.Kids w a e.args →
  Calls Tryz.prog 118 #[.map (some b), exV e a c] w fun e' w' => e' = .returned (.tuple #[.int .i64 (tyE f e).1, .int .i64 (tyE f e).2]) ∧ Below w.heap.size w w'
set_option maxHeartbeats 8000000 in
set_option maxRecDepth 100000 in
theorem otypeOf_any {f : Env} : ∀ e, QT f e := by
  refine Ex.ind (P := QT f) ?_
  intro o n s l ih a c w b nn hM hvd hT hK
  obtain ⟨⟨ko, hko, hk27⟩, hl2, hs16, hvx, htx⟩ := hvd.parts
  have hK' : A.Kids w a l := hK
  by_cases h3 : o = 3
  · have hs := hs16 h3
    rw [tyE, if_pos h3]
    simp only [exV_mk]
    subst h3
    have hw := below_box w (exO (.mk 3 n s l) a c)
    have HC := Lib.hid (otypeOfVariable_any s (by unfold maxLen; omega) b nn f _ (hM.below hw))
    have HW := Lib.hid hw
    simp only [exO_mk] at HC HW
    generalize tyV f s = R at *
    obtain ⟨r1, r2⟩ := R
    clear hw hM hvd hT hK hK' ih hko hk27 hl2 hs16 hvx htx hs
    go_enter Tryz.func118, Tryz.ntmps118
    go_wp2_with fail
    refine HC.out.mono ?_; rintro e' w2 ⟨rfl, rfl⟩
    go_wp2_with fail
    go_ret2
    exact ⟨rfl, HW.out⟩
  · obtain ⟨T0, hT0⟩ : ∃ T0, tyEs f l = T0 := ⟨_, rfl⟩
    have hE : tyE f (.mk o n s l) = if T0.2 ≠ 0 then (0, T0.2) else if acc (inE o) T0.1 then (outE o, 0) else (0, 10) := by rw [ty_node f h3, hT0]
    have hset := inE_set o
    have hin := htx f
    rw [hT0] at hin
    have HIN : Hid (∀ t ∈ T0.1, 0 ≤ t ∧ t ≤ 3) := hin
    subst hko
    have hw := below_box w (exO (.mk (ko : Int) n s l) a c)
    have hbx := Bx.new w #[.int .i64 (ko : Int), .int .i64 n, .string s, .slice a l.length c] 42
    have HM := Lib.hid (hM.below hw)
    have HT := Lib.hid (hT.below hw)
    have HKK := Lib.hid (hK'.below hw)
    have HW := Lib.hid hw
    have HIH := Lib.hid ih
    have HVX := Lib.hid hvx
    have HBX := Lib.hid hbx
    have b3 : ((ko : Int) == 3) = false := beq_eq_false_iff_ne.2 h3
    have HAC := Lib.hid (fun ts h hl a c w hK => oaccepts_any hset (outE (ko : Int)) ts h hl a c w hK)
    obtain ⟨R, hR⟩ : ∃ R, tyE f (.mk (ko : Int) n s l) = R := ⟨_, rfl⟩
    rw [hR] at hE ⊢
    have HE := Lib.hid hE
    have HX0 : Hid (tyEs f (l.drop 0) = T0) := hT0
    obtain ⟨m, hm⟩ : ∃ m, l.length = m := ⟨_, rfl⟩
    have HL := Lib.hid hm
    simp only [exV_mk, exO_mk] at *
    rw [hm] at hl2 HM HT HKK HW HBX ⊢
    obtain ⟨c1, c2⟩ := R
    clear hw hM hvd hT hK hK' ih hs16 hvx htx hT0 hE hin hbx hR hm h3 hset
    go_enter Tryz.func118, Tryz.ntmps118
    go_wp2_with fail
    go_loopw [6, 23] (fun s6 s23 wr => ∃ (k : Nat) (l1 : List Int) (pl : Option Addr) (ql : Nat), k ≤ m ∧ s23 = .int .i64 k ∧ s6 = .slice pl l1.length ql ∧ Hid (l1.length = k ∧ T0 = (l1 ++ (tyEs f (l.drop k)).1, (tyEs f (l.drop k)).2)) ∧ Hid (Own1 kI wr (w.heap.size + 1) (fun j => j < w.heap.size + 1) (.slice pl l1.length ql) l1) ∧ Hid (Below (w.alloc (.cells #[.int .i64 (ko : Int), .int .i64 n, .string s, .slice a m c] 42)).heap.size (w.alloc (.cells #[.int .i64 (ko : Int), .int .i64 n, .string s, .slice a m c] 42)) wr)) (fun _ s23 _ => m - (intOf s23).toNat)
    case atStart => exact ⟨0, [], none, 0, Nat.zero_le _, rfl, rfl, ⟨rfl, by rw [HX0.out]; rfl⟩, Own1.nil, Below.refl _ _⟩
    case round =>
      obtain ⟨k, l1, pl, ql, hk, rfl, rfl, HX, HR, HBr⟩ := hrel
      have hz1 : (w.alloc (.cells #[.int .i64 (ko : Int), .int .i64 n, .string s, .slice a m c] 42)).heap.size = w.heap.size + 1 := by simp
      have hz := HBr.out.size
      rw [hz1] at hz
      have HZ1 := Lib.hid hz1
      clear hz1
      have HLK := Lib.hid HX.out.1
      have hlk2 : l1.length ≤ k := Nat.le_of_eq HX.out.1
      by_cases hlt : k < m
      · have hlx : k < l.length := by rw [HL.out]; exact hlt
        obtain ⟨b2, i2, rfl, hat⟩ := (HKK.out.below HBr.out).open hlx
        obtain ⟨d0, d1, d2, a4, c4, d3, hk4⟩ := hat.open
        have HTD := Lib.hid (tys_drop f hlx)
        have HC := Lib.hid (fun w' hb => HIH.out k hlx a4 c4 w' b nn ((HM.out.below HBr.out).below hb) (HVX.out _ (List.getElem_mem hlx)) ((HT.out.below HBr.out).below hb) (hk4.below hb))
        have hb0 := below_box wr (exO l[k] a4 c4)
        have HC0 := Lib.hid (HC.out _ hb0)
        have HB0 := Lib.hid hb0
        have hxv : exV l[k] a4 c4 = .agg #[.int .i64 l[k].op, .int .i64 l[k].n, .string l[k].s, .slice a4 l[k].args.length c4] := rfl
        have hxo : exO l[k] a4 c4 = .cells #[.int .i64 l[k].op, .int .i64 l[k].n, .string l[k].s, .slice a4 l[k].args.length c4] 42 := rfl
        rw [hxv, hxo] at HC0
        rw [hxo] at HB0
        generalize tyE f l[k] = r at HTD HC0
        generalize l[k].args.length = m2 at *
        generalize l[k].op = o2 at *
        generalize l[k].n = n2 at *
        generalize l[k].s = s2 at *
        obtain ⟨r1, r2⟩ := r
        clear hat hk4 HC hb0 hxv hxo
        go_wp2_with fail
        refine HC0.out.mono ?_; rintro e' w2 ⟨rfl, hb2⟩
        have HB2 := Lib.hid (below_2 HBr.out (below_2 HB0.out hb2))
        have HR2 := Lib.hid (HR.out.below (below_2 HB0.out hb2))
        have hz2 := HB2.out.size
        rw [HZ1.out] at hz2
        have hX := HX.out.2
        rw [HTD.out] at hX
        clear hb2
        by_cases hr2 : r2 = 0
        · subst hr2
          have HX2 : Hid ((l1 ++ [r1]).length = k + 1 ∧ T0 = ((l1 ++ [r1]) ++ (tyEs f (l.drop (k + 1))).1, (tyEs f (l.drop (k + 1))).2)) := by
            refine ⟨by rw [List.length_append, HLK.out]; rfl, ?_⟩
            rw [hX, List.append_assoc]; rfl
          have HL6 : Hid ((l1 ++ [r1]).length = l1.length + 1) := by show _ = _; simp
          clear hX
          go_wp2_with (at_builtin; refine kI.wpList rfl (.tmp 36) (.tmp 38) rfl (w.heap.size + 1) (.slice pl l1.length ql) l1 rfl HR2.out.row r1 _ rfl w2.heap.size rfl rfl (by omega) (by omega) ?_; intro g6 cap6 w6 hown6 hgrow6 hlie6)
          have HR6 := Lib.hid (HR2.out.push trivial (fun j hj => by omega) hown6 hgrow6 hlie6)
          have HB6 := Lib.hid (HR2.out.frame (by rw [← HZ1.out]; exact HB2.out) hz2 hgrow6)
          clear hown6 hgrow6 hlie6
          go_wp2_with fail
          go_roundw
          case rel => exact ⟨k + 1, l1 ++ [r1], some ⟨g6, 0, none⟩, cap6, by omega, by go_num, by rw [HL6.out], HX2.out, by show Own1 _ _ _ _ _ _; rw [HL6.out]; exact HR6.out, by show Below _ _ _; rw [HZ1.out]; exact HB6.out⟩
          case measure => simp [intOf]; omega
        · have bne : (r2 != 0) = true := bne_iff_ne.2 hr2
          have HV : Hid (c1 = 0 ∧ c2 = r2) := by
            have h1 := HE.out
            have h2 : T0.2 = r2 := by rw [hX, if_pos hr2]
            rw [h2, if_pos hr2] at h1
            injection h1 with h1 h3
            exact ⟨h1, h3⟩
          clear hX hr2
          go_wp2_with fail
          go_ret2
          exact ⟨ret_2 HV.out.1.symm HV.out.2.symm, below_2 HW.out HB2.out⟩
      · have hX := HX.out.2
        rw [List.drop_of_length_le (by rw [HL.out]; omega), tys_nil, List.append_nil] at hX
        have hT1 : T0.1 = l1 := by rw [hX]
        have hT2 : T0.2 = 0 := by rw [hX]
        have hE := HE.out
        rw [hT2, hT1, if_neg (fun z => z rfl)] at hE
        have hbx := HBX.out.below HBr.out
        have x0 := hbx.cell 0
        simp at x0
        have ht := HT.out.below HBr.out
        have t0 := ht.ins ko hk27
        have t1 := ht.out ko hk27
        have HC := Lib.hid (HAC.out l1 (by rw [← hT1]; exact HIN.out) (by omega) pl ql wr (own_ints HR.out))
        generalize acc (inE (ko : Int)) l1 = y at HC hE
        generalize inE (ko : Int) = i1 at *
        generalize outE (ko : Int) = i2 at *
        clear hX hT1 hT2 hbx ht
        cases y
        · have HV : Hid (c1 = 0 ∧ c2 = 10) := by
            injection hE with h1 h3
            exact ⟨h1, h3⟩
          clear hE
          go_wp2_with fail
          refine HC.out.mono ?_; rintro e' w2 ⟨rfl, hb2⟩
          have HB2 := Lib.hid (below_2 HBr.out hb2)
          clear hb2
          go_wp2_with fail
          go_ret2
          exact ⟨ret_2 HV.out.1.symm HV.out.2.symm, below_2 HW.out HB2.out⟩
        · have HV : Hid (c1 = i2 ∧ c2 = 0) := by
            injection hE with h1 h3
            exact ⟨h1, h3⟩
          clear hE
          go_wp2_with fail
          refine HC.out.mono ?_; rintro e' w2 ⟨rfl, hb2⟩
          have HB2 := Lib.hid (below_2 HBr.out hb2)
          have x0' := (hb2.cell (block_lt_of_cell x0)).trans x0
          have t1' := (hb2.cell (block_lt_of_cell t1)).trans t1
          clear hb2 x0 t0 t1
          go_wp2_with fail
          go_ret2
          exact ⟨ret_2 HV.out.1.symm HV.out.2.symm, below_2 HW.out HB2.out⟩
end Go.Proofs.YtnelpgeiioflmaaGreatDoor.Y
namespace Go.Proofs.YtnelpgeiioflmaaGreatDoor.Y
open Go.RowKit
open L (Str isName prt size_len below_2 below_box ret_bool ret_int eql_eq bytes_eq)
open A (Ex St Pm Pr V arity vE vEs absent exV exO Bx RowK Own1 exV_mk exO_mk okE cE PmsAt)

theorem wf_i64 {t : Int} (h : -9223372036854775808 ≤ t ∧ t ≤ 9223372036854775807) : (Lit.int .i64 t).wf = true := by
  have h1 : IntKind.i64.min = -9223372036854775808 := by decide
  have h2 : IntKind.i64.max = 9223372036854775807 := by decide
  simp [Lit.wf]
  omega
end Go.Proofs.YtnelpgeiioflmaaGreatDoor.Y
namespace Go.Proofs.YtnelpgeiioflmaaGreatDoor.Y
open Go.RowKit
open L (Str isName prt size_len below_2 below_box ret_bool ret_int eql_eq bytes_eq)
open A (Ex St Pm Pr V arity vE vEs absent exV exO Bx RowK Own1 exV_mk exO_mk okE cE PmsAt Stays)

theorem info_q : (Tryz.prog.info? 49).map (fun i => (i.zero, i.size, i.bytes)) = some (some (.agg #[.string ⟨#[]⟩, .int .i64 0]), 2, 24) := by kernel_rfl
def kP : RowK Pm where
  f := fun q => [.string q.name, .int .i64 q.ty]
  size := 2
  bytes := 24
  t := 22
  e := 49
  z := .agg #[.string ⟨#[]⟩, .int .i64 0]
  inn := fun _ _ _ => True
  und := Tryz.underlying22
  info := info_q
  len := fun _ => rfl
  one := fun x u hu => by
    simp at hu
    rcases hu with rfl | rfl <;> rfl
  pos := by decide
  zs := rfl
  small := by decide
  next := fun _ _ => trivial
theorem own_pms {w : World} {b0 : Nat} {Z : Nat → Prop} {p : Option Addr} {q : Nat} {l : List Pm} (h : Own1 kP w b0 Z (.slice p l.length q) l) : PmsAt w p l := by
  by_cases h0 : l = []
  · exact Or.inl h0
  · obtain ⟨g, rfl, _, _⟩ := h.cell (List.length_pos_iff.2 h0)
    refine Or.inr ⟨g, 0, rfl, fun j hj => ?_⟩
    obtain ⟨g2, hg, _, hc⟩ := h.cell hj
    cases hg
    have h1 := hc 0 (by decide)
    have h2 := hc 1 (by decide)
    rw [Nat.zero_add]
    exact ⟨h1, h2⟩
def Zk (B : Nat) (X : Nat → Prop) (g bv bl : Nat) (j : Nat) : Prop := j < B ∨ j = g ∨ j = bv ∨ j = bl ∨ X j
structure Ck (w : World) (B : Nat) (X : Nat → Prop) (g bv bl n : Nat) (c : Cx) (p : Option Addr) (q : Nat) : Prop where
  box : Bx w g #[.map (some bv), .map (some bl), .slice p c.decl.length q] 105
  vis : MI w bv n c.vis
  loops : MB w bl n c.loops
  row : Own1 kP w B (Zk B X g bv bl) (.slice p c.decl.length q) c.decl
  lo : B ≤ g ∧ B ≤ bv ∧ B ≤ bl
  ne : g ≠ bv ∧ g ≠ bl ∧ bv ≠ bl
  off : ¬ X g ∧ ¬ X bv ∧ ¬ X bl
  len : c.decl.length ≤ n
  xs : ∀ k, X k → k < w.heap.size
def CK (w : World) (B : Nat) (X : Nat → Prop) (g bv bl n : Nat) (c : Cx) : Prop := ∃ p q, Ck w B X g bv bl n c p q
structure Kx (B : Nat) (X : Nat → Prop) (w w' : World) : Prop where
  below : Below B w w'
  keep : ∀ k, X k → w'.heap[k]? = w.heap[k]?
section
variable {w w' w2 : World} {B g bv bl n : Nat} {X : Nat → Prop} {c : Cx} {p : Option Addr} {q : Nat}
theorem Kx.refl (B : Nat) (X : Nat → Prop) (w : World) : Kx B X w w := ⟨Below.refl _ _, fun _ _ => rfl⟩
theorem Kx.trans (h : Kx B X w w') (h2 : Kx B X w' w2) : Kx B X w w2 := ⟨h.below.trans h2.below, fun k hk => (h2.keep k hk).trans (h.keep k hk)⟩
theorem Kx.sub {X' : Nat → Prop} (h : Kx B X w w') (hx : ∀ k, X' k → X k) : Kx B X' w w' := ⟨h.below, fun k hk => h.keep k (hx k hk)⟩
theorem Kx.of (hb : Below w.heap.size w w') (hB : B ≤ w.heap.size) (hX : ∀ k, X k → k < w.heap.size) : Kx B X w w' := ⟨hb.mono hB, fun k hk => hb.block k (hX k hk)⟩
theorem Ck.below (h : Ck w B X g bv bl n c p q) (hb : Below w.heap.size w w') : Ck w' B X g bv bl n c p q :=
  ⟨h.box.below hb, h.vis.below hb, h.loops.below hb, h.row.below hb, h.lo, h.ne, h.off, h.len, fun k hk => Nat.lt_of_lt_of_le (h.xs k hk) hb.size⟩
theorem CK.below (h : CK w B X g bv bl n c) (hb : Below w.heap.size w w') : CK w' B X g bv bl n c := by obtain ⟨p, q, h⟩ := h; exact ⟨p, q, h.below hb⟩
theorem Ck.mono (h : Ck w B X g bv bl n c p q) {k : Nat} (hk : n ≤ k) : Ck w B X g bv bl k c p q :=
  ⟨h.box, h.vis.mono hk, h.loops.mono hk, h.row, h.lo, h.ne, h.off, Nat.le_trans h.len hk, h.xs⟩
theorem CK.mono (h : CK w B X g bv bl n c) {k : Nat} (hk : n ≤ k) : CK w B X g bv bl k c := by obtain ⟨p, q, h⟩ := h; exact ⟨p, q, h.mono hk⟩
theorem Ck.size (h : Ck w B X g bv bl n c p q) : B < w.heap.size := Nat.lt_of_le_of_lt h.lo.1 h.box.lt
theorem CK.size (h : CK w B X g bv bl n c) : B < w.heap.size := by obtain ⟨p, q, h⟩ := h; exact h.size
theorem CK.xs (h : CK w B X g bv bl n c) : ∀ k, X k → k < w.heap.size := by obtain ⟨p, q, h⟩ := h; exact h.xs
theorem CK.wide (h : CK w B X g bv bl n c) {N : Nat} (hN : w.heap.size ≤ N) (hb : Below w.heap.size w w') (hN2 : N < w'.heap.size) : CK w' B (fun k => X k ∨ k = N) g bv bl n c := by
  obtain ⟨p, q, h⟩ := h
  have h1 := h.below hb
  have l1 := h.box.lt
  have l2 := h.vis.lt
  have l3 := h.loops.lt
  refine ⟨p, q, h1.box, h1.vis, h1.loops, h.row.next ⟨fun k hk _ => hb.block k hk, fun k hk => ?_⟩, h.lo, h.ne, ⟨fun z => ?_, fun z => ?_, fun z => ?_⟩, h.len, fun k hk => ?_⟩
  · rcases hk with hk | hk | hk | hk | hk | hk
    · exact Or.inl (Or.inl hk)
    · exact Or.inl (Or.inr (Or.inl hk))
    · exact Or.inl (Or.inr (Or.inr (Or.inl hk)))
    · exact Or.inl (Or.inr (Or.inr (Or.inr (Or.inl hk))))
    · exact Or.inl (Or.inr (Or.inr (Or.inr (Or.inr hk))))
    · exact Or.inr (by omega)
  · rcases z with z | z
    · exact h.off.1 z
    · omega
  · rcases z with z | z
    · exact h.off.2.1 z
    · omega
  · rcases z with z | z
    · exact h.off.2.2 z
    · omega
  · rcases hk with hk | hk
    · exact h1.xs k hk
    · omega
theorem CK.narrow {X' : Nat → Prop} (h : CK w B X' g bv bl n c) (hx : ∀ k, X k → X' k) : CK w B X g bv bl n c := by
  obtain ⟨p, q, h⟩ := h
  refine ⟨p, q, h.box, h.vis, h.loops, h.row.next ⟨fun _ _ _ => rfl, fun k hk => ?_⟩, h.lo, h.ne, ⟨fun z => h.off.1 (hx _ z), fun z => h.off.2.1 (hx _ z), fun z => h.off.2.2 (hx _ z)⟩, h.len, fun k hk => h.xs k (hx k hk)⟩
  rcases hk with hk | hk | hk | hk | hk
  · exact Or.inl (Or.inl hk)
  · exact Or.inl (Or.inr (Or.inl hk))
  · exact Or.inl (Or.inr (Or.inr (Or.inl hk)))
  · exact Or.inl (Or.inr (Or.inr (Or.inr (Or.inl hk))))
  · exact Or.inl (Or.inr (Or.inr (Or.inr (Or.inr (hx k hk)))))
theorem Only.kx {b : Nat} (h : Only b w w') (hB : B ≤ b) (hz : B ≤ w.heap.size) (hX : ¬ X b) : Kx B X w w' :=
  ⟨(Below.refl B w).grown h.grown hz (fun j hj => by cases hj; exact hB), fun k hk => h.block k (fun e => hX (e ▸ hk))⟩
theorem Ck.only_v (h : Ck w B X g bv bl n c p q) (ho : Only bv w w') {f : Env} {k : Nat} (hk : n ≤ k) (hm : MI w' bv k f) : Ck w' B X g bv bl k ⟨f, c.loops, c.decl⟩ p q :=
  ⟨h.box.keep (ho.block g h.ne.1), hm, (h.loops.moved (ho.block bl (Ne.symm h.ne.2.2))).mono hk, h.row.next ⟨fun j _ hz => ho.block j (fun e => hz (Or.inr (Or.inr (Or.inl e)))), fun _ hj => Or.inl hj⟩, h.lo, h.ne, h.off, Nat.le_trans h.len hk, fun k hk => by rw [ho.size]; exact h.xs k hk⟩
theorem Ck.only_l (h : Ck w B X g bv bl n c p q) (ho : Only bl w w') {f : ByteArray → Bool} {k : Nat} (hk : n ≤ k) (hm : MB w' bl k f) : Ck w' B X g bv bl k ⟨c.vis, f, c.decl⟩ p q :=
  ⟨h.box.keep (ho.block g h.ne.2.1), (h.vis.moved (ho.block bv h.ne.2.2)).mono hk, hm, h.row.next ⟨fun j _ hz => ho.block j (fun e => hz (Or.inr (Or.inr (Or.inr (Or.inl e))))), fun _ hj => Or.inl hj⟩, h.lo, h.ne, h.off, Nat.le_trans h.len hk, fun k hk => by rw [ho.size]; exact h.xs k hk⟩
theorem Ck.push (h : Ck w B X g bv bl n c p q) {w3 w6 : World} {y : Pm} {g' cap : Nat} {o : Obj} (hb : Below w.heap.size w w3) (hn : c.decl.length + 1 ≤ n)
    (h1 : w6.ownsRow B kP.e kP.size (.slice (some ⟨g', 0, none⟩) (c.decl.length + 1) cap) (c.decl ++ [y]).length (kP.cs (c.decl ++ [y]))) (h2 : (w3.alloc o).grownBy w6 (Value.slice p c.decl.length q).ownBlock) (h3 : (Value.slice p c.decl.length q).ownBlock = some g' ∨ g' = w3.heap.size + 1) :
    Bx w6 g #[.map (some bv), .map (some bl), .slice p c.decl.length q] 105 ∧
    Ck (w6.setCell ⟨g, 2, none⟩ (.slice (some ⟨g', 0, none⟩) (c.decl.length + 1) cap)) B X g bv bl n ⟨c.vis, c.loops, c.decl ++ [y]⟩ (some ⟨g', 0, none⟩) cap ∧ Kx B X w (w6.setCell ⟨g, 2, none⟩ (.slice (some ⟨g', 0, none⟩) (c.decl.length + 1) cap)) := by
  have h7 := h.below hb
  have hzz : ∀ k, Zk B X g bv bl k → k < w3.heap.size := fun k hk => by
    have h8 := h7.box.lt
    have h9 := h7.vis.lt
    have h10 := h7.loops.lt
    have h11 := h.lo.1
    rcases hk with hk | hk | hk | hk | hk
    · omega
    · omega
    · omega
    · omega
    · exact h7.xs k hk
  have hO6 := h7.row.push trivial hzz h1 h2 h3
  have hblk : ∀ k, Zk B X g bv bl k → w6.heap[k]? = w3.heap[k]? := fun k hk =>
    (h2.block k (by have := hzz k hk; simp; omega) (fun e => h7.row.off k e.symm hk)).trans (Below.heap_alloc w3 o k (hzz k hk))
  have hx6 := h7.box.keep (hblk g (Or.inr (Or.inl rfl)))
  have hF := h7.row.frame (hb.mono (Nat.le_of_lt h.size)) (Nat.le_of_lt h7.size) h2
  have hFs := hF.setCell (p := ⟨g, 2, none⟩) h.lo.1 (.slice (some ⟨g', 0, none⟩) (c.decl.length + 1) cap)
  have hgs := h2.size
  have hl : (c.decl ++ [y]).length = c.decl.length + 1 := by simp
  refine ⟨hx6, ⟨?_, ?_, ?_, ?_, h.lo, h.ne, h.off, ?_, fun k hk => ?_⟩, hFs, fun k hk => ?_⟩
  · have := hx6.set 2 (u := .slice (some ⟨g', 0, none⟩) (c.decl.length + 1) cap)
    simp only [List.setIfInBounds_toArray, List.set_cons_succ, List.set_cons_zero] at this
    show Bx _ g #[_, _, .slice (some ⟨g', 0, none⟩) (c.decl ++ [y]).length cap] _
    rw [hl]; exact this
  · exact h7.vis.moved ((Below.heap_setCell _ _ _ _ (Ne.symm h.ne.1)).trans (hblk bv (Or.inr (Or.inr (Or.inl rfl)))))
  · exact h7.loops.moved ((Below.heap_setCell _ _ _ _ (Ne.symm h.ne.2.1)).trans (hblk bl (Or.inr (Or.inr (Or.inr (Or.inl rfl))))))
  · show Own1 kP _ B _ (.slice _ (c.decl ++ [y]).length cap) _
    rw [hl]
    exact hO6.next ⟨fun k _ hk2 => Below.heap_setCell _ _ _ _ (fun e => hk2 (Or.inr (Or.inl e))), fun k hk => Or.inl hk⟩
  · show (c.decl ++ [y]).length ≤ n
    rw [hl]; exact hn
  · have h8 := h7.xs k hk
    have h9 : w3.heap.size ≤ w6.heap.size := by
      have : (w3.alloc o).heap.size = w3.heap.size + 1 := by simp
      omega
    have h10 : (w6.setCell ⟨g, 2, none⟩ (.slice (some ⟨g', 0, none⟩) (c.decl.length + 1) cap)).heap.size = w6.heap.size := by simp
    omega
  · have hne : k ≠ g := fun e => h.off.1 (e ▸ hk)
    exact (Below.heap_setCell _ _ _ _ hne).trans ((hblk k (Or.inr (Or.inr (Or.inr (Or.inr hk))))).trans (hb.block k (h.xs k hk)))
end
set_option maxHeartbeats 4000000 in
set_option maxRecDepth 100000 in
theorem oassignment_any {w : World} {B g bv bl n : Nat} {X : Nat → Prop} {c : Cx} (h : CK w B X g bv bl n c) (x : ByteArray) (hx : x.size ≤ 1000000000000000) (t : Int) :
    Calls Tryz.prog 119 #[.pointer (some ⟨g, 0, none⟩), .string x, .int .i64 t] w fun e' w' => e' = .returned (.int .i64 (c.asg x t)) ∧ w' = w := by
  obtain ⟨p, q, h⟩ := h
  have k0 := h.box.cell 0
  have k1 := h.box.cell 1
  simp at k0 k1
  have hl := h.vis.look (x := x) (by unfold maxLen; omega) 103 Tryz.underlying103
  have hb := h.loops.look (x := x) (by unfold maxLen; omega) 54 Tryz.underlying54
  have ha : c.asg x t = match c.vis x with | none => 11 | some d => if c.loops x then 7 else fitE (decide (t = d)) := rfl
  have HTE := Lib.hid (fun b w => otypeError_any b w)
  obtain ⟨R, hR⟩ : ∃ R, c.asg x t = R := ⟨_, rfl⟩
  rw [hR] at ha ⊢
  cases hv : c.vis x with
  | none =>
    rw [hv] at hl ha
    have hl2 : (Instr.lookup 103 (.map (some bv)) (.string x) true).run Tryz.prog w = .ok (.tuple #[.int .i64 0, .bool false]) w := hl
    have HA : Hid (R = 11) := ha
    clear h hl hb ha hR hv
    go_enter Tryz.func119, Tryz.ntmps119
    go_wp2_with fail
    go_ret
    exact ⟨ret_int HA.out.symm, rfl⟩
  | some d =>
    rw [hv] at hl
    have hl2 : (Instr.lookup 103 (.map (some bv)) (.string x) true).run Tryz.prog w = .ok (.tuple #[.int .i64 d, .bool true]) w := hl
    have ha2 : R = if c.loops x = true then 7 else fitE (decide (t = d)) := by rw [hv] at ha; exact ha
    have he : (t == d) = decide (t = d) := Bool.beq_eq_decide_eq _ _
    generalize c.loops x = y at hb ha2
    generalize decide (t = d) = z at he ha2
    have HC := Lib.hid (HTE.out z w)
    clear h hl hR hv ha
    cases y
    · have HA : Hid (R = fitE z) := ha2
      clear ha2
      go_enter Tryz.func119, Tryz.ntmps119
      go_wp2_with fail
      refine HC.out.mono ?_; rintro e' w2 ⟨rfl, rfl⟩
      go_wp2_with fail
      go_ret
      exact ⟨ret_int HA.out.symm, rfl⟩
    · have HA : Hid (R = 7) := ha2
      clear ha2
      go_enter Tryz.func119, Tryz.ntmps119
      go_wp2_with fail
      go_ret
      exact ⟨ret_int HA.out.symm, rfl⟩
set_option maxHeartbeats 8000000 in
set_option maxRecDepth 100000 in
theorem odeclare_any {w : World} {B g bv bl n : Nat} {X : Nat → Prop} {c : Cx} (h : CK w B X g bv bl n c) (x : ByteArray) (hx : x.size ≤ 100000000000000) (t : Int) (ht : 0 ≤ t ∧ t ≤ 3) (hn : n ≤ 900000) :
    Calls Tryz.prog 85 #[.pointer (some ⟨g, 0, none⟩), .string x, .int .i64 t] w fun e' w' => e' = .returned (.tuple #[]) ∧ CK w' B X g bv bl (n + 1) (c.declare x t) ∧ Kx B X w w' := by
  obtain ⟨p, q, h⟩ := h
  have k0 := h.box.cell 0
  simp at k0
  have HH := Lib.hid h
  have HM := Lib.hid h.vis
  have hwf := wf_i64 (t := t) (by omega)
  have HWF := Lib.hid hwf
  have hlen := h.len
  have HCl := Lib.hid (fun w => L.oclone_any x (by omega) w)
  clear h hwf
  go_enter Tryz.func85, Tryz.ntmps85
  go_wp2_with (at_mapUpdate; refine wpList_put rfl _ _ _ 103 rfl Tryz.underlying103 bv n _ rfl HM.out (by unfold maxLen; omega) x rfl (by unfold maxLen; omega) t rfl HWF.out ?_; intro w1 hm1 ho1)
  have h1 := HH.out.only_v ho1 (Nat.le_succ n) hm1
  have HB1 := Lib.hid (Only.kx ho1 HH.out.lo.2.1 (Nat.le_of_lt HH.out.size) HH.out.off.2.1)
  have HFin := Lib.hid (fun w3 w6 g' cap o (hb : Below w1.heap.size w1 w3) a1 a2 a3 => Ck.push (y := ⟨x, t⟩) (g' := g') (cap := cap) (w6 := w6) (o := o) h1 hb (Nat.succ_le_succ hlen) a1 a2 a3)
  have HO1 := Lib.hid h1.row
  have HX1 := Lib.hid h1.box
  have hz1 := h1.size
  have l2 := h1.box.cell 2
  simp at l2
  clear hm1 ho1 h1 k0
  go_wp2_with fail
  go_region_law
    (first
      | (refine kP.step rfl (.tmp 16) (.tmp 21) rfl B (.slice p c.decl.length q) c.decl rfl HO3.out.row ⟨x, t⟩ _ rfl w3.heap.size rfl rfl (by omega) (by omega) ?_; intro g6 cap6 w6 hown6 hgrow6 hlie6; have HF6 := Lib.hid (HFin.out w3 w6 g6 cap6 _ HB3.out hown6 hgrow6 hlie6); have r2 := HF6.out.1.cell 2; have r3 := HF6.out.1.free 2; simp at r2; clear hown6 hgrow6 hlie6)
      | (go_simp; go_at_call 57; refine (HCl.out _).mono ?_; rintro e' w3 ⟨rfl, hb3⟩; have HB3 := Lib.hid (below_2 (L.below_drew _) hb3); have HO3 := Lib.hid (HO1.out.below HB3.out); have hz3 := HB3.out.size; have t2 := (hb3.cell (block_lt_of_cell l2)).trans l2; have t3 := ((below_box w3 (.cells #[.string x, .int .i64 t] 49)).cell (block_lt_of_cell t2)).trans t2; clear hb3))
  all_goals
    go_wp2_with fail
    go_end0
    exact ⟨rfl, ⟨_, _, HF6.out.2.1⟩, HB1.out.trans HF6.out.2.2⟩
end Go.Proofs.YtnelpgeiioflmaaGreatDoor.Y
