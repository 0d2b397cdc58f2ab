/-
  What the library's functions return that layer 7 calls: copies, leading bytes cut off, the part ahead of a line feed, line feeds counted; gapSize.
  What the reference of layer 7 returns: literal, Word: contracts, one a function.
  Lists of tokens in memory.
  What the program's own functions of layer 7 return: IsName, Quote, leadingMark.
-/
import Derived.Test.YtkjefigebdbkaaaDoorN01
import Derived.Test.YtkjefigebdbkaaaDoorTShelf
import Derived.Lib.IndexLaws
import Derived.OwnWalk
import Derived.Laws.AppendOwnNone
import Derived.Deep.AppendLies
import Derived.Laws.MakeOwn
namespace Go.Proofs.YtkjefigebdbkaaaDoor.L
open Go.RowKit

theorem oclone_any (s : ByteArray) (hs : s.size ≤ 281474976710656) (w : World) :
    Calls Tryd.prog 42 #[.string s] w fun e w' => e = .returned (.string s) ∧ Below w.heap.size w w' := by
  go_enter Tryd.func42, Tryd.ntmps42
  go_wp2_with (go_at_call 75; refine (Tryd.stringslite_Clone _ _ hs).mono ?_; rintro e w' ⟨rfl, hb⟩)
  go_ret
  exact ⟨rfl, hb⟩
/-! ### the part ahead of a line feed -/

/-! ### gapSize -/

end Go.Proofs.YtkjefigebdbkaaaDoor.L
namespace Go.Proofs.YtkjefigebdbkaaaDoor.L
open Go.RowKit

/-- a literal's rest read: the text, where it ends, the error -/
def GivesX (e : Ending) (s : ByteArray) (r : Str × Str × Int) : Prop :=
  ∃ E : Int, e = .returned (.tuple #[.string ⟨r.1.toArray⟩, .int .i64 E, .int .i64 r.2.2]) ∧ (r.2.2 = 0 → E = ((s.size - r.2.1.length : Nat) : Int))
theorem GivesX.ok {e : Ending} {s T : ByteArray} {r : Str × Str × Int} {k : Nat} (h : r = (T.data.toList, s.data.toList.drop k, 0)) (hk : k ≤ s.size) (he : e = .returned (.tuple #[.string T, .int .i64 (k : Int), .int .i64 0])) : GivesX e s r := by
  subst h
  refine ⟨k, he, fun _ => ?_⟩
  show (k : Int) = ((s.size - (s.data.toList.drop k).length : Nat) : Int)
  rw [List.length_drop, ← size_len]
  omega
end Go.Proofs.YtkjefigebdbkaaaDoor.L
namespace Go.Proofs.YtkjefigebdbkaaaDoor.L
open Go.RowKit

/-- a token, as the program has it -/
structure T where
  k : Int
  t : ByteArray
  n : Int
  line : Int
def T.val (p : T) : Value := .agg #[.int .i64 p.k, .string p.t, .int .i64 p.n, .int .i64 p.line]
def T.cells (p : T) : List Value := [.int .i64 p.k, .string p.t, .int .i64 p.n, .int .i64 p.line]
/-- the four cells of a pair -/
structure At (w : World) (b o : Nat) (p : T) : Prop where
  key : w.cell? ⟨b, o, none⟩ = some (.int .i64 p.k)
  kind : w.cell? ⟨b, o + 1, none⟩ = some (.string p.t)
  num : w.cell? ⟨b, o + 2, none⟩ = some (.int .i64 p.n)
  str : w.cell? ⟨b, o + 3, none⟩ = some (.int .i64 p.line)
/-- the slice at a holds the pairs xs -/
def Tks (w : World) (a : Option Addr) (xs : List T) : Prop :=
  xs = [] ∨ ∃ b o, a = some ⟨b, o, none⟩ ∧ ∀ j (h : j < xs.length), At w b (o + j * 4) xs[j]
theorem At.below {w w' : World} {b o B : Nat} {p : T} (h : At w b o p) (hb : Below B w w') (hB : b < B) : At w' b o p :=
  ⟨(hb.cell (by exact hB)).trans h.key, (hb.cell (by exact hB)).trans h.kind, (hb.cell (by exact hB)).trans h.num, (hb.cell (by exact hB)).trans h.str⟩
theorem At.lt {w : World} {b o : Nat} {p : T} (h : At w b o p) : b < w.heap.size := block_lt_of_cell h.key
theorem Tks.below {w w' : World} {a : Option Addr} {xs : List T} (h : Tks w a xs) (hb : Below w.heap.size w w') : Tks w' a xs := by
  rcases h with h | ⟨b, o, rfl, h⟩
  · exact Or.inl h
  · exact Or.inr ⟨b, o, rfl, fun j hj => (h j hj).below hb (h j hj).lt⟩
theorem Tks.nil (w : World) (a : Option Addr) : Tks w a [] := Or.inl rfl
theorem Tks.open {w : World} {a : Option Addr} {xs : List T} (h : Tks w a xs) {k : Nat} (hk : k < xs.length) : ∃ b o, a = some ⟨b, o, none⟩ ∧ ∀ j (h : j < xs.length), At w b (o + j * 4) xs[j] :=
  h.resolve_left (fun e => by rw [e] at hk; exact absurd hk (Nat.not_lt_zero _))

theorem grownS {f : FuncId} {args : Array Value} {v : Value} {W : World} (h : ∀ w, Calls Tryd.prog f args w fun e w' => e = .returned v ∧ w' = w) (d : Nat) (os : Array Obj) :
    Calls Tryd.prog f args (Sort.grow (redrawn W d) os) fun e w'' => e = .returned v ∧ ∃ p : Regrown, w'' = Sort.grow (redrawn W p.d) p.os :=
  Calls.regrown_of ((h _).mono fun _ _ ⟨a, b⟩ => ⟨a, by rw [b]; exact Below.refl _ _⟩)
theorem At.grown {W : World} {b o : Nat} {p : T} (h : At W b o p) : (∀ (d : Nat) (os : Array Obj), (Sort.grow (redrawn W d) os).cell? ⟨b, o, none⟩ = some (.int .i64 p.k)) ∧ (∀ (d : Nat) (os : Array Obj), (Sort.grow (redrawn W d) os).cell? ⟨b, o + 1, none⟩ = some (.string p.t)) ∧
    (∀ (d : Nat) (os : Array Obj), (Sort.grow (redrawn W d) os).cell? ⟨b, o + 2, none⟩ = some (.int .i64 p.n)) ∧ (∀ (d : Nat) (os : Array Obj), (Sort.grow (redrawn W d) os).cell? ⟨b, o + 3, none⟩ = some (.int .i64 p.line)) :=
  ⟨fun d os => cell_regrown h.key d os, fun d os => cell_regrown h.kind d os, fun d os => cell_regrown h.num d os, fun d os => cell_regrown h.str d os⟩
/-- the cells of a list of pairs -/
def pc (xs : List T) : List Value := xs.flatMap T.cells
theorem pc_len : ∀ xs : List T, (pc xs).length = xs.length * 4
  | [] => rfl
  | p :: xs => by
    unfold pc
    rw [List.flatMap_cons, List.length_append, List.length_cons]
    have := pc_len xs
    unfold pc at this
    rw [this]
    show 4 + _ = _
    omega
theorem pc_get : ∀ (xs : List T) (k : Nat) (h : k < xs.length) (r : Nat), r < 4 → (pc xs)[k * 4 + r]? = xs[k].cells[r]?
  | p :: xs, 0, _, r, hr => by
    unfold pc
    rw [List.flatMap_cons, List.getElem?_append_left (by show 0 * 4 + r < 4; omega)]
    simp
  | p :: xs, k + 1, h, r, hr => by
    have ih := pc_get xs k (by simpa using h) r hr
    unfold pc at *
    rw [List.flatMap_cons, List.getElem?_append_right (by show 4 ≤ _; omega)]
    have e : (k + 1) * 4 + r - (T.cells p).length = k * 4 + r := by show (k + 1) * 4 + r - 4 = _; omega
    rw [e, ih]
    simp
/-- the slice at a, of capacity c, holds the pairs xs -/
structure Sl (w : World) (a : Option Addr) (c : Nat) (xs : List T) : Prop where
  cap : xs.length ≤ c
  nil : a = none → c = 0
  pos : c ≠ 0 → ∃ b o, a = some ⟨b, o, none⟩ ∧ ∀ j (h : j < xs.length), At w b (o + j * 4) xs[j]
theorem Sl.below {w w' : World} {a : Option Addr} {c : Nat} {xs : List T} (h : Sl w a c xs) (hb : Below w.heap.size w w') : Sl w' a c xs :=
  ⟨h.cap, h.nil, fun hc => by
    obtain ⟨b, o, e, h1⟩ := h.pos hc
    exact ⟨b, o, e, fun j hj => (h1 j hj).below hb (h1 j hj).lt⟩⟩
theorem Sl.alloc {w : World} {a : Option Addr} {c : Nat} {xs : List T} (h : Sl w a c xs) (o : Obj) : Sl (w.alloc o) a c xs := h.below (below_box w o)
/-- the cells of a slice, one after the other -/
theorem Sl.cells {w : World} {b o : Nat} {xs : List T} (h : ∀ j (h : j < xs.length), At w b (o + j * 4) xs[j]) : ∀ j u, (pc xs)[j]? = some u → w.cell? ((⟨b, o, none⟩ : Addr).add j) = some u := by
  intro j u hu
  have hj : j < xs.length * 4 := by rw [← pc_len]; exact (List.getElem?_eq_some_iff.1 hu).1
  obtain ⟨k, r, rfl, hr⟩ : ∃ k r, j = k * 4 + r ∧ r < 4 := ⟨j / 4, j % 4, by omega, by omega⟩
  have hk : k < xs.length := by omega
  rw [pc_get xs k hk r hr] at hu
  rw [Addr.add_lit]
  obtain ⟨c0, c1, c2, c3⟩ := h k hk
  match r, hr with
  | 0, _ => rw [show o + (k * 4 + 0) = o + k * 4 by omega, c0]; exact hu
  | 1, _ => rw [show o + (k * 4 + 1) = o + k * 4 + 1 by omega, c1]; exact hu
  | 2, _ => rw [show o + (k * 4 + 2) = o + k * 4 + 2 by omega, c2]; exact hu
  | 3, _ => rw [show o + (k * 4 + 3) = o + k * 4 + 3 by omega, c3]; exact hu
theorem own_belowO {w w' : World} {B n size : Nat} {e : TypeId} {v : Value} {xs : List Value} (h : w.ownsRow B e size v n xs) (hb : Below w.heap.size w w') : w'.ownsRow B e size v n xs := by
  refine ⟨h.1, ?_⟩
  rcases h.2 with h0 | ⟨g, cap, cur, hv, hB, hg, r⟩
  · exact Or.inl h0
  · exact Or.inr ⟨g, cap, cur, hv, hB, (hb.block g (Array.getElem?_eq_some_iff.1 hg).1).trans hg, r⟩
theorem below_app {B : Nat} {w1 wr w2 : World} {o : Obj} {v : Value} (hb : Below B w1 wr) (hB : B ≤ wr.heap.size) (hg : (wr.alloc o).grownBy w2 v.ownBlock) (hv : ∀ g, v.ownBlock = some g → B ≤ g) : Below B w1 w2 :=
  (hb.alloc hB o).grown hg (by simp; omega) hv
theorem own_ge {w : World} {B n size : Nat} {e : TypeId} {v : Value} {xs : List Value} (h : w.ownsRow B e size v n xs) : ∀ g, v.ownBlock = some g → B ≤ g := by
  intro g hg
  rcases h.2 with ⟨rfl, _⟩ | ⟨g', cap, cur, rfl, hb, _⟩
  · cases hg
  · cases hg; exact hb
/-- block b is the call's own, holds a pair and may be written -/
structure MineT (w : World) (b : Nat) : Prop where
  cells : ∃ p, At w b 0 p
  free : w.frozen? ⟨b, 0, none⟩ = false ∧ w.frozen? ⟨b, 1, none⟩ = false ∧ w.frozen? ⟨b, 2, none⟩ = false ∧ w.frozen? ⟨b, 3, none⟩ = false
theorem MineT.below {w w' : World} {b B : Nat} (h : MineT w b) (hb : Below B w w') (hB : b < B) : MineT w' b := by
  obtain ⟨⟨p, h1⟩, h2, h3, h4, h5⟩ := h
  exact ⟨⟨p, h1.below hb hB⟩, (hb.frozen (by exact hB)).trans h2, (hb.frozen (by exact hB)).trans h3, (hb.frozen (by exact hB)).trans h4, (hb.frozen (by exact hB)).trans h5⟩
theorem MineT.lt {w : World} {b : Nat} (h : MineT w b) : b < w.heap.size := by
  obtain ⟨⟨p, h1⟩, _⟩ := h
  exact h1.lt
end Go.Proofs.YtkjefigebdbkaaaDoor.L
namespace Go.Proofs.YtkjefigebdbkaaaDoor.L
open Go.RowKit

theorem lead_all {l : Str} (h : l.all part = true) : l.takeWhile part = l := by
  have := (take_sep (w := l) (r := []) h (fun c z e => by cases e)).1
  rwa [List.append_nil] at this
theorem name_lead {s : ByteArray} (h : 0 < s.size) (h1 : s.size ≤ 16) (h2 : letter s[0] = true) (h3 : s.data.toList.takeWhile part = s.data.toList) : isName s.data.toList = !isKw s.data.toList :=
  name_kw h h1 h2 (by unfold wl; rw [List.drop_zero, h3, size_len])
theorem name_off {s : ByteArray} (h3 : ¬ s.data.toList.takeWhile part = s.data.toList) : isName s.data.toList = false := by
  refine name_part fun h => h3 ?_
  unfold wl at h
  rw [List.drop_zero, size_len] at h
  exact lead_all (all_take.1 h)
theorem empty_of {s : ByteArray} : s.toList.isEmpty = decide (s.size = 0) := by
  rw [Lib.toList_data, Bool.eq_iff_iff, List.isEmpty_iff, decide_eq_true_iff, size_len, List.length_eq_zero_iff]
set_option maxHeartbeats 1000000 in
set_option maxRecDepth 100000 in
theorem oname_any (s : ByteArray) (w : World) :
    Calls Tryd.prog 37 #[.string s] w fun e w' => e = .returned (.bool (isName s.data.toList)) ∧ Below w.heap.size w w' := by
  by_cases h0 : 0 < s.size
  · have he : s.toList.isEmpty = false := by rw [empty_of]; exact decide_eq_false (by omega)
    by_cases h16 : s.size ≤ 16
    · have h1 := fun w => oletter_any (s[0].toNat : Int) w
      rw [ltr_of] at h1
      have hb := byte_lt s[0]
      cases hl : letter s[0]
      · have HV := Lib.hid (name_head h0 hl)
        rw [hl] at h1
        have H1 := Lib.hid h1
        clear h1 hl
        go_enter Tryd.func37, Tryd.ntmps37
        go_wp2_with fail
        refine (H1.out _).mono ?_; rintro e w1 ⟨rfl, rfl⟩
        go_wp2_with fail
        go_ret
        exact ⟨ret_bool HV.out.symm, Below.refl _ _⟩
      · rw [hl] at h1
        have H1 := Lib.hid h1
        have HW := Lib.hid (olead_any s)
        obtain ⟨d, hd⟩ : ∃ d : ByteArray, d = ⟨(s.data.toList.takeWhile part).toArray⟩ := ⟨_, rfl⟩
        have hdl : d.data.toList = s.data.toList.takeWhile part := by rw [hd]
        rw [← hd] at HW
        have hq : (d.toList == s.toList) = decide (s.data.toList.takeWhile part = s.data.toList) := by rw [eql_eq, hdl]
        by_cases hw : s.data.toList.takeWhile part = s.data.toList
        · have HV := Lib.hid (name_lead h0 h16 hl hw)
          rw [decide_eq_true hw] at hq
          have HK := Lib.hid (oisKw_any s)
          generalize isKw s.data.toList = K at HK HV
          clear h1 hl hw hd hdl
          cases K
          all_goals
            go_enter Tryd.func37, Tryd.ntmps37
            go_wp2_with fail
            refine (H1.out _).mono ?_; rintro e w1 ⟨rfl, rfl⟩
            go_wp2_with fail
            refine (HW.out _).mono ?_; rintro e w2 ⟨rfl, hb2⟩
            go_wp2_with fail
            refine (HK.out _).mono ?_; rintro e w3 ⟨rfl, rfl⟩
            go_wp2_with fail
            go_ret
            exact ⟨ret_bool (by rw [HV.out]; rfl), hb2⟩
        · have HV := Lib.hid (name_off hw)
          rw [decide_eq_false hw] at hq
          clear h1 hl hw hd hdl
          go_enter Tryd.func37, Tryd.ntmps37
          go_wp2_with fail
          refine (H1.out _).mono ?_; rintro e w1 ⟨rfl, rfl⟩
          go_wp2_with fail
          refine (HW.out _).mono ?_; rintro e w2 ⟨rfl, hb2⟩
          go_wp2_with fail
          go_ret
          exact ⟨ret_bool HV.out.symm, hb2⟩
    · have HV := Lib.hid (name_long h16)
      go_enter Tryd.func37, Tryd.ntmps37
      go_wp2_with fail
      go_ret
      exact ⟨ret_bool HV.out.symm, Below.refl _ _⟩
  · have HV := Lib.hid (name_short h0)
    have he : s.toList.isEmpty = true := by rw [empty_of]; exact decide_eq_true (by omega)
    go_enter Tryd.func37, Tryd.ntmps37
    go_wp2_with fail
    go_ret
    exact ⟨ret_bool HV.out.symm, Below.refl _ _⟩

/-! ### rows of bytes -/

def bc (l : Str) : List Value := l.map fun b => .int .u8 (b.toNat : Int)
theorem bc_app (a b : Str) : bc (a ++ b) = bc a ++ bc b := List.map_append
theorem info8 : (Tryd.prog.info? 5).map (fun i => (i.zero, i.size, i.bytes)) = some (some (.int .u8 0), 1, 1) := by kernel_rfl
/-- the call owns the bytes l -/
def Own8 (w : World) (B : Nat) (v : Value) (l : Str) : Prop := w.ownsRow B 5 1 v l.length (bc l)
theorem Own8.back {w : World} {B : Nat} {v : Value} {l : Str} (h : Own8 w B v l) : (convert 152 9 v).run Tryd.prog w = .ok (.string ⟨l.toArray⟩) w := by
  rcases h.2 with ⟨rfl, h0⟩ | ⟨g, cap, cur, rfl, _⟩
  · have : l = [] := List.length_eq_zero_iff.1 h0
    subst this
    exact run_convert_bytes_nil (P := Tryd.prog) w 152 5 Tryd.underlying152 Tryd.underlying5 0 0 9 Tryd.underlying9
  · refine run_convert_bytes_back (P := Tryd.prog) _ 152 9 5 _ _ l Tryd.underlying152 Tryd.underlying5 Tryd.underlying9 ?_
    intro j hj
    refine World.ownsRow.cells h (g := g) rfl j _ ?_
    simp [bc, hj]
theorem Own8.alloc {w : World} {B : Nat} {v : Value} {l : Str} (h : Own8 w B v l) (o : Obj) : Own8 (w.alloc o) B v l := World.ownsRow.alloc h o
theorem Own8.ge {w : World} {B : Nat} {v : Value} {l : Str} (h : Own8 w B v l) : ∀ g, v.ownBlock = some g → B ≤ g := own_ge h
theorem Own8.below {w w' : World} {B : Nat} {v : Value} {l : Str} (h : Own8 w B v l) (hb : Below w.heap.size w w') : Own8 w' B v l := own_belowO h hb
theorem Own8.lit (w : World) (c : UInt8) : Own8 (w.alloc (.cells #[.int .u8 (c.toNat : Int)] 5)) w.heap.size (.slice (some ⟨w.heap.size, 0, none⟩) 1 1) [c] := World.ownsRow_lit w _ 1 (Nat.le_refl _) (by decide) rfl
theorem cell_one (w : World) (v : Value) (t : TypeId) : ∀ j u, [v][j]? = some u → (w.alloc (.cells #[v] t)).cell? ((⟨w.heap.size, 0, none⟩ : Addr).add j) = some u := by
  intro j u hu
  have hj : j < 1 := (List.getElem?_eq_some_iff.1 hu).1
  obtain rfl : j = 0 := by omega
  rw [Addr.add_lit, Nat.zero_add]
  have h1 : (w.alloc (.cells #[v] t)).heap[w.heap.size]? = some (.cells #[v] t) := by
    show (w.heap.push _)[w.heap.size]? = _
    simp
  rw [cell_of_row _ _ _ _ _ _ h1, ← Array.getElem?_toList]
  exact hu
/-- a byte appended -/
theorem wpList_append_byte {w : World} {ops : Array Oper} {rest : List Oper} {o : Oper} {a : Act} {Q : Exit → Act → World → Prop} (hgd : o.guard = none) (s x : Operand)
    (ho : o.op = .call { callee := .builtin .append, args := #[s, x], argTypes := #[152, 152] })
    (base : Nat) (v : Value) (l : Str) (hs : a.eval s = v) (z : Int) (hown : Own8 w base v l)
    (g : Nat) (hx : a.eval x = .slice (some ⟨g, 0, none⟩) 1 1) (hg : g = w.heap.size) (hn : l.length ≤ 100000000000000) (hbase : base ≤ w.heap.size) (c : UInt8) (hz : z = (c.toNat : Int))
    (h : ∀ v' w', Own8 w' base v' (l ++ [c]) → (w.alloc (.cells #[.int .u8 z] 5)).grownBy w' v.ownBlock → wpList Tryd.prog ops Q rest (a.put o.dst v') w') :
    wpList Tryd.prog ops Q (o :: rest) a (w.alloc (.cells #[.int .u8 z] 5)) := by
  subst hg hz
  obtain ⟨i0, hi, hz0, hz1, hz2⟩ := info_parts info8
  refine wpList_append_own _ hgd s x 152 ho base 5 i0 (.int .u8 0) 1 1 Tryd.underlying152 hi hz0 hz1 hz2 rfl (by decide) v l.length (bc l) hs (hown.alloc _) ⟨w.heap.size, 0, none⟩ 1 1 [.int .u8 (c.toNat : Int)] hx rfl (cell_one _ _ _) (by intro u hu; simp at hu; subst hu; rfl) (by unfold maxLen; omega) (by omega) (by simp; omega) ?_
  intro v' w' h1 h2 _
  refine h v' w' ?_ h2
  unfold Own8
  rw [List.length_append, bc_app]
  exact h1

/-! ### Quote -/

theorem esc_next {s : ByteArray} {k : Nat} (h : k < s.size) :
    (spc s[k] = true → 34 :: esc (s.data.toList.take (k + 1)) = 34 :: esc (s.data.toList.take k) ++ [92] ++ [s[k]]) ∧ (spc s[k] = false → 34 :: esc (s.data.toList.take (k + 1)) = 34 :: esc (s.data.toList.take k) ++ [s[k]]) := by
  rw [take_snoc s k h, esc_app]
  constructor
  · intro hs
    rw [show esc [s[k]] = [92, s[k]] from by unfold esc; rw [if_pos (of_decide_eq_true hs)]; rfl]
    simp
  · intro hs
    rw [show esc [s[k]] = [s[k]] from by unfold esc; rw [if_neg (of_decide_eq_false hs)]; rfl]
    simp
theorem esc_le (s : ByteArray) (k : Nat) : (34 :: esc (s.data.toList.take k)).length ≤ 2 * s.size + 1 := by
  rw [List.length_cons]
  have h1 := esc_len (s.data.toList.take k)
  rw [List.length_take, ← size_len] at h1
  omega
set_option maxHeartbeats 2000000 in
set_option maxRecDepth 100000 in
theorem oquote_any (s : ByteArray) (w : World) :
    Calls Tryd.prog 134 #[.string s] w fun e w' => e = .returned (pairS (qt s.data.toList)) ∧ Below w.heap.size w w' := by
  by_cases h64 : 64 < s.size
  · have HV := Lib.hid (qt_long h64)
    go_enter Tryd.func134, Tryd.ntmps134
    go_wp2
    go_ret2
    exact ⟨by rw [HV.out]; rfl, Below.refl _ _⟩
  · have HP := Lib.hid oplain_any
    have HS := Lib.hid ospecial_any
    have HL := Lib.hid (Own8.lit w 34)
    go_enter Tryd.func134, Tryd.ntmps134
    go_wp2_with fail
    go_loopw [4, 12] (fun v i wr => ∃ k : Nat, k ≤ s.size ∧ i = .int .i64 k ∧ Hid (upto prt s k) ∧ Hid (Own8 wr w.heap.size v (34 :: esc (s.data.toList.take k))) ∧ Below w.heap.size w wr) (fun _ i _ => s.size - (intOf i).toNat)
    case atStart => exact ⟨0, Nat.zero_le _, rfl, fun j _ h => absurd h (Nat.not_lt_zero _), HL.out, below_box w _⟩
    case round =>
      obtain ⟨k, hk, rfl, HK, HO, hb⟩ := hrel
      have hzr := hb.size
      have hle := esc_le s k
      by_cases hlt : k < s.size
      · have hp := HP.out s[k]
        cases hok : prt s[k]
        · have HV := Lib.hid (qt_bad h64 (upto_not hlt hok))
          rw [hok] at hp
          have HP1 := Lib.hid hp
          clear hp hok
          go_wp2_with fail
          refine (HP1.out _).mono ?_; rintro e w1 ⟨rfl, rfl⟩
          go_wp2_with fail
          go_ret2
          exact ⟨by rw [HV.out]; rfl, hb⟩
        · rw [hok] at hp
          have HP1 := Lib.hid hp
          have HN : Hid (upto prt s (k + 1)) := by
            intro j h hj
            by_cases e : j = k
            · subst e; exact hok
            · exact HK.out j h (by omega)
          obtain ⟨n1, n2⟩ := esc_next hlt
          have hs := HS.out s[k]
          cases hsp : spc s[k]
          · rw [hsp] at hs
            have HS1 := Lib.hid hs
            have HE := Lib.hid (n2 hsp)
            clear hp hok hs hsp n1 n2
            go_wp2_with fail
            refine (HP1.out _).mono ?_; rintro e w1 ⟨rfl, he⟩; obtain rfl : wr = w1 := he.symm
            go_wp2_with fail
            refine (HS1.out _).mono ?_; rintro e w1 ⟨rfl, he⟩; obtain rfl : wr = w1 := he.symm
            go_wp2_with (at_builtin; refine wpList_append_byte rfl _ _ rfl w.heap.size u4 _ rfl _ HO.out wr.heap.size rfl rfl (by omega) (by omega) s[k] rfl ?_; intro v1 w2 hown1 hgrow1; have hb2 := below_app hb (by omega) hgrow1 HO.out.ge)
            go_roundw
            case rel => exact ⟨k + 1, by omega, by go_num, HN, (by unfold Hid; rw [HE.out]; exact hown1), hb2⟩
            case measure => simp [intOf]; omega
          · rw [hsp] at hs
            have HS1 := Lib.hid hs
            have HE := Lib.hid (n1 hsp)
            clear hp hok hs hsp n1 n2
            go_wp2_with fail
            refine (HP1.out _).mono ?_; rintro e w1 ⟨rfl, he⟩; obtain rfl : wr = w1 := he.symm
            go_wp2_with fail
            refine (HS1.out _).mono ?_; rintro e w1 ⟨rfl, he⟩; obtain rfl : wr = w1 := he.symm
            go_wp2_with (first
              | (at_builtin; refine wpList_append_byte rfl _ _ rfl w.heap.size u4 _ rfl _ HO.out wr.heap.size rfl rfl (by omega) (by omega) 92 rfl ?_; intro v1 w2 hown1 hgrow1; have hb2 := below_app hb (by omega) hgrow1 HO.out.ge; have hz2 := hb2.size)
              | (at_builtin; refine wpList_append_byte rfl _ _ rfl w.heap.size v1 _ rfl _ hown1 w2.heap.size rfl rfl (by rw [List.length_append]; simp only [List.length_cons, List.length_nil] at *; omega) (by omega) s[k] rfl ?_; intro v2 w3 hown2 hgrow2; have hb3 := below_app hb2 (by omega) hgrow2 hown1.ge))
            go_roundw
            case rel => exact ⟨k + 1, by omega, by go_num, HN, (by unfold Hid; rw [HE.out]; exact hown2), hb3⟩
            case measure => simp [intOf]; omega
      · obtain rfl : k = s.size := by omega
        have HV := Lib.hid (qt_ok h64 (upto_all HK.out))
        have HQ : Hid (34 :: (esc (s.data.toList.take s.size) ++ [34]) = quo s.data.toList) := by show _ = _; rw [size_len, List.take_length]; rfl
        go_wp2_with (at_builtin; refine wpList_append_byte rfl _ _ rfl w.heap.size u4 _ rfl _ HO.out wr.heap.size rfl rfl (by omega) (by omega) 34 rfl ?_; intro v1 w2 hown1 hgrow1; have hb2 := below_app hb (by omega) hgrow1 HO.out.ge; have hcv := hown1.back; have HB2 := Lib.hid hown1; clear hown1)
        go_ret2
        exact ⟨by rw [HV.out]; show _ = Ending.returned (.tuple #[.string ⟨(quo s.data.toList).toArray⟩, .int .i64 0]); rw [← HQ.out]; rfl, hb2⟩

/-! ### leadingMark -/

end Go.Proofs.YtkjefigebdbkaaaDoor.L
