/-
  What the parser's methods return: nested: contracts.
  A region in whatever order, by an invariant; the region that reads a second operand and makes an operator's expression.
  What the parser's method operator returns: a contract.
  What the parser's methods return: comparison: contracts.
  What the parser's methods return: chain: contracts.
  What the parser's methods return: or, and, cat, sum, product: contracts.
-/
import Derived.Test.YteglaeopaocilaaGreatDoorM22
import Derived.Deep.RegionLaw
import Derived.Deep.RegionWith
namespace Go.Proofs.YteglaeopaocilaaGreatDoor.P
open Go.RowKit
open L (Str Tok Tks toks At below_2 below_box ret_bool ret_int ret_string)
open A

theorem Psr.cells {g : Nat} {XS : List L.T} {k ne bl : Nat} {w : World} (h : Psr g XS k ne bl w) : w.cell? ⟨g, 2, none⟩ = some (.int .i64 ne) ∧ w.cell? ⟨g, 3, none⟩ = some (.int .i64 bl) ∧ w.frozen? ⟨g, 2, none⟩ = false ∧ w.frozen? ⟨g, 3, none⟩ = false := by
  obtain ⟨_, _, _, a, c, hB, _, _⟩ := h
  exact ⟨(cells4 hB).2.2.1, (cells4 hB).2.2.2, (free4 hB).2.2.1, (free4 hB).2.2.2⟩
theorem Psr.setNe {g : Nat} {XS : List L.T} {k ne bl : Nat} {w : World} (h : Psr g XS k ne bl w) (m : Nat) : Psr g XS k m bl (w.setCell ⟨g, 2, none⟩ (.int .i64 m)) := by
  obtain ⟨hk, h1, h2, a, c, hB, hc, ht⟩ := h
  have hkp : Kp w.heap.size g w (w.setCell ⟨g, 2, none⟩ (.int .i64 m)) := Kp.set
  have hS := hB.set 2 (u := .int .i64 m)
  exact ⟨hk, h1.kp h2 hkp, h2, a, c, by simpa using hS, hc, ht.kp hkp⟩
theorem Psr.setBl {g : Nat} {XS : List L.T} {k ne bl : Nat} {w : World} (h : Psr g XS k ne bl w) (m : Nat) : Psr g XS k ne m (w.setCell ⟨g, 3, none⟩ (.int .i64 m)) := by
  obtain ⟨hk, h1, h2, a, c, hB, hc, ht⟩ := h
  have hkp : Kp w.heap.size g w (w.setCell ⟨g, 3, none⟩ (.int .i64 m)) := Kp.set
  have hS := hB.set 3 (u := .int .i64 m)
  exact ⟨hk, h1.kp h2 hkp, h2, a, c, by simpa using hS, hc, ht.kp hkp⟩
/-- a function value that is the method number F of the parser -/
abbrev fnv (F g : Nat) : Value := .func (.func F) #[ptr g] #[]
set_option maxHeartbeats 4000000 in
set_option maxRecDepth 100000 in
theorem onested_any (F : Nat) (g : Nat) (hcf : ∀ w : World, (callFunc F #[ptr g]).run Tryz.prog w = .ok (.enter F #[ptr g]) w) (XS : List L.T) (k0 ne bl : Nat) (hn : ne ≤ 24) (hk0 : k0 < XS.length) (q : R Ex) (hsf : Sf (dr XS (k0 + 1)) q) (H : ne < 24 → CF F g XS (k0 + 1) (ne + 1) bl q) (w : World) (h : Psr g XS (k0 + 1) ne bl w) :
    Calls Tryz.prog 184 #[ptr g, fnv F g] w fun e w' => PRdX g XS ne bl w w' (if ne = 24 then .no (dr XS k0) 2 else q) e := by
  have hbx := below_box w (.cells #[.int .i64 0, .int .i64 0, .string ⟨#[]⟩, .slice none 0 0] 38)
  have HM := Lib.hid (Bk.new w #[.int .i64 0, .int .i64 0, .string ⟨#[]⟩, .slice none 0 0] 38)
  have hlt0 := h.lt
  have HP := Lib.hid (h.below hbx)
  have HB := Lib.hid hbx
  obtain ⟨p2, p3, pf2, pf3⟩ := HP.out.cells
  by_cases h24 : ne = 24
  · rw [if_pos h24]
    subst h24
    have HU := Lib.hid (otooDeep_any g XS (k0 + 1) 24 bl _ HP.out)
    unfold failV at HU
    rw [lnAt_next hk0, ← line_here hk0] at HU
    obtain ⟨l, hl⟩ : ∃ l, lineAt XS k0 = l := ⟨_, rfl⟩
    rw [hl] at HU
    have HE := Lib.hid (fails_of (x := 2) hl)
    have HJ : Hid (k0 ≤ XS.length) := Nat.le_of_lt hk0
    clear hbx h H hsf hk0 hl HM hlt0 hn
    go_enter Tryz.func184, Tryz.ntmps184
    go_wp2_with fail
    generalize w.alloc (.cells #[.int .i64 0, .int .i64 0, .string ⟨#[]⟩, .slice none 0 0] 38) = W0 at *
    generalize hB0 : w.heap.size = B at *
    refine HU.out.mono ?_; rintro e w1 ⟨rfl, hb⟩
    have HB1 := Lib.hid (below_on HB.out hB0 hb)
    clear hb
    go_wp2_with fail
    refine ⟨rfl, ?_⟩
    rw [HE.out]
    exact PRd.mk_no HJ.out (Kp.of (hB0.symm ▸ HB1.out))
  · rw [if_neg h24]
    have hlt : ne < 24 := by omega
    have hge : ¬ (24 : Int) ≤ (ne : Int) := by omega
    have hes : (w.setCell ⟨g, 2, none⟩ (.int .i64 ((ne : Int) + 1))).heap.size = w.heap.size := by simp [World.setCell]
    have hbn : Below (w.setCell ⟨g, 2, none⟩ (.int .i64 ((ne : Int) + 1))).heap.size (w.setCell ⟨g, 2, none⟩ (.int .i64 ((ne : Int) + 1))) ((w.setCell ⟨g, 2, none⟩ (.int .i64 ((ne : Int) + 1))).alloc (.cells #[.int .i64 0, .int .i64 0, .string ⟨#[]⟩, .slice none 0 0] 38)) := below_box _ _
    have HPn : Hid (Psr g XS (k0 + 1) (ne + 1) bl ((w.setCell ⟨g, 2, none⟩ (.int .i64 ((ne : Int) + 1))).alloc (.cells #[.int .i64 0, .int .i64 0, .string ⟨#[]⟩, .slice none 0 0] 38))) := (h.setNe (ne + 1)).below hbn
    have HX := Lib.hid (H hlt _ HPn.out)
    have hkp0 : Kp w.heap.size g w ((w.setCell ⟨g, 2, none⟩ (.int .i64 ((ne : Int) + 1))).alloc (.cells #[.int .i64 0, .int .i64 0, .string ⟨#[]⟩, .slice none 0 0] 38)) := Kp.set.trans (Kp.of (hes ▸ hbn))
    have HB1 := Lib.hid hkp0
    have HMn : Hid (Bk ((w.setCell ⟨g, 2, none⟩ (.int .i64 ((ne : Int) + 1))).alloc (.cells #[.int .i64 0, .int .i64 0, .string ⟨#[]⟩, .slice none 0 0] 38)) w.heap.size #[.int .i64 0, .int .i64 0, .string ⟨#[]⟩, .slice none 0 0] 38) := hes ▸ Bk.new (w.setCell ⟨g, 2, none⟩ (.int .i64 ((ne : Int) + 1))) #[.int .i64 0, .int .i64 0, .string ⟨#[]⟩, .slice none 0 0] 38
    clear hbn hes
    clear hbx h H h24 hkp0 hn HP
    go_enter Tryz.func184, Tryz.ntmps184
    go_wp2_with fail
    generalize ((w.setCell ⟨g, 2, none⟩ (.int .i64 ((ne : Int) + 1))).alloc (.cells #[.int .i64 0, .int .i64 0, .string ⟨#[]⟩, .slice none 0 0] 38)) = W0 at *
    generalize hB0 : w.heap.size = B at *
    clear p2 p3 pf2 pf3 HM HB
    refine HX.out.mono ?_; intro e w1 hm
    cases q with
    | no r x =>
      obtain ⟨j, hj, rfl⟩ := sf_no hsf
      obtain ⟨hb, he⟩ := PRd.no_dr hm hj
      have HB2 := Lib.hid (HB1.out.on hB0 hb)
      unfold fails at he
      subst he
      have HJ := Lib.hid hj
      clear hb hm hj hsf
      go_wp2_with fail
      exact ⟨rfl, PRd.mk_no HJ.out (hB0.symm ▸ HB2.out)⟩
    | ok t r =>
      obtain ⟨j, hkj, hj, rfl⟩ := sf_ok hsf
      obtain ⟨hb, v, rfl, hP, a0, c0, rfl, hK⟩ := PRd.ok_dr hm hj
      have hBW : B < W0.heap.size := HMn.out.lt
      have hx1 := below_box w1 (.cells #[.int .i64 t.op, .int .i64 t.n, .string t.s, .slice a0 t.args.length c0] 38)
      have hP1 := hP.below hx1
      obtain ⟨p2, p3, pf2, pf3⟩ := hP1.cells
      have p2' : (w1.alloc (.cells #[.int .i64 t.op, .int .i64 t.n, .string t.s, .slice a0 t.args.length c0] 38)).cell? ⟨g, 2, none⟩ = some (.int .i64 ((ne : Int) + 1)) := p2
      have hes : (w1.setCell ⟨g, 2, none⟩ (.int .i64 ne)).heap.size = w1.heap.size := by simp [World.setCell]
      have hset : Kp w1.heap.size g w1 (w1.setCell ⟨g, 2, none⟩ (.int .i64 ne)) := Kp.set
      have hbn : Below (w1.setCell ⟨g, 2, none⟩ (.int .i64 ne)).heap.size (w1.setCell ⟨g, 2, none⟩ (.int .i64 ne)) ((w1.setCell ⟨g, 2, none⟩ (.int .i64 ne)).alloc (.cells #[.int .i64 t.op, .int .i64 t.n, .string t.s, .slice a0 t.args.length c0] 38)) := below_box _ _
      have HB2 := Lib.hid (((HB1.out.on hB0 hb).on hB0 hset).on hB0 (Kp.of hbn))
      have hM2 := ((HMn.out.kp (by omega) hb).kp (by omega) hset).below hbn
      have HM2 := Lib.hid hM2
      have HP2 := Lib.hid ((hP.setNe ne).below hbn)
      have hX2 : Bk ((w1.setCell ⟨g, 2, none⟩ (.int .i64 ne)).alloc (.cells #[.int .i64 t.op, .int .i64 t.n, .string t.s, .slice a0 t.args.length c0] 38)) w1.heap.size #[.int .i64 t.op, .int .i64 t.n, .string t.s, .slice a0 t.args.length c0] 38 := hes ▸ Bk.new (w1.setCell ⟨g, 2, none⟩ (.int .i64 ne)) #[.int .i64 t.op, .int .i64 t.n, .string t.s, .slice a0 t.args.length c0] 38
      have HK2 := Lib.hid (kidsK (kidsK hK (by omega) hset) (by omega) (Kp.of hbn))
      have hgB : Hid (g < B) := by show g < B; omega
      have hgl1 : g < w1.heap.size := hP.lt
      have HBW := Lib.hid hBW
      have HJ := Lib.hid hj
      obtain ⟨c0', c1, c2, c3⟩ := cells4 hX2
      obtain ⟨r0, r1, r2, r3⟩ := cells4 hM2
      obtain ⟨f0, f1, f2, f3⟩ := free4 hM2
      unfold exV
      clear hb hx1 hm hP hK hkj hj hsf hBW hlt0 p2 hset hM2 hX2 hP1 hes hbn
      go_wp2_with fail
      obtain ⟨q0, q1, q2, q3⟩ := stored4 HM2.out (.int .i64 t.op) (.int .i64 t.n) (.string t.s) (.slice a0 t.args.length c0)
      refine bodyPost_ret (v := .agg #[.int .i64 t.op, .int .i64 t.n, .string t.s, .slice a0 t.args.length c0]) (by simp [results, Tryz.results184, go_sem, q0, q1, q2, q3]) rfl ?_
      have hBW' := HBW.out
      exact PRd.mk_ok HJ.out (kp_wset (hB0.symm ▸ HB2.out) (by omega)) (HP2.out.wset hgB.out) ⟨a0, c0, rfl, kids_less (kids_wset (kids_less HK2.out (by omega))) (by omega)⟩
end Go.Proofs.YteglaeopaocilaaGreatDoor.P
namespace Go.Proofs.YteglaeopaocilaaGreatDoor.P
open Go.RowKit
open L (Str Tok Tks toks At below_2 below_box ret_bool ret_int ret_string)
open A
/-- number j has come up -/
abbrev On (l : Array Bool) (j : Nat) : Prop := l.getD j false = true
theorem on_set {l : Array Bool} {i : Nat} (hi : l.getD i true = false) (j : Nat) : On (l.setIfInBounds i true) j ↔ (j = i ∨ On l j) := by
  unfold On
  by_cases h : i = j
  · subst h
    have hlt : i < l.size := by
      rcases Nat.lt_or_ge i l.size with h' | h'
      · exact h'
      · simp [Array.getElem?_eq_none h'] at hi
    simp [hlt]
  · rw [getD_set_ne false h]
    constructor
    · exact Or.inr
    · rintro (e | e)
      · exact absurd e.symm h
      · exact e
/-- what number i waits for -/
def deps (ops : Array Oper) (i : Nat) : List Nat := match ops[i]? with
  | none => []
  | some o => (o.after.toList.filter (Region.binds .any)).map (·.on)
def backs (ops : Array Oper) : Bool := (List.range ops.size).all fun i => (deps ops i).all (decide <| · < i)
theorem deps_of {ops : Array Oper} {i : Nat} {o : Oper} (ho : ops[i]? = some o) {l : Array Bool} (h : ∀ e ∈ o.after, Region.binds .any e = true → On l e.on) : ∀ j ∈ deps ops i, On l j := by
  intro j hj
  unfold deps at hj
  rw [ho] at hj
  obtain ⟨e, he, rfl⟩ := List.mem_map.1 hj
  obtain ⟨h1, h2⟩ := List.mem_filter.1 he
  exact h e (Array.mem_def.2 h1) h2
theorem mem_deps {ops : Array Oper} {i : Nat} {o : Oper} (ho : ops[i]? = some o) {e : Edge} (he : e ∈ o.after) (hb : Region.binds .any e = true) : e.on ∈ deps ops i := by
  unfold deps
  rw [ho]
  exact List.mem_map.2 ⟨e, List.mem_filter.2 ⟨Array.mem_def.1 he, hb⟩, rfl⟩
theorem wpAny_inv {P : Program} {ops : Array Oper} {Q : Exit → Act → World → Prop} (I : Array Bool → Act → World → Prop)
    (hback : backs ops = true)
    (hstep : ∀ l a w, I l a w → ∀ i, i < ops.size → l.getD i true = false → (∀ j ∈ deps ops i, On l j) → wpOp P ops Q i (I (l.setIfInBounds i true)) a w)
    (hdone : ∀ l a w, I l a w → (∀ j, j < ops.size → On l j) → Q .normal a w) :
    ∀ (fuel : Nat) (l : Array Bool) (a : Act) (w : World), l.size = ops.size → I l a w → l.toList.count false ≤ fuel → wpAny P .any ops Q fuel l a w := by
  have hend : ∀ (l : Array Bool), l.size = ops.size → Region.ready .any ops l = [] → ∀ j, j < ops.size → On l j := by
    intro l hl hr j
    induction j using Nat.strongRecOn with
    | ind j ih =>
      intro hj
      by_cases h : l.getD j true = false
      · have : j ∈ Region.ready .any ops l := mem_ready.2 ⟨h, ops[j], Array.getElem?_eq_getElem hj, fun e he hb => by
          have hlt : e.on < j := of_decide_eq_true (List.all_eq_true.1 (List.all_eq_true.1 hback j (List.mem_range.2 hj)) e.on (mem_deps (Array.getElem?_eq_getElem hj) he hb))
          exact ih _ hlt (Nat.lt_trans hlt hj)⟩
        rw [hr] at this
        cases this
      · have hj' : j < l.size := by omega
        unfold On
        simp [hj'] at h ⊢
        exact h
  intro fuel
  induction fuel with
  | zero =>
    intro l a w hl hI hc
    have hr : Region.ready .any ops l = [] := by
      rw [List.eq_nil_iff_forall_not_mem]
      intro i hi
      have h := (mem_ready.1 hi).1
      have hm : false ∈ l.toList := by
        rcases Nat.lt_or_ge i l.size with h' | h'
        · simp [h'] at h
          rw [← h]
          simp
        · simp [Array.getElem?_eq_none h'] at h
      have := List.count_pos_iff.2 hm
      omega
    exact ⟨hr, hdone l a w hI (hend l hl hr)⟩
  | succ fuel ih =>
    intro l a w hl hI hc
    refine ⟨fun hr => hdone l a w hI (hend l hl hr), fun i hi => ?_⟩
    obtain ⟨h0, o, ho, hall⟩ := mem_ready.1 hi
    have hlt : i < l.size := by
      rcases Nat.lt_or_ge i l.size with h' | h'
      · exact h'
      · simp [Array.getElem?_eq_none h'] at h0
    refine wpOp_mono (fun a' w' h => ih _ a' w' (by simpa using hl) h ?_) (hstep l a w hI i (by omega) h0 (deps_of ho hall))
    have hv : l[i] = false := by simpa [hlt] using h0
    have hm : 0 < l.toList.count false := List.count_pos_iff.2 (by rw [← hv]; simp)
    rw [Array.toList_setIfInBounds, List.count_set (by simpa using hlt)]
    simp [hv]; rw [← Array.count_toList]
    omega
theorem wp_region_inv {P : Program} {id : Nat} {ops : Array Oper} {Q : Exit → Act → World → Prop} {a : Act} {w : World} (hm : P.follows .mixedOrders = true) (I : Array Bool → Act → World → Prop)
    (hback : backs ops = true)
    (h0 : ∀ l, (∀ j, ¬ On l j) → I l a { w with drawn := w.drawn + 1 })
    (hstep : ∀ l a w, I l a w → ∀ i, i < ops.size → l.getD i true = false → (∀ j ∈ deps ops i, On l j) → wpOp P ops Q i (I (l.setIfInBounds i true)) a w)
    (hdone : ∀ l a w, I l a w → (∀ j, j < ops.size → On l j) → Q .normal a w) : (Code.region id ops true).wp P Q a w := by
  refine wp_region_any hm (wpAny_inv I hback hstep hdone _ _ _ _ (by simp) (h0 _ (fun j h => ?_)) (by simp))
  unfold On at h
  by_cases hj : j < ops.size
  · simp [hj] at h
  · simp [Array.getElem?_eq_none (show (Array.replicate ops.size false).size ≤ j by simpa using hj)] at h

/-! ### an operator's second operand -/

def Zk2 (B P : Nat) (j : Nat) : Prop := j < B + 1 ∨ j = P
theorem kz_set {Z : Nat → Prop} {w : World} {b i : Nat} {u : Value} {p : Option Addr} {l : List Ex} (hb : Z b) (h : KidsF Z w p l) : KidsF Z (w.setCell ⟨b, i, none⟩ u) p l :=
  h.next ⟨fun j _ hz => Below.heap_setCell _ _ _ _ (fun e => hz (by subst e; exact hb)), fun _ hj => Or.inl hj⟩
theorem kz_wset {Z : Nat → Prop} {w : World} {b : Nat} {x y z u : Value} {p : Option Addr} {l : List Ex} (hb : Z b) (h : KidsF Z w p l) : KidsF Z (wset w b x y z u) p l := kz_set hb (kz_set hb (kz_set hb (kz_set hb h)))
theorem kz_kp {Z : Nat → Prop} {w w' : World} {g : Nat} {p : Option Addr} {l : List Ex} (h : KidsF Z w p l) (hg : Z g) (hb : Kp w.heap.size g w w') : KidsF Z w' p l := h.next ⟨fun j hj hz => hb.block j hj (fun e => hz (by rw [e]; exact hg)), fun _ hj => Or.inl hj⟩
theorem kz_of {Z Z' : Nat → Prop} {w : World} {p : Option Addr} {l : List Ex} (h : KidsF Z w p l) (hz : ∀ j, Z' j → Z j) : KidsF Z' w p l := h.next ⟨fun _ _ _ => rfl, fun j hj => Or.inl (hz j hj)⟩
theorem kz_1 {Z : Nat → Prop} {w : World} {g : Nat} {e : Ex} {a : Option Addr} {c : Nat} (h : Bk w g #[.int .i64 e.op, .int .i64 e.n, .string e.s, .slice a e.args.length c] 38) (hz : ¬ Z g) (k : KidsF Z w a e.args) : KidsF Z w (some ⟨g, 0, none⟩) [e] := by
  cases e
  exact Or.inr ⟨g, 0, rfl, ⟨(hollow_cell Z w g 0 _).2 ⟨hz, h.cell 0⟩, (hollow_cell Z w g 1 _).2 ⟨hz, h.cell 1⟩, (hollow_cell Z w g 2 _).2 ⟨hz, h.cell 2⟩, a, c, (hollow_cell Z w g 3 _).2 ⟨hz, h.cell 3⟩, k⟩, trivial⟩
theorem kz_2 {Z : Nat → Prop} {w : World} {g : Nat} {e f : Ex} {a b : Option Addr} {c d : Nat} (h : Bk w g #[.int .i64 e.op, .int .i64 e.n, .string e.s, .slice a e.args.length c, .int .i64 f.op, .int .i64 f.n, .string f.s, .slice b f.args.length d] 38) (hz : ¬ Z g) (k : KidsF Z w a e.args) (k2 : KidsF Z w b f.args) : KidsF Z w (some ⟨g, 0, none⟩) [e, f] := by
  cases e; cases f
  exact Or.inr ⟨g, 0, rfl, ⟨(hollow_cell Z w g 0 _).2 ⟨hz, h.cell 0⟩, (hollow_cell Z w g 1 _).2 ⟨hz, h.cell 1⟩, (hollow_cell Z w g 2 _).2 ⟨hz, h.cell 2⟩, a, c, (hollow_cell Z w g 3 _).2 ⟨hz, h.cell 3⟩, k⟩,
    ⟨(hollow_cell Z w g 4 _).2 ⟨hz, h.cell 4⟩, (hollow_cell Z w g 5 _).2 ⟨hz, h.cell 5⟩, (hollow_cell Z w g 6 _).2 ⟨hz, h.cell 6⟩, b, d, (hollow_cell Z w g 7 _).2 ⟨hz, h.cell 7⟩, k2⟩, trivial⟩
/-- what stays while the region runs: W0 the world at the function's start, B its result's box, P the first operand's -/
structure En (W0 : World) (B g P : Nat) (XS : List L.T) (k ne bl : Nat) (t : Ex) (a0 : Option Addr) (c0 : Nat) (w : World) : Prop where
  kp : Kp B g W0 w
  psr : Psr g XS k ne bl w
  bt : Bk w P #[.int .i64 t.op, .int .i64 t.n, .string t.s, .slice a0 t.args.length c0] 38
  bB : Bk w B #[.int .i64 0, .int .i64 0, .string ⟨#[]⟩, .slice none 0 0] 38
  kt : KidsF (Zk2 B P) w a0 t.args
  hg : g < B
  hP : B < P
section
variable {W0 : World} {B g P : Nat} {XS : List L.T} {k k' ne bl : Nat} {t : Ex} {a0 : Option Addr} {c0 : Nat} {w w' : World}
theorem En.next (h : En W0 B g P XS k ne bl t a0 c0 w) (hB : W0.heap.size = B) (hb : Kp w.heap.size g w w') (hp : Psr g XS k' ne bl w') : En W0 B g P XS k' ne bl t a0 c0 w' := by
  have h1 := h.hg
  have h2 := h.hP
  exact ⟨h.kp.on hB hb, hp, h.bt.kp (by omega) hb, h.bB.kp (by omega) hb, kz_kp h.kt (Or.inl (by omega)) hb, h1, h2⟩
theorem En.below (h : En W0 B g P XS k ne bl t a0 c0 w) (hB : W0.heap.size = B) (hb : Below w.heap.size w w') : En W0 B g P XS k ne bl t a0 c0 w' := h.next hB (Kp.of hb) (h.psr.below hb)
end
/-- the seven numbers of the region: 0 the operator, 1 the first operand, 2 the function value, 3 its call, 4 the row, 5 apply, 6 the store -/
structure Bi (S0 : World → Prop) (S1 S2 S3 : Value → World → Prop) (S4 : World → Prop) (x0 x1 x2 : Value) (l : Array Bool) (w : World) (v0 v1 v2 v3 v4 v5 : Value) : Prop where
  f0 : On l 0 → v0 = x0
  f1 : On l 1 → v1 = x1
  f2 : On l 2 → v2 = x2
  s0 : ¬ On l 3 → S0 w
  s1 : On l 3 → ¬ On l 4 → S1 v3 w
  s2 : On l 4 → ¬ On l 5 → S2 v4 w
  s3 : On l 5 → ¬ On l 6 → S3 v5 w
  s4 : On l 6 → S4 w
  d4 : On l 4 → On l 3 ∧ On l 1
  d5 : On l 5 → On l 4
  d6 : On l 6 → On l 5
theorem off_of {l : Array Bool} {i : Nat} (h : l.getD i true = false) : ¬ On l i := fun h2 => by
  unfold On at h2
  rcases Nat.lt_or_ge i l.size with h' | h'
  · simp [h'] at h h2; rw [h] at h2; cases h2
  · simp [Array.getElem?_eq_none h'] at h
section
variable {S0 : World → Prop} {S1 S2 S3 : Value → World → Prop} {S4 : World → Prop} {x0 x1 x2 : Value} {l : Array Bool} {w w' : World} {v0 v1 v2 v3 v4 v5 : Value}
theorem other_on {i j : Nat} (h0 : l.getD i true = false) (hj : j ≠ i) : On (l.setIfInBounds i true) j ↔ On l j := (on_set h0 j).trans ⟨fun h => h.resolve_left hj, Or.inr⟩
theorem self_on {i : Nat} (h0 : l.getD i true = false) : On (l.setIfInBounds i true) i := (on_set h0 i).2 (Or.inl rfl)
theorem Bi.p0 (F : Bi S0 S1 S2 S3 S4 x0 x1 x2 l w v0 v1 v2 v3 v4 v5) (h0 : l.getD 0 true = false) : Bi S0 S1 S2 S3 S4 x0 x1 x2 (l.setIfInBounds 0 true) w x0 v1 v2 v3 v4 v5 := by
  have e := fun j (h : j ≠ 0) => other_on (l := l) h0 h
  exact { f0 := fun _ => rfl, f1 := fun h => F.f1 ((e 1 (by decide)).1 h), f2 := fun h => F.f2 ((e 2 (by decide)).1 h),
          s0 := fun h => F.s0 (fun x => h ((e 3 (by decide)).2 x)), s1 := fun h h' => F.s1 ((e 3 (by decide)).1 h) (fun x => h' ((e 4 (by decide)).2 x)), s2 := fun h h' => F.s2 ((e 4 (by decide)).1 h) (fun x => h' ((e 5 (by decide)).2 x)),
          s3 := fun h h' => F.s3 ((e 5 (by decide)).1 h) (fun x => h' ((e 6 (by decide)).2 x)), s4 := fun h => F.s4 ((e 6 (by decide)).1 h),
          d4 := fun h => let ⟨a, b⟩ := F.d4 ((e 4 (by decide)).1 h); ⟨(e 3 (by decide)).2 a, (e 1 (by decide)).2 b⟩, d5 := fun h => (e 4 (by decide)).2 (F.d5 ((e 5 (by decide)).1 h)), d6 := fun h => (e 5 (by decide)).2 (F.d6 ((e 6 (by decide)).1 h)) }
theorem Bi.p1 (F : Bi S0 S1 S2 S3 S4 x0 x1 x2 l w v0 v1 v2 v3 v4 v5) (h0 : l.getD 1 true = false) : Bi S0 S1 S2 S3 S4 x0 x1 x2 (l.setIfInBounds 1 true) w v0 x1 v2 v3 v4 v5 := by
  have e := fun j (h : j ≠ 1) => other_on (l := l) h0 h
  exact { f0 := fun h => F.f0 ((e 0 (by decide)).1 h), f1 := fun _ => rfl, f2 := fun h => F.f2 ((e 2 (by decide)).1 h),
          s0 := fun h => F.s0 (fun x => h ((e 3 (by decide)).2 x)), s1 := fun h h' => F.s1 ((e 3 (by decide)).1 h) (fun x => h' ((e 4 (by decide)).2 x)), s2 := fun h h' => F.s2 ((e 4 (by decide)).1 h) (fun x => h' ((e 5 (by decide)).2 x)),
          s3 := fun h h' => F.s3 ((e 5 (by decide)).1 h) (fun x => h' ((e 6 (by decide)).2 x)), s4 := fun h => F.s4 ((e 6 (by decide)).1 h),
          d4 := fun h => ⟨(e 3 (by decide)).2 (F.d4 ((e 4 (by decide)).1 h)).1, self_on h0⟩, d5 := fun h => (e 4 (by decide)).2 (F.d5 ((e 5 (by decide)).1 h)), d6 := fun h => (e 5 (by decide)).2 (F.d6 ((e 6 (by decide)).1 h)) }
theorem Bi.p2 (F : Bi S0 S1 S2 S3 S4 x0 x1 x2 l w v0 v1 v2 v3 v4 v5) (h0 : l.getD 2 true = false) : Bi S0 S1 S2 S3 S4 x0 x1 x2 (l.setIfInBounds 2 true) w v0 v1 x2 v3 v4 v5 := by
  have e := fun j (h : j ≠ 2) => other_on (l := l) h0 h
  exact { f0 := fun h => F.f0 ((e 0 (by decide)).1 h), f1 := fun h => F.f1 ((e 1 (by decide)).1 h), f2 := fun _ => rfl,
          s0 := fun h => F.s0 (fun x => h ((e 3 (by decide)).2 x)), s1 := fun h h' => F.s1 ((e 3 (by decide)).1 h) (fun x => h' ((e 4 (by decide)).2 x)), s2 := fun h h' => F.s2 ((e 4 (by decide)).1 h) (fun x => h' ((e 5 (by decide)).2 x)),
          s3 := fun h h' => F.s3 ((e 5 (by decide)).1 h) (fun x => h' ((e 6 (by decide)).2 x)), s4 := fun h => F.s4 ((e 6 (by decide)).1 h),
          d4 := fun h => let ⟨a, b⟩ := F.d4 ((e 4 (by decide)).1 h); ⟨(e 3 (by decide)).2 a, (e 1 (by decide)).2 b⟩, d5 := fun h => (e 4 (by decide)).2 (F.d5 ((e 5 (by decide)).1 h)), d6 := fun h => (e 5 (by decide)).2 (F.d6 ((e 6 (by decide)).1 h)) }
theorem Bi.p3 (F : Bi S0 S1 S2 S3 S4 x0 x1 x2 l w v0 v1 v2 v3 v4 v5) (h0 : l.getD 3 true = false) (v : Value) (hs : S1 v w') : Bi S0 S1 S2 S3 S4 x0 x1 x2 (l.setIfInBounds 3 true) w' v0 v1 v2 v v4 v5 := by
  have e := fun j (h : j ≠ 3) => other_on (l := l) h0 h
  have n3 := off_of h0
  have n4 : ¬ On l 4 := fun h => n3 (F.d4 h).1
  have n5 : ¬ On l 5 := fun h => n4 (F.d5 h)
  have n6 : ¬ On l 6 := fun h => n5 (F.d6 h)
  exact { f0 := fun h => F.f0 ((e 0 (by decide)).1 h), f1 := fun h => F.f1 ((e 1 (by decide)).1 h), f2 := fun h => F.f2 ((e 2 (by decide)).1 h),
          s0 := fun h => absurd (self_on h0) h, s1 := fun _ _ => hs, s2 := fun h => absurd ((e 4 (by decide)).1 h) n4, s3 := fun h => absurd ((e 5 (by decide)).1 h) n5, s4 := fun h => absurd ((e 6 (by decide)).1 h) n6,
          d4 := fun h => absurd ((e 4 (by decide)).1 h) n4, d5 := fun h => absurd ((e 5 (by decide)).1 h) n5, d6 := fun h => absurd ((e 6 (by decide)).1 h) n6 }
theorem Bi.p4 (F : Bi S0 S1 S2 S3 S4 x0 x1 x2 l w v0 v1 v2 v3 v4 v5) (h0 : l.getD 4 true = false) (h3 : On l 3) (h1 : On l 1) (v : Value) (hs : S2 v w') : Bi S0 S1 S2 S3 S4 x0 x1 x2 (l.setIfInBounds 4 true) w' v0 v1 v2 v3 v v5 := by
  have e := fun j (h : j ≠ 4) => other_on (l := l) h0 h
  have n4 := off_of h0
  have n5 : ¬ On l 5 := fun h => n4 (F.d5 h)
  have n6 : ¬ On l 6 := fun h => n5 (F.d6 h)
  exact { f0 := fun h => F.f0 ((e 0 (by decide)).1 h), f1 := fun h => F.f1 ((e 1 (by decide)).1 h), f2 := fun h => F.f2 ((e 2 (by decide)).1 h),
          s0 := fun h => absurd ((e 3 (by decide)).2 h3) h, s1 := fun _ h => absurd (self_on h0) h, s2 := fun _ _ => hs, s3 := fun h => absurd ((e 5 (by decide)).1 h) n5, s4 := fun h => absurd ((e 6 (by decide)).1 h) n6,
          d4 := fun _ => ⟨(e 3 (by decide)).2 h3, (e 1 (by decide)).2 h1⟩, d5 := fun h => absurd ((e 5 (by decide)).1 h) n5, d6 := fun h => absurd ((e 6 (by decide)).1 h) n6 }
theorem Bi.p5 (F : Bi S0 S1 S2 S3 S4 x0 x1 x2 l w v0 v1 v2 v3 v4 v5) (h0 : l.getD 5 true = false) (h4 : On l 4) (v : Value) (hs : S3 v w') : Bi S0 S1 S2 S3 S4 x0 x1 x2 (l.setIfInBounds 5 true) w' v0 v1 v2 v3 v4 v := by
  have e := fun j (h : j ≠ 5) => other_on (l := l) h0 h
  have n5 := off_of h0
  have n6 : ¬ On l 6 := fun h => n5 (F.d6 h)
  have h3 := F.d4 h4
  exact { f0 := fun h => F.f0 ((e 0 (by decide)).1 h), f1 := fun h => F.f1 ((e 1 (by decide)).1 h), f2 := fun h => F.f2 ((e 2 (by decide)).1 h),
          s0 := fun h => absurd ((e 3 (by decide)).2 h3.1) h, s1 := fun _ h => absurd ((e 4 (by decide)).2 h4) h, s2 := fun _ h => absurd (self_on h0) h, s3 := fun _ _ => hs, s4 := fun h => absurd ((e 6 (by decide)).1 h) n6,
          d4 := fun _ => ⟨(e 3 (by decide)).2 h3.1, (e 1 (by decide)).2 h3.2⟩, d5 := fun _ => (e 4 (by decide)).2 h4, d6 := fun h => absurd ((e 6 (by decide)).1 h) n6 }
theorem Bi.p6 (F : Bi S0 S1 S2 S3 S4 x0 x1 x2 l w v0 v1 v2 v3 v4 v5) (h0 : l.getD 6 true = false) (h5 : On l 5) (hs : S4 w') : Bi S0 S1 S2 S3 S4 x0 x1 x2 (l.setIfInBounds 6 true) w' v0 v1 v2 v3 v4 v5 := by
  have e := fun j (h : j ≠ 6) => other_on (l := l) h0 h
  have h4 := F.d5 h5
  have h3 := F.d4 h4
  exact { f0 := fun h => F.f0 ((e 0 (by decide)).1 h), f1 := fun h => F.f1 ((e 1 (by decide)).1 h), f2 := fun h => F.f2 ((e 2 (by decide)).1 h),
          s0 := fun h => absurd ((e 3 (by decide)).2 h3.1) h, s1 := fun _ h => absurd ((e 4 (by decide)).2 h4) h, s2 := fun _ h => absurd ((e 5 (by decide)).2 h5) h, s3 := fun _ h => absurd (self_on h0) h, s4 := fun _ => hs,
          d4 := fun _ => ⟨(e 3 (by decide)).2 h3.1, (e 1 (by decide)).2 h3.2⟩, d5 := fun _ => (e 4 (by decide)).2 h4, d6 := fun _ => (e 5 (by decide)).2 h5 }
end
end Go.Proofs.YteglaeopaocilaaGreatDoor.P
namespace Go.Proofs.YteglaeopaocilaaGreatDoor.P
open Go.RowKit
open L (Str Tok Tks toks At below_2 below_box ret_bool ret_int ret_string)
open A

/-- the row of numbers in block b -/
def Ints (w : World) (b : Nat) (ops : List Nat) : Prop := ∀ j (h : j < ops.length), w.cell? ⟨b, j, none⟩ = some (.int .i64 ops[j])
theorem Ints.kp {w w' : World} {b g : Nat} {ops : List Nat} (h : Ints w b ops) (hl : b < w.heap.size) (hg : b ≠ g) (hb : Kp w.heap.size g w w') : Ints w' b ops := fun j hj => (hb.cell (p := ⟨b, j, none⟩) hl hg).trans (h j hj)
theorem opW_at {o : Nat} (h : o < opWs.length) : opW o = (opWs[o]).data.toList := by
  unfold opW allW
  rw [List.getElem?_map, List.getElem?_eq_getElem h]
  rfl
theorem oper_hit {l : T} : ∀ {ops : List Nat} {j : Nat} (h : j < ops.length), (∀ i (hi : i < ops.length), i < j → isW l (opW ops[i]) = false) → isW l (opW ops[j]) = true → oper ops l = ops[j]
  | o :: r, 0, _, _, ht => by
    have ht' : isW l (opW o) = true := ht
    rw [oper, if_pos ht']; rfl
  | o :: r, j + 1, h, hn, ht => by
    have h0 : isW l (opW o) = false := hn 0 (Nat.succ_pos _) (Nat.succ_pos _)
    rw [oper, if_neg (by rw [h0]; decide)]
    have := oper_hit (l := l) (ops := r) (j := j) (Nat.lt_of_succ_lt_succ h) (fun i hi hlt => hn (i + 1) (Nat.succ_lt_succ hi) (by omega)) ht
    rw [this]
    rfl
theorem oper_none {l : T} : ∀ {ops : List Nat}, (∀ i (hi : i < ops.length), isW l (opW ops[i]) = false) → oper ops l = 0
  | [], _ => rfl
  | o :: r, hn => by
    have h0 : isW l (opW o) = false := hn 0 (Nat.succ_pos _)
    rw [oper, if_neg (by rw [h0]; decide)]
    exact oper_none (ops := r) (fun i hi => hn (i + 1) (Nat.succ_lt_succ hi))
set_option maxHeartbeats 4000000 in
set_option maxRecDepth 100000 in
theorem ooperator_any (g : Nat) (XS : List L.T) (k ne bl : Nat) (ops : List Nat) (hops : ∀ o ∈ ops, 4 ≤ o ∧ o < 28) (hlen : ops.length ≤ 8) (b : Nat) (hb : b ≠ g) (w : World) (h : Psr g XS k ne bl w) (hI : Ints w b ops) (hl : b < w.heap.size) :
    Calls Tryz.prog 140 #[ptr g, .slice (some ⟨b, 0, none⟩) ops.length ops.length] w fun e w' => e = .returned (.int .i64 (oper ops (dr XS k))) ∧ Kp w.heap.size g w w' ∧ Psr g XS (adv (decide (oper ops (dr XS k) ≠ 0)) k) ne bl w' := by
  have HP0 := Lib.hid h
  have HI0 := Lib.hid hI
  have HOP := Lib.hid hops
  have hw0 : Hid (b < w.heap.size) := hl
  clear h hI hops hl
  go_enter Tryz.func140, Tryz.ntmps140
  go_wp2_with fail
  generalize hB0 : w.heap.size = B at *
  go_loopw [9] (fun i wr => ∃ j : Nat, j ≤ ops.length ∧ i = .int .i64 j ∧ Hid (Psr g XS k ne bl wr) ∧ Hid (Kp B g w wr) ∧ Hid (∀ i (hi : i < ops.length), i < j → isW (dr XS k) (opW ops[i]) = false)) (fun i _ => ops.length - (intOf i).toNat)
  case atStart => exact ⟨0, Nat.zero_le _, rfl, HP0, Kp.refl _ _ _, fun _ _ h => absurd h (Nat.not_lt_zero _)⟩
  case round =>
    obtain ⟨j, hj, rfl, HP, HB, HN⟩ := hrel
    by_cases hlt : j < ops.length
    · have ho := HOP.out _ (List.getElem_mem hlt)
      have hI : Ints wr b ops := fun i hi => (HB.out.cell (p := ⟨b, i, none⟩) hw0.out hb).trans (HI0.out i hi)
      have x0 := hI j hlt
      have ho' : ops[j] < opWs.length := ho.2
      have x1 := HP.out.tab ops[j] ho'
      have hW := opW_at ho'
      have hit := oper_hit (l := dr XS k) hlt HN.out
      have HC := Lib.hid (otake_any g XS k ne bl wr HP.out opWs[ops[j]])
      rw [← hW] at HC
      generalize opWs[ops[j]] = s at x1 HC
      have HNn : Hid (isW (dr XS k) (opW ops[j]) = false → ∀ i (hi : i < ops.length), i < j + 1 → isW (dr XS k) (opW ops[i]) = false) := fun hf i hi h2 => by
        rcases Nat.lt_or_ge i j with h3 | h3
        · exact HN.out i hi h3
        · obtain rfl : i = j := by omega
          exact hf
      have HO4 : Hid (ops[j] ≠ 0) := by show _ ≠ _; omega
      generalize ops[j] = o at *
      have hz : (0 : Int) ≤ (o : Int) ∧ (o : Int) < 28 := by omega
      clear hI ho ho' hW
      cases hv : isW (dr XS k) (opW o)
      · rw [hv] at HC
        have HNx := Lib.hid (HNn.out hv)
        clear hit hv
        go_wp2_with fail
        refine HC.out.mono ?_; rintro e w1 ⟨rfl, hb1, hP1⟩
        have HB1 := Lib.hid (HB.out.on hB0 hb1)
        have HP1 := Lib.hid hP1
        clear hb1 hP1
        go_wp2_with fail
        go_roundw
        case rel => exact ⟨j + 1, by omega, by go_num, HP1, HB1, HNx⟩
        case measure => simp only [intOf]; omega
      · rw [hv] at HC
        have HNx := Lib.hid (hit hv)
        clear hit hv
        go_wp2_with fail
        refine HC.out.mono ?_; rintro e w1 ⟨rfl, hb1, hP1⟩
        have HB1 := Lib.hid (HB.out.on hB0 hb1)
        have HP1 := Lib.hid hP1
        clear hb1 hP1
        go_wp2_with fail
        go_ret
        rw [HNx.out, decide_eq_true HO4.out]
        exact ⟨rfl, hB0 ▸ HB1.out, HP1.out⟩
    · obtain rfl : j = ops.length := by omega
      have HNx := Lib.hid (oper_none (l := dr XS k) (ops := ops) (fun i hi => HN.out i hi hi))
      go_wp2_with fail
      go_ret
      rw [HNx.out]
      exact ⟨rfl, hB0 ▸ HB.out, HP.out⟩
end Go.Proofs.YteglaeopaocilaaGreatDoor.P
namespace Go.Proofs.YteglaeopaocilaaGreatDoor.P
open Go.RowKit
open L (Str Tok Tks toks At below_2 below_box ret_bool ret_int ret_string)
open A

theorem grow_kids {w : World} {n : Nat} {p : Option Addr} {l : List Ex} (h : KidsF (fun j => j < n) w p l) : KidsF (fun j => j < n ∨ w.heap.size ≤ j) w p l := h.next ⟨fun _ _ _ => rfl, fun _ hj => hj⟩
theorem ints_6 {w : World} {b : Nat} {t : TypeId} (h : Bk w b #[.int .i64 10, .int .i64 11, .int .i64 12, .int .i64 13, .int .i64 14, .int .i64 15] t) : Ints w b (opsL 4) := by
  intro j hj
  have hj' : j < 6 := hj
  have : j = 0 ∨ j = 1 ∨ j = 2 ∨ j = 3 ∨ j = 4 ∨ j = 5 := by omega
  rcases this with rfl | rfl | rfl | rfl | rfl | rfl
  · exact h.cell 0
  · exact h.cell 1
  · exact h.cell 2
  · exact h.cell 3
  · exact h.cell 4
  · exact h.cell 5
theorem ops_ok {lev : Nat} (h : lev ∈ [1, 2, 3, 4, 5, 6, 7, 8]) : (∀ o ∈ opsL lev, 4 ≤ o ∧ o < 28) ∧ (opsL lev).length ≤ 8 := by
  revert lev; decide
set_option maxHeartbeats 8000000 in
set_option maxRecDepth 100000 in
theorem ocomparison_any (g : Nat) (XS : List L.T) (k ne bl : Nat) (H0 : CF 216 g XS k ne bl (gX 5 ne (dr XS k))) (H : ∀ k', k < k' → k' ≤ XS.length → CF 216 g XS k' ne bl (gX 5 ne (dr XS k'))) (w : World) (h : Psr g XS k ne bl w) :
    Calls Tryz.prog 185 #[ptr g] w fun e w' => PRdX g XS ne bl w w' (gX 4 ne (dr XS k)) e := by
  rw [gX_down (by decide) (pre_0 _ 4 (by decide) (by decide))]
  have hbx := below_box w (.cells #[.int .i64 0, .int .i64 0, .string ⟨#[]⟩, .slice none 0 0] 38)
  have HM := Lib.hid (Bk.new w #[.int .i64 0, .int .i64 0, .string ⟨#[]⟩, .slice none 0 0] 38)
  have hlt0 := h.lt
  have HP := Lib.hid (h.below hbx)
  have HB := Lib.hid hbx
  have HX := Lib.hid (H0 _ HP.out)
  have HH := Lib.hid H
  have hsf : Sf (dr XS k) (gX 5 ne (dr XS k)) := (gX_is (by decide)).2
  generalize gX 5 ne (dr XS k) = q at HX hsf ⊢
  clear hbx h H H0
  go_enter Tryz.func185, Tryz.ntmps185
  go_wp2_with fail
  generalize w.alloc (.cells #[.int .i64 0, .int .i64 0, .string ⟨#[]⟩, .slice none 0 0] 38) = W0 at *
  generalize hB0 : w.heap.size = B at *
  cases q with
  | no r x =>
    obtain ⟨j, hj, rfl⟩ := sf_no hsf
    refine HX.out.mono ?_; intro e w1 hm
    obtain ⟨hb, he⟩ := PRd.no_dr hm hj
    have HB1 := Lib.hid ((Kp.of HB.out).on hB0 hb)
    unfold fails at he
    subst he
    have HJ := Lib.hid hj
    clear hb hm hj hsf
    go_wp2_with fail
    exact ⟨rfl, PRd.mk_no HJ.out (hB0.symm ▸ HB1.out)⟩
  | ok t r =>
    obtain ⟨d, hkd, hd, rfl⟩ := sf_ok hsf
    refine HX.out.mono ?_; intro e w1 hm
    obtain ⟨hb, v, rfl, hP, a0, c0, rfl, hK⟩ := PRd.ok_dr hm hd
    have hx1 := below_box w1 (.cells #[.int .i64 t.op, .int .i64 t.n, .string t.s, .slice a0 t.args.length c0] 38)
    have hx2 := below_box (w1.alloc (.cells #[.int .i64 t.op, .int .i64 t.n, .string t.s, .slice a0 t.args.length c0] 38)) (.cells #[.int .i64 10, .int .i64 11, .int .i64 12, .int .i64 13, .int .i64 14, .int .i64 15] 3)
    have hx3 := below_2 hx1 hx2
    have hzB : B < W0.heap.size := HM.out.lt
    have hM1 := HM.out.kp (by omega) hb
    have hBP : B < w1.heap.size := hM1.lt
    have hk1 : KidsF (Zk2 B w1.heap.size) w1 a0 t.args := kz_of (grow_kids hK) (fun j hj => by rcases hj with h | h <;> omega)
    have hzg : Zk2 B w1.heap.size g := Or.inl (by omega)
    have HE := Lib.hid (En.mk (((Kp.of HB.out).on hB0 hb).on hB0 (Kp.of hx3)) (hP.below hx3) ((Bk.new w1 #[.int .i64 t.op, .int .i64 t.n, .string t.s, .slice a0 t.args.length c0] 38).below hx2) (hM1.below hx3) (kz_kp (kz_kp hk1 hzg (Kp.of hx1)) hzg (Kp.of hx2)) (show g < B by omega) hBP : En w B g w1.heap.size XS d ne bl t a0 c0 ((w1.alloc (.cells #[.int .i64 t.op, .int .i64 t.n, .string t.s, .slice a0 t.args.length c0] 38)).alloc (.cells #[.int .i64 10, .int .i64 11, .int .i64 12, .int .i64 13, .int .i64 14, .int .i64 15] 3)))
    have HO : Hid (Bk ((w1.alloc (.cells #[.int .i64 t.op, .int .i64 t.n, .string t.s, .slice a0 t.args.length c0] 38)).alloc (.cells #[.int .i64 10, .int .i64 11, .int .i64 12, .int .i64 13, .int .i64 14, .int .i64 15] 3)) (w1.heap.size + 1) #[.int .i64 10, .int .i64 11, .int .i64 12, .int .i64 13, .int .i64 14, .int .i64 15] 3) := by
      have := Bk.new (w1.alloc (.cells #[.int .i64 t.op, .int .i64 t.n, .string t.s, .slice a0 t.args.length c0] 38)) #[.int .i64 10, .int .i64 11, .int .i64 12, .int .i64 13, .int .i64 14, .int .i64 15] 3
      unfold Hid; simpa using this
    have HQ := Lib.hid (gL_step (lev := 4) (n := ne) (e := t) (l := dr XS d) (by decide))
    have HOp := Lib.hid (ooperator_any g XS d ne bl (opsL 4) (ops_ok (by decide)).1 (ops_ok (by decide)).2 (w1.heap.size + 1) (by omega) _ HE.out.psr (ints_6 HO.out) HO.out.lt)
    rw [bin_ops _ 4 (by decide)] at HQ
    have HD := Lib.hid hd
    have HKd := Lib.hid hkd
    unfold exV
    clear hb hx1 hx2 hx3 hm hP hK hkd hd hsf hzB hM1 HM HB HX HP hlt0 hk1 hzg
    change Hid (Calls _ _ #[ptr g, .slice (some ⟨w1.heap.size + 1, 0, none⟩) 6 6] _ _) at HOp
    go_wp2_with fail
    generalize ((w1.alloc (.cells #[.int .i64 t.op, .int .i64 t.n, .string t.s, .slice a0 t.args.length c0] 38)).alloc (.cells #[.int .i64 10, .int .i64 11, .int .i64 12, .int .i64 13, .int .i64 14, .int .i64 15] 3)) = w2 at *
    generalize w1.heap.size = P at *
    refine HOp.out.mono ?_; rintro e w3 ⟨rfl, hb, hP3⟩
    generalize hop : oper (opsL 4) (dr XS d) = op at *
    by_cases h0 : op = 0
    · rw [if_pos (by omega)] at HQ
      subst h0
      have HE3 := Lib.hid (HE.out.next hB0 hb hP3)
      obtain ⟨c0', c1, c2, c3⟩ := cells4 HE3.out.bt
      obtain ⟨r0, r1, r2, r3⟩ := cells4 HE3.out.bB
      obtain ⟨f0, f1, f2, f3⟩ := free4 HE3.out.bB
      clear hb hP3 hop HOp HH
      go_wp2_with fail
      obtain ⟨q0, q1, q2, q3⟩ := stored4 HE3.out.bB (.int .i64 t.op) (.int .i64 t.n) (.string t.s) (.slice a0 t.args.length c0)
      refine bodyPost_ret (v := .agg #[.int .i64 t.op, .int .i64 t.n, .string t.s, .slice a0 t.args.length c0]) (by simp [results, Tryz.results185, go_sem, q0, q1, q2, q3]) rfl ?_
      have hE := HE3.out
      show PRdX g XS ne bl w _ (gL 4 ne t (dr XS d)) _
      rw [HQ.out]
      exact PRd.mk_ok HD.out (kp_wset (hB0.symm ▸ hE.kp) (by omega)) (hE.psr.wset hE.hg) ⟨a0, c0, rfl, kz_of (kz_wset (Or.inl (by omega)) hE.kt) (fun j hj => Or.inl (by omega))⟩
    · have hne : ((op : Int) != 0) = true := bne_iff_ne.2 (by omega)
      have hlt : d < XS.length := by
        rcases Nat.lt_or_ge d XS.length with h | h
        · exact h
        · rw [dr_end h] at hop
          exact absurd (hop.symm.trans (by decide)) h0
      rw [decide_eq_true h0] at hP3
      have HE3 := Lib.hid (HE.out.next hB0 hb (show Psr g XS (d + 1) ne bl w3 from hP3))
      have HLT := Lib.hid hlt
      rw [if_neg (by omega), dr_tail] at HQ
      have HX2 := Lib.hid (HH.out (d + 1) (by have := HKd.out; omega) hlt)
      have hsf2 : Sf (dr XS (d + 1)) (gX 5 ne (dr XS (d + 1))) := (gX_is (by decide)).2
      generalize gX 5 ne (dr XS (d + 1)) = q2 at HX2 hsf2 HQ
      clear hb hP3 hop HOp HH h0 hlt HE HO
      go_wp2_with fail
      refine wp_region_inv rfl (fun l a w' => ∃ v0 v1 v2 v3 v4 v5 : Value, a = { tmps := #[ptr g, undef, .pointer (some ⟨B, 0, none⟩), .pointer (some ⟨P, 0, none⟩), .int .i64 op, ptr g, .agg #[.int .i64 t.op, .int .i64 t.n, .string t.s, .slice a0 t.args.length c0], ptr g, .slice (some ⟨P + 1, 0, none⟩) 6 6, .int .i64 op, .int .i64 op, .bool true, v0, v1, v2, v3, v4, v5, undef], defers := [] } ∧ Bi (En w B g P XS (d + 1) ne bl t a0 c0) (fun v w' => ∃ t2 j a2 c2, q2 = .ok t2 (dr XS j) ∧ d + 1 < j ∧ j ≤ XS.length ∧ v = exV t2 a2 c2 ∧ En w B g P XS j ne bl t a0 c0 w' ∧ KidsF (Zk2 B P) w' a2 t2.args) (fun v w' => ∃ t2 j G, q2 = .ok t2 (dr XS j) ∧ d + 1 < j ∧ j ≤ XS.length ∧ v = .slice (some ⟨G, 0, none⟩) 2 2 ∧ En w B g P XS j ne bl t a0 c0 w' ∧ KidsF (Zk2 B P) w' (some ⟨G, 0, none⟩) [t, t2]) (fun v w' => ∃ t2 j G, q2 = .ok t2 (dr XS j) ∧ d + 1 < j ∧ j ≤ XS.length ∧ v = .agg #[.int .i64 op, .int .i64 0, .string ⟨#[]⟩, .slice (some ⟨G, 0, none⟩) 2 2] ∧ En w B g P XS j ne bl t a0 c0 w' ∧ KidsF (Zk2 B P) w' (some ⟨G, 0, none⟩) [t, t2]) (fun w' => ∃ t2 j G, q2 = .ok t2 (dr XS j) ∧ d + 1 < j ∧ j ≤ XS.length ∧ Bk w' B #[.int .i64 op, .int .i64 0, .string ⟨#[]⟩, .slice (some ⟨G, 0, none⟩) 2 2] 38 ∧ Kp B g w w' ∧ Psr g XS j ne bl w' ∧ KidsF (Zk2 B P) w' (some ⟨G, 0, none⟩) [t, t2]) (.int .i64 op) (exV t a0 c0) (ptr g) l w' v0 v1 v2 v3 v4 v5) (by decide +kernel) ?_ ?_ ?_
      · intro l hl
        exact ⟨undef, undef, undef, undef, undef, undef, rfl, { f0 := fun h => absurd h (hl _), f1 := fun h => absurd h (hl _), f2 := fun h => absurd h (hl _), s0 := fun _ => HE3.out.below hB0 (L.below_drew w3), s1 := fun h => absurd h (hl _), s2 := fun h => absurd h (hl _), s3 := fun h => absurd h (hl _), s4 := fun h => absurd h (hl _), d4 := fun h => absurd h (hl _), d5 := fun h => absurd h (hl _), d6 := fun h => absurd h (hl _) }⟩
      · rintro l a w' ⟨v0, v1, v2, v3, v4, v5, rfl, F⟩ i hi h0 hall
        match i, hi, h0, hall with
        | 0, _, h0, hall =>
          have HF := Lib.hid (F.p0 h0)
          clear F hall h0
          refine wpOp_step (by rfl) (fun K' hK => ?_)
          have HKk := Lib.hid hK
          clear hK
          go_simp
          exact HKk.out _ _ ⟨_, _, _, _, _, _, rfl, HF.out⟩
        | 1, _, h0, hall =>
          have hbt : Bk w' P #[.int .i64 t.op, .int .i64 t.n, .string t.s, .slice a0 t.args.length c0] 38 := by
            have n4 : ¬ On l 4 := fun h => absurd (F.d4 h).2 (off_of h0)
            by_cases h3 : On l 3
            · obtain ⟨t2, j, a2, c2, _, _, _, _, hE, _⟩ := F.s1 h3 n4
              exact hE.bt
            · exact (F.s0 h3).bt
          obtain ⟨c0', c1, c2, c3⟩ := cells4 hbt
          clear hbt
          have HF := Lib.hid (F.p1 h0)
          clear F hall h0
          refine wpOp_step (by rfl) (fun K' hK => ?_)
          have HKk := Lib.hid hK
          clear hK
          go_simp
          exact HKk.out _ _ ⟨_, _, _, _, _, _, rfl, HF.out⟩
        | 2, _, h0, hall =>
          have HF := Lib.hid (F.p2 h0)
          clear F hall h0
          refine wpOp_step (by rfl) (fun K' hK => ?_)
          have HKk := Lib.hid hK
          clear hK
          go_simp
          exact HKk.out _ _ ⟨_, _, _, _, _, _, rfl, HF.out⟩
        | 3, _, h0, hall =>
          obtain rfl := F.f2 (hall 2 (by decide +kernel))
          have hE := F.s0 (off_of h0)
          have HC := Lib.hid (HX2.out w' hE.psr)
          have HE4 := Lib.hid hE
          have HF := Lib.hid (fun v w'' hs => F.p3 (w' := w'') h0 v hs)
          clear F hall h0 hE
          refine wpOp_step (by rfl) (fun K' hK => ?_)
          have HKk := Lib.hid hK
          clear hK
          cases q2 with
          | no r x =>
            obtain ⟨j, hj, rfl⟩ := sf_no hsf2
            clear HF HKk
            go_simp
            refine HC.out.mono ?_; intro e w5 hm
            obtain ⟨hb, he⟩ := PRd.no_dr hm hj
            have HB5 := Lib.hid (HE4.out.kp.on hB0 hb)
            have HJ := Lib.hid hj
            unfold fails at he
            subst he
            clear hm hb hj
            refine ⟨rfl, ?_⟩
            show PRdX g XS ne bl w _ (gL 4 ne t (dr XS d)) _
            rw [HQ.out]
            exact PRd.mk_no HJ.out (hB0.symm ▸ HB5.out)
          | ok t2 r =>
            obtain ⟨j, hkj, hj, rfl⟩ := sf_ok hsf2
            go_simp
            refine HC.out.mono ?_; intro e w5 hm
            obtain ⟨hb, v, rfl, hP5, a2, c2, rfl, hK5⟩ := PRd.ok_dr hm hj
            have hE := HE4.out
            have hsz : P < w'.heap.size := hE.bt.lt
            have hBs : B < P := hE.hP
            have HN := Lib.hid (HF.out _ w5 ⟨t2, j, a2, c2, rfl, hkj, hj, rfl, hE.next hB0 hb hP5, kz_of hK5 (fun i hi => by rcases hi with h | h <;> omega)⟩)
            clear HF HC HE4 hb hP5 hK5 hm hE
            unfold exV at HN ⊢
            go_simp
            exact HKk.out _ _ ⟨_, _, _, _, _, _, rfl, HN.out⟩
        | 4, _, h0, hall =>
          have h1 := hall 1 (by decide +kernel)
          have h3 := hall 3 (by decide +kernel)
          obtain rfl := F.f1 h1
          obtain ⟨t2, j, a2, c2, hq, hkj, hj, rfl, hE, hK2⟩ := F.s1 h3 (off_of h0)
          have hx1 := below_box w' (.cells #[.int .i64 t.op, .int .i64 t.n, .string t.s, .slice a0 t.args.length c0, .int .i64 t2.op, .int .i64 t2.n, .string t2.s, .slice a2 t2.args.length c2] 38)
          have hb8 := Bk.new w' #[.int .i64 t.op, .int .i64 t.n, .string t.s, .slice a0 t.args.length c0, .int .i64 t2.op, .int .i64 t2.n, .string t2.s, .slice a2 t2.args.length c2] 38
          have hsz : P < w'.heap.size := hE.bt.lt
          have hBs : B < P := hE.hP
          have hgz : Zk2 B P g := Or.inl (by have := hE.hg; omega)
          have HF := Lib.hid (F.p4 (w' := w'.alloc (.cells #[.int .i64 t.op, .int .i64 t.n, .string t.s, .slice a0 t.args.length c0, .int .i64 t2.op, .int .i64 t2.n, .string t2.s, .slice a2 t2.args.length c2] 38)) h0 h3 h1 (.slice (some ⟨w'.heap.size, 0, none⟩) 2 2) ⟨t2, j, w'.heap.size, hq, hkj, hj, rfl, hE.below hB0 hx1, kz_2 hb8 (by rintro (h | h) <;> omega) (kz_kp hE.kt hgz (Kp.of hx1)) (kz_kp hK2 hgz (Kp.of hx1))⟩)
          clear F hall h0 hE hK2 hx1 hb8 h1 h3
          unfold exV at HF ⊢
          refine wpOp_step (by rfl) (fun K' hK => ?_)
          have HKk := Lib.hid hK
          clear hK
          go_simp
          exact HKk.out _ _ ⟨_, _, _, _, _, _, rfl, HF.out⟩
        | 5, _, h0, hall =>
          have h4 := hall 4 (by decide +kernel)
          obtain rfl := F.f0 (hall 0 (by decide +kernel))
          obtain ⟨t2, j, G, hq, hkj, hj, rfl, hE, hK2⟩ := F.s2 h4 (off_of h0)
          have HC := Lib.hid (oapply_any op (some ⟨G, 0, none⟩) 2 2 w')
          have hgz : Zk2 B P g := Or.inl (by have := hE.hg; omega)
          have HF := Lib.hid (fun w'' (hb : Below w'.heap.size w' w'') => F.p5 (w' := w'') h0 h4 (.agg #[.int .i64 op, .int .i64 0, .string ⟨#[]⟩, .slice (some ⟨G, 0, none⟩) 2 2]) ⟨t2, j, G, hq, hkj, hj, rfl, hE.below hB0 hb, kz_kp hK2 hgz (Kp.of hb)⟩)
          clear F hall h0 hE hK2 h4
          refine wpOp_step (by rfl) (fun K' hK => ?_)
          have HKk := Lib.hid hK
          clear hK
          go_simp
          refine HC.out.mono ?_; rintro e w5 ⟨rfl, hb⟩
          have HN := Lib.hid (HF.out w5 hb)
          clear hb HF
          go_simp
          exact HKk.out _ _ ⟨_, _, _, _, _, _, rfl, HN.out⟩
        | 6, _, h0, hall =>
          have h5 := hall 5 (by decide +kernel)
          obtain ⟨t2, j, G, hq, hkj, hj, rfl, hE, hK2⟩ := F.s3 h5 (off_of h0)
          have hsz : P < w'.heap.size := hE.bt.lt
          have hBs : B < P := hE.hP
          have hgB : g < B := hE.hg
          have HF := Lib.hid (F.p6 (w' := (wset w' B (.int .i64 op) (.int .i64 0) (.string ⟨#[]⟩) (.slice (some ⟨G, 0, none⟩) 2 2))) h0 h5 ⟨t2, j, G, hq, hkj, hj, bk_set4 hE.bB, kp_wset hE.kp (Nat.le_refl _), hE.psr.wset hgB, kz_wset (Or.inl (by omega)) hK2⟩)
          obtain ⟨r0, r1, r2, r3⟩ := cells4 hE.bB
          obtain ⟨f0, f1, f2, f3⟩ := free4 hE.bB
          clear F hall h0 hE hK2 h5
          unfold wset at HF
          refine wpOp_step (by rfl) (fun K' hK => ?_)
          have HKk := Lib.hid hK
          clear hK
          go_simp
          exact HKk.out _ _ ⟨_, _, _, _, _, _, rfl, HF.out⟩
      · rintro l a w' ⟨v0, v1, v2, v3, v4, v5, rfl, F⟩ hall
        obtain ⟨t2, j, G, rfl, hkj, hj, hb4, hkp, hps, hk4⟩ := F.s4 (hall 6 (by decide))
        clear F hall
        have HQ2 : Hid (gL 4 ne t (dr XS d) = .ok (ap op [t, t2]) (dr XS j)) := HQ.out
        have HKP := Lib.hid hkp
        have HPS := Lib.hid hps
        have HK4 := Lib.hid hk4
        have HJ := Lib.hid hj
        obtain ⟨q0, q1, q2, q3⟩ := cells4 hb4
        clear hb4 hkp hps hk4 hj HQ HX2 hsf2 hkj HE3
        go_wp2_with fail
        refine bodyPost_ret (v := .agg #[.int .i64 op, .int .i64 0, .string ⟨#[]⟩, .slice (some ⟨G, 0, none⟩) 2 2]) (by simp [results, Tryz.results185, go_sem, q0, q1, q2, q3]) rfl ?_
        show PRdX g XS ne bl w _ (gL 4 ne t (dr XS d)) _
        rw [HQ2.out]
        exact PRd.mk_ok HJ.out (hB0.symm ▸ HKP.out) HPS.out ⟨some ⟨G, 0, none⟩, 2, rfl, kz_of HK4.out (fun i hi => Or.inl (by omega))⟩
end Go.Proofs.YteglaeopaocilaaGreatDoor.P
namespace Go.Proofs.YteglaeopaocilaaGreatDoor.P
open Go.RowKit
open L (Str Tok Tks toks At below_2 below_box ret_bool ret_int ret_string)
open A

theorem lev5 : ∀ lev ∈ [1, 2, 5, 6, 7], lev ∈ [1, 2, 3, 4, 5, 6, 7, 8] ∧ lev ≤ 8 ∧ lev ≠ 3 ∧ lev ≠ 8 ∧ lev ≠ 4 := by decide
/-- the length of the slice in the parser's first cell -/
def lenAt (g : Nat) (w : World) : Nat := match w.cell? ⟨g, 0, none⟩ with | some (.slice _ n _) => n | _ => 0
theorem Psr.len {g : Nat} {XS : List L.T} {k ne bl : Nat} {w : World} (h : Psr g XS k ne bl w) : lenAt g w = XS.length - k := by
  obtain ⟨_, _, _, a, c, hB, _, _⟩ := h
  unfold lenAt
  rw [(cells4 hB).1]
theorem bk_oth {w : World} {b c : Nat} {cs : Array Value} {t : TypeId} {x y z u : Value} (h : Bk w b cs t) (hne : b ≠ c) : Bk (wset w c x y z u) b cs t := by
  have h' : w.heap[b]? = some (.cells cs t) := h
  show (wset w c x y z u).heap[b]? = _
  unfold wset
  rw [Below.heap_setCell _ _ _ _ hne, Below.heap_setCell _ _ _ _ hne, Below.heap_setCell _ _ _ _ hne, Below.heap_setCell _ _ _ _ hne]
  exact h'
set_option maxHeartbeats 16000000 in
set_option maxRecDepth 100000 in
theorem ochain_any (F g : Nat) (hcf : ∀ w : World, (callFunc F #[ptr g]).run Tryz.prog w = .ok (.enter F #[ptr g]) w) (XS : List L.T) (k ne bl lev : Nat) (hl : lev ∈ [1, 2, 5, 6, 7]) (H0 : CF F g XS k ne bl (gX (lev + 1) ne (dr XS k))) (H : ∀ k', k < k' → k' ≤ XS.length → CF F g XS k' ne bl (gX (lev + 1) ne (dr XS k'))) (b : Nat) (w : World) (h : Psr g XS k ne bl w) (hI : Ints w b (opsL lev)) (hbl : b < w.heap.size) (hbg : b ≠ g) :
    Calls Tryz.prog 88 #[ptr g, fnv F g, .slice (some ⟨b, 0, none⟩) (opsL lev).length (opsL lev).length] w fun e w' => PRdX g XS ne bl w w' (gX lev ne (dr XS k)) e := by
  have hl8 := (lev5 lev hl).1
  have hl9 := (lev5 lev hl).2
  rw [gX_down hl9.1 (pre_0 _ lev hl9.2.1 hl9.2.2.1)]
  have hbx := below_box w (.cells #[.int .i64 0, .int .i64 0, .string ⟨#[]⟩, .slice none 0 0] 38)
  have HM := Lib.hid (Bk.new w #[.int .i64 0, .int .i64 0, .string ⟨#[]⟩, .slice none 0 0] 38)
  have hlt0 := h.lt
  have HP := Lib.hid (h.below hbx)
  have HB := Lib.hid hbx
  have HX := Lib.hid (H0 _ HP.out)
  have HH := Lib.hid H
  have HI := Lib.hid hI
  have HBG := Lib.hid hbg
  have HL8 := Lib.hid hl8
  have HL9 := Lib.hid hl9
  have hbB : Hid (b < w.heap.size) := hbl
  have hsf : Sf (dr XS k) (gX (lev + 1) ne (dr XS k)) := (gX_is (by omega)).2
  obtain ⟨ops, hops⟩ : ∃ ops, opsL lev = ops := ⟨_, rfl⟩
  have HOPS := Lib.hid (ops_ok hl8)
  have HBIN := Lib.hid (fun l => bin_ops l lev hl8)
  rw [hops] at HOPS HBIN HI ⊢
  generalize gX (lev + 1) ne (dr XS k) = q at HX hsf ⊢
  obtain ⟨Q, hQ⟩ : ∃ Q, q.to (gL lev ne) = Q := ⟨_, rfl⟩
  have HQ0 := Lib.hid hQ
  rw [hQ]
  clear hbx h H H0 hI hbl hbg hl hl8 hl9 hops hQ
  go_enter Tryz.func88, Tryz.ntmps88
  go_wp2_with fail
  generalize w.alloc (.cells #[.int .i64 0, .int .i64 0, .string ⟨#[]⟩, .slice none 0 0] 38) = W0 at *
  generalize hB0 : w.heap.size = B at *
  cases q with
  | no r x =>
    obtain ⟨j, hj, rfl⟩ := sf_no hsf
    refine HX.out.mono ?_; intro e w1 hm
    obtain ⟨hb, he⟩ := PRd.no_dr hm hj
    have HB1 := Lib.hid ((Kp.of HB.out).on hB0 hb)
    unfold fails at he
    subst he
    have HJ := Lib.hid hj
    clear hb hm hj hsf
    go_wp2_with fail
    refine ⟨rfl, ?_⟩
    rw [← HQ0.out]
    exact PRd.mk_no HJ.out (hB0.symm ▸ HB1.out)
  | ok ti r =>
    obtain ⟨di, hkd, hd, rfl⟩ := sf_ok hsf
    refine HX.out.mono ?_; intro e w1 hm
    obtain ⟨hb, v, rfl, hP, ai, ci, rfl, hK⟩ := PRd.ok_dr hm hd
    have hx1 := below_box w1 (.cells #[.int .i64 ti.op, .int .i64 ti.n, .string ti.s, .slice ai ti.args.length ci] 38)
    have hzB : B < W0.heap.size := HM.out.lt
    have hM1 := HM.out.kp (by omega) hb
    have hBP : B < w1.heap.size := hM1.lt
    have hk1 : KidsF (Zk2 B w1.heap.size) w1 ai ti.args := kz_of (grow_kids hK) (fun j hj => by rcases hj with h | h <;> omega)
    have hzg : Zk2 B w1.heap.size g := Or.inl (by omega)
    have HE := Lib.hid (En.mk (((Kp.of HB.out).on hB0 hb).on hB0 (Kp.of hx1)) (hP.below hx1) (Bk.new w1 #[.int .i64 ti.op, .int .i64 ti.n, .string ti.s, .slice ai ti.args.length ci] 38) (hM1.below hx1) (kz_kp hk1 hzg (Kp.of hx1)) (show g < B by omega) hBP : En w B g w1.heap.size XS di ne bl ti ai ci (w1.alloc (.cells #[.int .i64 ti.op, .int .i64 ti.n, .string ti.s, .slice ai ti.args.length ci] 38)))
    have HIw := Lib.hid (fun (w' : World) (hk : Kp B g w w') => (fun j hj => (hk.cell (p := ⟨b, j, none⟩) hbB.out HBG.out).trans (HI.out j hj) : Ints w' b ops))
    have HOp := Lib.hid (fun (w' : World) (d : Nat) (h : Psr g XS d ne bl w') (hk : Kp B g w w') => ooperator_any g XS d ne bl ops HOPS.out.1 HOPS.out.2 b HBG.out w' h (HIw.out w' hk) (by have h1 := hk.size; have h2 := hbB.out; omega))
    have HC := Lib.hid (HOp.out _ di HE.out.psr HE.out.kp)
    unfold exV
    have HQ1 : Hid (gL lev ne ti (dr XS di) = Q) := HQ0.out
    have HD : Hid (k < di ∧ di ≤ XS.length) := ⟨hkd, hd⟩
    clear hb hx1 hm hP hK hkd hd hsf hzB hM1 HM HB HX HP hlt0 hk1 hzg HQ0
    go_wp2_with fail
    generalize (w1.alloc (.cells #[.int .i64 ti.op, .int .i64 ti.n, .string ti.s, .slice ai ti.args.length ci] 38)) = w2 at *
    generalize w1.heap.size = P at *
    refine HC.out.mono ?_; rintro e w3 ⟨rfl, hb, hP3⟩
    have HE3 := Lib.hid (HE.out.next hB0 hb hP3)
    clear HC hb hP3 HE
    go_wp2_with fail
    go_loopw [8] (fun o wr => ∃ (d op : Nat) (t : Ex) (a0 : Option Addr) (c0 : Nat), o = .int .i64 op ∧ Hid (k < d ∧ d ≤ XS.length) ∧ Hid (op = oper ops (dr XS d)) ∧ Hid (En w B g P XS (adv (decide (op ≠ 0)) d) ne bl t a0 c0 wr) ∧ Hid (gL lev ne t (dr XS d) = Q)) (fun _ wr => lenAt g wr)
    case atStart => exact ⟨di, _, ti, ai, ci, rfl, HD, rfl, HE3, HQ1⟩
    case round =>
      clear HE3 HQ1 HD
      obtain ⟨d, op, t, a0, c0, rfl, HD, hop, HE, hQ⟩ := hrel
      have hstep := gL_step (lev := lev) (n := ne) (e := t) (l := dr XS d) HL9.out.1
      rw [hQ.out, HBIN.out, ← hop.out] at hstep
      by_cases h0 : op = 0
      · rw [if_pos (by omega)] at hstep
        subst h0
        have HS := Lib.hid hstep
        have HEz : Hid (En w B g P XS d ne bl t a0 c0 wr) := HE.out
        obtain ⟨c0', c1, c2, c3⟩ := cells4 HEz.out.bt
        obtain ⟨r0, r1, r2, r3⟩ := cells4 HEz.out.bB
        obtain ⟨f0, f1, f2, f3⟩ := free4 HEz.out.bB
        clear hstep hop hQ HE HOp HH HI HIw
        go_wp2_with fail
        obtain ⟨q0, q1, q2, q3⟩ := stored4 HEz.out.bB (.int .i64 t.op) (.int .i64 t.n) (.string t.s) (.slice a0 t.args.length c0)
        refine bodyPost_ret (v := .agg #[.int .i64 t.op, .int .i64 t.n, .string t.s, .slice a0 t.args.length c0]) (by simp [results, Tryz.results88, go_sem, q0, q1, q2, q3]) rfl ?_
        have hE := HEz.out
        rw [HS.out]
        exact PRd.mk_ok HD.out.2 (kp_wset (hB0.symm ▸ hE.kp) (by omega)) (hE.psr.wset hE.hg) ⟨a0, c0, rfl, kz_of (kz_wset (Or.inl (by omega)) hE.kt) (fun j hj => Or.inl (by omega))⟩
      · have hne : ((op : Int) != 0) = true := bne_iff_ne.2 (by omega)
        have hlt : d < XS.length := by
          rcases Nat.lt_or_ge d XS.length with h | h
          · exact h
          · have h1 := hop.out
            rw [dr_end h] at h1
            exact absurd (h1.trans (oper_none (fun i hi => rfl))) h0
        have hE := HE.out
        rw [decide_eq_true h0] at hE
        have HE3 : Hid (En w B g P XS (d + 1) ne bl t a0 c0 wr) := hE
        have HLT := Lib.hid hlt
        rw [if_neg (by omega), dr_tail] at hstep
        have HX2 := Lib.hid (HH.out (d + 1) (by have := HD.out.1; omega) hlt)
        have hsf2 : Sf (dr XS (d + 1)) (gX (lev + 1) ne (dr XS (d + 1))) := (gX_is (by have := HL9.out.1; omega)).2
        generalize gX (lev + 1) ne (dr XS (d + 1)) = q2 at HX2 hsf2 hstep
        have HQ := Lib.hid hstep
        clear hstep hop hQ HE h0 hlt hE
        go_wp2_with fail
        refine wp_region_inv rfl (fun l a w' => ∃ v0 v1 v2 v3 v4 v5 : Value, a = { tmps := #[ptr g, fnv F g, .slice (some ⟨b, 0, none⟩) ops.length ops.length, undef, undef, undef, .pointer (some ⟨B, 0, none⟩), .pointer (some ⟨P, 0, none⟩), .int .i64 op, fnv F g, .agg #[.int .i64 ti.op, .int .i64 ti.n, .string ti.s, .slice ai ti.args.length ci], ptr g, .slice (some ⟨b, 0, none⟩) ops.length ops.length, .int .i64 (oper ops (dr XS di)), .int .i64 op, .bool true, u16, u17, u18, v0, v1, v2, v3, v4, v5, undef], defers := [] } ∧ Bi (En w B g P XS (d + 1) ne bl t a0 c0) (fun v w' => ∃ t2 j a2 c2, q2 = .ok t2 (dr XS j) ∧ d + 1 < j ∧ j ≤ XS.length ∧ v = exV t2 a2 c2 ∧ En w B g P XS j ne bl t a0 c0 w' ∧ KidsF (Zk2 B P) w' a2 t2.args) (fun v w' => ∃ t2 j G, q2 = .ok t2 (dr XS j) ∧ d + 1 < j ∧ j ≤ XS.length ∧ v = .slice (some ⟨G, 0, none⟩) 2 2 ∧ En w B g P XS j ne bl t a0 c0 w' ∧ KidsF (Zk2 B P) w' (some ⟨G, 0, none⟩) [t, t2]) (fun v w' => ∃ t2 j G, q2 = .ok t2 (dr XS j) ∧ d + 1 < j ∧ j ≤ XS.length ∧ v = .agg #[.int .i64 op, .int .i64 0, .string ⟨#[]⟩, .slice (some ⟨G, 0, none⟩) 2 2] ∧ En w B g P XS j ne bl t a0 c0 w' ∧ KidsF (Zk2 B P) w' (some ⟨G, 0, none⟩) [t, t2]) (fun w' => ∃ t2 j G, q2 = .ok t2 (dr XS j) ∧ d + 1 < j ∧ j ≤ XS.length ∧ En w B g P XS j ne bl (ap op [t, t2]) (some ⟨G, 0, none⟩) 2 w') (.int .i64 op) (exV t a0 c0) (fnv F g) l w' v0 v1 v2 v3 v4 v5) (by decide +kernel) ?_ ?_ ?_
        · intro l hl
          exact ⟨_, _, _, _, _, _, rfl, { f0 := fun h => absurd h (hl _), f1 := fun h => absurd h (hl _), f2 := fun h => absurd h (hl _), s0 := fun _ => HE3.out.below hB0 (L.below_drew wr), s1 := fun h => absurd h (hl _), s2 := fun h => absurd h (hl _), s3 := fun h => absurd h (hl _), s4 := fun h => absurd h (hl _), d4 := fun h => absurd h (hl _), d5 := fun h => absurd h (hl _), d6 := fun h => absurd h (hl _) }⟩
        · rintro l a w' ⟨v0, v1, v2, v3, v4, v5, rfl, F⟩ i hi h0 hall
          match i, hi, h0, hall with
          | 0, _, h0, hall =>
            have HF := Lib.hid (F.p0 h0)
            clear F hall h0
            refine wpOp_step (by rfl) (fun K' hK => ?_)
            have HKk := Lib.hid hK
            clear hK
            go_simp
            exact HKk.out _ _ ⟨_, _, _, _, _, _, rfl, HF.out⟩
          | 1, _, h0, hall =>
            have hbt : Bk w' P #[.int .i64 t.op, .int .i64 t.n, .string t.s, .slice a0 t.args.length c0] 38 := by
              have n4 : ¬ On l 4 := fun h => absurd (F.d4 h).2 (off_of h0)
              by_cases h3 : On l 3
              · obtain ⟨t2, j, a2, c2, _, _, _, _, hE, _⟩ := F.s1 h3 n4
                exact hE.bt
              · exact (F.s0 h3).bt
            obtain ⟨c0', c1, c2, c3⟩ := cells4 hbt
            clear hbt
            have HF := Lib.hid (F.p1 h0)
            clear F hall h0
            refine wpOp_step (by rfl) (fun K' hK => ?_)
            have HKk := Lib.hid hK
            clear hK
            go_simp
            exact HKk.out _ _ ⟨_, _, _, _, _, _, rfl, HF.out⟩
          | 2, _, h0, hall =>
            have HF := Lib.hid (F.p2 h0)
            clear F hall h0
            refine wpOp_step (by rfl) (fun K' hK => ?_)
            have HKk := Lib.hid hK
            clear hK
            go_simp
            exact HKk.out _ _ ⟨_, _, _, _, _, _, rfl, HF.out⟩
          | 3, _, h0, hall =>
            obtain rfl := F.f2 (hall 2 (by decide +kernel))
            have hE := F.s0 (off_of h0)
            have HC := Lib.hid (HX2.out w' hE.psr)
            have HE4 := Lib.hid hE
            have HF := Lib.hid (fun v w'' hs => F.p3 (w' := w'') h0 v hs)
            clear F hall h0 hE
            refine wpOp_step (by rfl) (fun K' hK => ?_)
            have HKk := Lib.hid hK
            clear hK
            cases q2 with
            | no r x =>
              obtain ⟨j, hj, rfl⟩ := sf_no hsf2
              clear HF HKk
              go_simp
              refine HC.out.mono ?_; intro e w5 hm
              obtain ⟨hb, he⟩ := PRd.no_dr hm hj
              have HB5 := Lib.hid (HE4.out.kp.on hB0 hb)
              have HJ := Lib.hid hj
              unfold fails at he
              subst he
              clear hm hb hj
              refine ⟨rfl, ?_⟩
              rw [HQ.out]
              exact PRd.mk_no HJ.out (hB0.symm ▸ HB5.out)
            | ok t2 r =>
              obtain ⟨j, hkj, hj, rfl⟩ := sf_ok hsf2
              go_simp
              refine HC.out.mono ?_; intro e w5 hm
              obtain ⟨hb, v, rfl, hP5, a2, c2, rfl, hK5⟩ := PRd.ok_dr hm hj
              have hE := HE4.out
              have hsz : P < w'.heap.size := hE.bt.lt
              have hBs : B < P := hE.hP
              have HN := Lib.hid (HF.out _ w5 ⟨t2, j, a2, c2, rfl, hkj, hj, rfl, hE.next hB0 hb hP5, kz_of hK5 (fun i hi => by rcases hi with h | h <;> omega)⟩)
              clear HF HC HE4 hb hP5 hK5 hm hE
              unfold exV at HN ⊢
              go_simp
              exact HKk.out _ _ ⟨_, _, _, _, _, _, rfl, HN.out⟩
          | 4, _, h0, hall =>
            have h1 := hall 1 (by decide +kernel)
            have h3 := hall 3 (by decide +kernel)
            obtain rfl := F.f1 h1
            obtain ⟨t2, j, a2, c2, hq, hkj, hj, rfl, hE, hK2⟩ := F.s1 h3 (off_of h0)
            have hx1 := below_box w' (.cells #[.int .i64 t.op, .int .i64 t.n, .string t.s, .slice a0 t.args.length c0, .int .i64 t2.op, .int .i64 t2.n, .string t2.s, .slice a2 t2.args.length c2] 38)
            have hb8 := Bk.new w' #[.int .i64 t.op, .int .i64 t.n, .string t.s, .slice a0 t.args.length c0, .int .i64 t2.op, .int .i64 t2.n, .string t2.s, .slice a2 t2.args.length c2] 38
            have hsz : P < w'.heap.size := hE.bt.lt
            have hBs : B < P := hE.hP
            have hgz : Zk2 B P g := Or.inl (by have := hE.hg; omega)
            have HF := Lib.hid (F.p4 (w' := w'.alloc (.cells #[.int .i64 t.op, .int .i64 t.n, .string t.s, .slice a0 t.args.length c0, .int .i64 t2.op, .int .i64 t2.n, .string t2.s, .slice a2 t2.args.length c2] 38)) h0 h3 h1 (.slice (some ⟨w'.heap.size, 0, none⟩) 2 2) ⟨t2, j, w'.heap.size, hq, hkj, hj, rfl, hE.below hB0 hx1, kz_2 hb8 (by rintro (h | h) <;> omega) (kz_kp hE.kt hgz (Kp.of hx1)) (kz_kp hK2 hgz (Kp.of hx1))⟩)
            clear F hall h0 hE hK2 hx1 hb8 h1 h3
            unfold exV at HF ⊢
            refine wpOp_step (by rfl) (fun K' hK => ?_)
            have HKk := Lib.hid hK
            clear hK
            go_simp
            exact HKk.out _ _ ⟨_, _, _, _, _, _, rfl, HF.out⟩
          | 5, _, h0, hall =>
            have h4 := hall 4 (by decide +kernel)
            obtain rfl := F.f0 (hall 0 (by decide +kernel))
            obtain ⟨t2, j, G, hq, hkj, hj, rfl, hE, hK2⟩ := F.s2 h4 (off_of h0)
            have HC := Lib.hid (oapply_any op (some ⟨G, 0, none⟩) 2 2 w')
            have hgz : Zk2 B P g := Or.inl (by have := hE.hg; omega)
            have HF := Lib.hid (fun w'' (hb : Below w'.heap.size w' w'') => F.p5 (w' := w'') h0 h4 (.agg #[.int .i64 op, .int .i64 0, .string ⟨#[]⟩, .slice (some ⟨G, 0, none⟩) 2 2]) ⟨t2, j, G, hq, hkj, hj, rfl, hE.below hB0 hb, kz_kp hK2 hgz (Kp.of hb)⟩)
            clear F hall h0 hE hK2 h4
            refine wpOp_step (by rfl) (fun K' hK => ?_)
            have HKk := Lib.hid hK
            clear hK
            go_simp
            refine HC.out.mono ?_; rintro e w5 ⟨rfl, hb⟩
            have HN := Lib.hid (HF.out w5 hb)
            clear hb HF
            go_simp
            exact HKk.out _ _ ⟨_, _, _, _, _, _, rfl, HN.out⟩
          | 6, _, h0, hall =>
            have h5 := hall 5 (by decide +kernel)
            obtain ⟨t2, j, G, hq, hkj, hj, rfl, hE, hK2⟩ := F.s3 h5 (off_of h0)
            have hsz : P < w'.heap.size := hE.bt.lt
            have hBs : B < P := hE.hP
            have hgB : g < B := hE.hg
            have HF := Lib.hid (F.p6 (w' := (wset w' P (.int .i64 op) (.int .i64 0) (.string ⟨#[]⟩) (.slice (some ⟨G, 0, none⟩) 2 2))) h0 h5 ⟨t2, j, G, hq, hkj, hj, ⟨kp_wset hE.kp (by omega), hE.psr.wset (by omega), bk_set4 hE.bt, bk_oth hE.bB (by omega), kz_wset (Or.inr rfl) hK2, hgB, hBs⟩⟩)
            obtain ⟨r0, r1, r2, r3⟩ := cells4 hE.bt
            obtain ⟨f0, f1, f2, f3⟩ := free4 hE.bt
            clear F hall h0 hE hK2 h5
            unfold wset at HF
            refine wpOp_step (by rfl) (fun K' hK => ?_)
            have HKk := Lib.hid hK
            clear hK
            go_simp
            exact HKk.out _ _ ⟨_, _, _, _, _, _, rfl, HF.out⟩
        · rintro l a w' ⟨v0, v1, v2, v3, v4, v5, rfl, F⟩ hall
          obtain ⟨t2, j, G, rfl, hkj, hj, hE⟩ := F.s4 (hall 6 (by decide))
          clear F hall
          have HQ2 : Hid (gL lev ne (ap op [t, t2]) (dr XS j) = Q) := by
            show _ = _
            rw [HQ.out]
            show _ = (if lev = 4 then _ else _)
            rw [if_neg HL9.out.2.2.2]
          have HE5 := Lib.hid hE
          have hlen : lenAt g w' = XS.length - j := hE.psr.len
          have hlen0 : lenAt g wr = XS.length - (d + 1) := HE3.out.psr.len
          have HC := Lib.hid (HOp.out w' j hE.psr hE.kp)
          have HJ : Hid (k < j ∧ j ≤ XS.length) := ⟨by have := HD.out.1; omega, hj⟩
          have HM : Hid (XS.length - j < lenAt g wr ∧ j ≤ XS.length) := ⟨by rw [hlen0]; have := HLT.out; omega, hj⟩
          clear hE HQ HX2 hsf2 HE3 hlen hlen0 hkj hj HD
          go_wp2_with fail
          refine HC.out.mono ?_; rintro e w6 ⟨rfl, hb, hP6⟩
          have HE6 := Lib.hid (HE5.out.next hB0 hb hP6)
          clear hb hP6 HC
          go_wp2_with fail
          go_roundw
          case rel => exact ⟨j, _, ap op [t, t2], some ⟨G, 0, none⟩, 2, rfl, HJ, rfl, HE6, HQ2⟩
          case measure =>
            have h1 := HE6.out.psr.len
            have h2 := HM.out
            have h3 : j ≤ adv (decide (oper ops (dr XS j) ≠ 0)) j := by unfold adv; split <;> omega
            rw [h1]
            omega
end Go.Proofs.YteglaeopaocilaaGreatDoor.P
namespace Go.Proofs.YteglaeopaocilaaGreatDoor.P
open Go.RowKit
open L (Str Tok Tks toks At below_2 below_box ret_bool ret_int ret_string)
open A

theorem ints_of {w : World} {b : Nat} {t : TypeId} : ∀ {ops : List Nat} {cs : Array Value}, Bk w b cs t → (∀ j (h : j < ops.length), cs[j]? = some (.int .i64 ops[j])) → Ints w b ops := fun h hc j hj => (h.cell j).trans (hc j hj)
theorem hmf : ∀ (fn : Fn) (first cap : Array Value) (w : World), (Instr.makeFunc fn first cap).run Tryz.prog w = .ok (.func fn first cap) w := fun _ _ _ _ => rfl
set_option maxHeartbeats 8000000 in
set_option maxRecDepth 100000 in
theorem oor_any (g : Nat) (XS : List L.T) (k ne bl : Nat) (H0 : CF 89 g XS k ne bl (gX 2 ne (dr XS k))) (H : ∀ k', k < k' → k' ≤ XS.length → CF 89 g XS k' ne bl (gX 2 ne (dr XS k'))) (w : World) (h : Psr g XS k ne bl w) :
    Calls Tryz.prog 44 #[ptr g] w fun e w' => PRdX g XS ne bl w w' (gX 1 ne (dr XS k)) e := by
  have hx1 := below_box w (.cells #[.int .i64 0, .int .i64 0, .string ⟨#[]⟩, .slice none 0 0] 38)
  have hx2 := below_box (w.alloc (.cells #[.int .i64 0, .int .i64 0, .string ⟨#[]⟩, .slice none 0 0] 38)) (.cells #[.int .i64 17] 3)
  have hx3 := below_2 hx1 hx2
  have HM := Lib.hid ((Bk.new w #[.int .i64 0, .int .i64 0, .string ⟨#[]⟩, .slice none 0 0] 38).below hx2)
  have hlt0 := h.lt
  have HP := Lib.hid (h.below hx3)
  have HB := Lib.hid hx3
  have hO : Bk ((w.alloc (.cells #[.int .i64 0, .int .i64 0, .string ⟨#[]⟩, .slice none 0 0] 38)).alloc (.cells #[.int .i64 17] 3)) (w.heap.size + 1) #[.int .i64 17] 3 := by
    have := Bk.new (w.alloc (.cells #[.int .i64 0, .int .i64 0, .string ⟨#[]⟩, .slice none 0 0] 38)) #[.int .i64 17] 3
    simpa using this
  have hI : Ints ((w.alloc (.cells #[.int .i64 0, .int .i64 0, .string ⟨#[]⟩, .slice none 0 0] 38)).alloc (.cells #[.int .i64 17] 3)) (w.heap.size + 1) (opsL 1) := ints_of hO (fun j hj => by
      have hj' : j < 1 := hj
      have : j = 0 := by omega
      rcases this with rfl <;> rfl)
  have HX := Lib.hid (ochain_any 89 g (fun _ => by kernel_rfl) XS k ne bl 1 (by decide) H0 H (w.heap.size + 1) _ HP.out hI hO.lt (by omega))
  change Hid (Calls _ _ #[ptr g, fnv 89 g, .slice (some ⟨w.heap.size + 1, 0, none⟩) 1 1] _ _) at HX
  have hmf := hmf
  have hsf : Sf (dr XS k) (gX 1 ne (dr XS k)) := (gX_is (by decide)).2
  generalize gX 1 ne (dr XS k) = q2 at HX hsf ⊢
  clear hx1 hx2 hx3 h H H0 hO hI
  go_enter Tryz.func44, Tryz.ntmps44
  go_wp2_with fail
  generalize ((w.alloc (.cells #[.int .i64 0, .int .i64 0, .string ⟨#[]⟩, .slice none 0 0] 38)).alloc (.cells #[.int .i64 17] 3)) = W0 at *
  generalize hB0 : w.heap.size = B at *
  refine HX.out.mono ?_; intro e w1 hm
  cases q2 with
  | no r x =>
    obtain ⟨j, hj, rfl⟩ := sf_no hsf
    obtain ⟨hb, he⟩ := PRd.no_dr hm hj
    have HB1 := Lib.hid ((Kp.of HB.out).on hB0 hb)
    unfold fails at he
    subst he
    have HJ := Lib.hid hj
    clear hb hm hj hsf
    go_wp2_with fail
    exact ⟨rfl, PRd.mk_no HJ.out (hB0.symm ▸ HB1.out)⟩
  | ok t r =>
    obtain ⟨j, hkj, hj, rfl⟩ := sf_ok hsf
    obtain ⟨hb, v, rfl, hP, a0, c0, rfl, hK⟩ := PRd.ok_dr hm hj
    have hBW : B < W0.heap.size := HM.out.lt
    have HB1 := Lib.hid ((Kp.of HB.out).on hB0 hb)
    have HM1 := Lib.hid (HM.out.kp (by omega) hb)
    have HP1 := Lib.hid hP
    have HK1 := Lib.hid hK
    have HJ := Lib.hid hj
    have hgB : Hid (g < B) := by show g < B; omega
    have HBW := Lib.hid hBW
    obtain ⟨r0, r1, r2, r3⟩ := cells4 HM1.out
    obtain ⟨f0, f1, f2, f3⟩ := free4 HM1.out
    unfold exV
    clear hb hm hP hK hkj hj hsf hBW hlt0
    go_wp2_with fail
    obtain ⟨q0, q1, q2, q3⟩ := stored4 HM1.out (.int .i64 t.op) (.int .i64 t.n) (.string t.s) (.slice a0 t.args.length c0)
    refine bodyPost_ret (v := .agg #[.int .i64 t.op, .int .i64 t.n, .string t.s, .slice a0 t.args.length c0]) (by simp [results, Tryz.results44, go_sem, q0, q1, q2, q3]) rfl ?_
    have hBW' := HBW.out
    exact PRd.mk_ok HJ.out (kp_wset (hB0.symm ▸ HB1.out) (by omega)) (HP1.out.wset hgB.out) ⟨a0, c0, rfl, kids_less (kids_wset (kids_less HK1.out (by omega))) (by omega)⟩
set_option maxHeartbeats 8000000 in
set_option maxRecDepth 100000 in
theorem oand_any (g : Nat) (XS : List L.T) (k ne bl : Nat) (H0 : CF 142 g XS k ne bl (gX 3 ne (dr XS k))) (H : ∀ k', k < k' → k' ≤ XS.length → CF 142 g XS k' ne bl (gX 3 ne (dr XS k'))) (w : World) (h : Psr g XS k ne bl w) :
    Calls Tryz.prog 89 #[ptr g] w fun e w' => PRdX g XS ne bl w w' (gX 2 ne (dr XS k)) e := by
  have hx1 := below_box w (.cells #[.int .i64 0, .int .i64 0, .string ⟨#[]⟩, .slice none 0 0] 38)
  have hx2 := below_box (w.alloc (.cells #[.int .i64 0, .int .i64 0, .string ⟨#[]⟩, .slice none 0 0] 38)) (.cells #[.int .i64 16] 3)
  have hx3 := below_2 hx1 hx2
  have HM := Lib.hid ((Bk.new w #[.int .i64 0, .int .i64 0, .string ⟨#[]⟩, .slice none 0 0] 38).below hx2)
  have hlt0 := h.lt
  have HP := Lib.hid (h.below hx3)
  have HB := Lib.hid hx3
  have hO : Bk ((w.alloc (.cells #[.int .i64 0, .int .i64 0, .string ⟨#[]⟩, .slice none 0 0] 38)).alloc (.cells #[.int .i64 16] 3)) (w.heap.size + 1) #[.int .i64 16] 3 := by
    have := Bk.new (w.alloc (.cells #[.int .i64 0, .int .i64 0, .string ⟨#[]⟩, .slice none 0 0] 38)) #[.int .i64 16] 3
    simpa using this
  have hI : Ints ((w.alloc (.cells #[.int .i64 0, .int .i64 0, .string ⟨#[]⟩, .slice none 0 0] 38)).alloc (.cells #[.int .i64 16] 3)) (w.heap.size + 1) (opsL 2) := ints_of hO (fun j hj => by
      have hj' : j < 1 := hj
      have : j = 0 := by omega
      rcases this with rfl <;> rfl)
  have HX := Lib.hid (ochain_any 142 g (fun _ => by kernel_rfl) XS k ne bl 2 (by decide) H0 H (w.heap.size + 1) _ HP.out hI hO.lt (by omega))
  change Hid (Calls _ _ #[ptr g, fnv 142 g, .slice (some ⟨w.heap.size + 1, 0, none⟩) 1 1] _ _) at HX
  have hmf := hmf
  have hsf : Sf (dr XS k) (gX 2 ne (dr XS k)) := (gX_is (by decide)).2
  generalize gX 2 ne (dr XS k) = q2 at HX hsf ⊢
  clear hx1 hx2 hx3 h H H0 hO hI
  go_enter Tryz.func89, Tryz.ntmps89
  go_wp2_with fail
  generalize ((w.alloc (.cells #[.int .i64 0, .int .i64 0, .string ⟨#[]⟩, .slice none 0 0] 38)).alloc (.cells #[.int .i64 16] 3)) = W0 at *
  generalize hB0 : w.heap.size = B at *
  refine HX.out.mono ?_; intro e w1 hm
  cases q2 with
  | no r x =>
    obtain ⟨j, hj, rfl⟩ := sf_no hsf
    obtain ⟨hb, he⟩ := PRd.no_dr hm hj
    have HB1 := Lib.hid ((Kp.of HB.out).on hB0 hb)
    unfold fails at he
    subst he
    have HJ := Lib.hid hj
    clear hb hm hj hsf
    go_wp2_with fail
    exact ⟨rfl, PRd.mk_no HJ.out (hB0.symm ▸ HB1.out)⟩
  | ok t r =>
    obtain ⟨j, hkj, hj, rfl⟩ := sf_ok hsf
    obtain ⟨hb, v, rfl, hP, a0, c0, rfl, hK⟩ := PRd.ok_dr hm hj
    have hBW : B < W0.heap.size := HM.out.lt
    have HB1 := Lib.hid ((Kp.of HB.out).on hB0 hb)
    have HM1 := Lib.hid (HM.out.kp (by omega) hb)
    have HP1 := Lib.hid hP
    have HK1 := Lib.hid hK
    have HJ := Lib.hid hj
    have hgB : Hid (g < B) := by show g < B; omega
    have HBW := Lib.hid hBW
    obtain ⟨r0, r1, r2, r3⟩ := cells4 HM1.out
    obtain ⟨f0, f1, f2, f3⟩ := free4 HM1.out
    unfold exV
    clear hb hm hP hK hkj hj hsf hBW hlt0
    go_wp2_with fail
    obtain ⟨q0, q1, q2, q3⟩ := stored4 HM1.out (.int .i64 t.op) (.int .i64 t.n) (.string t.s) (.slice a0 t.args.length c0)
    refine bodyPost_ret (v := .agg #[.int .i64 t.op, .int .i64 t.n, .string t.s, .slice a0 t.args.length c0]) (by simp [results, Tryz.results89, go_sem, q0, q1, q2, q3]) rfl ?_
    have hBW' := HBW.out
    exact PRd.mk_ok HJ.out (kp_wset (hB0.symm ▸ HB1.out) (by omega)) (HP1.out.wset hgB.out) ⟨a0, c0, rfl, kids_less (kids_wset (kids_less HK1.out (by omega))) (by omega)⟩
set_option maxHeartbeats 8000000 in
set_option maxRecDepth 100000 in
theorem ocat_any (g : Nat) (XS : List L.T) (k ne bl : Nat) (H0 : CF 231 g XS k ne bl (gX 6 ne (dr XS k))) (H : ∀ k', k < k' → k' ≤ XS.length → CF 231 g XS k' ne bl (gX 6 ne (dr XS k'))) (w : World) (h : Psr g XS k ne bl w) :
    Calls Tryz.prog 216 #[ptr g] w fun e w' => PRdX g XS ne bl w w' (gX 5 ne (dr XS k)) e := by
  have hx1 := below_box w (.cells #[.int .i64 0, .int .i64 0, .string ⟨#[]⟩, .slice none 0 0] 38)
  have hx2 := below_box (w.alloc (.cells #[.int .i64 0, .int .i64 0, .string ⟨#[]⟩, .slice none 0 0] 38)) (.cells #[.int .i64 19] 3)
  have hx3 := below_2 hx1 hx2
  have HM := Lib.hid ((Bk.new w #[.int .i64 0, .int .i64 0, .string ⟨#[]⟩, .slice none 0 0] 38).below hx2)
  have hlt0 := h.lt
  have HP := Lib.hid (h.below hx3)
  have HB := Lib.hid hx3
  have hO : Bk ((w.alloc (.cells #[.int .i64 0, .int .i64 0, .string ⟨#[]⟩, .slice none 0 0] 38)).alloc (.cells #[.int .i64 19] 3)) (w.heap.size + 1) #[.int .i64 19] 3 := by
    have := Bk.new (w.alloc (.cells #[.int .i64 0, .int .i64 0, .string ⟨#[]⟩, .slice none 0 0] 38)) #[.int .i64 19] 3
    simpa using this
  have hI : Ints ((w.alloc (.cells #[.int .i64 0, .int .i64 0, .string ⟨#[]⟩, .slice none 0 0] 38)).alloc (.cells #[.int .i64 19] 3)) (w.heap.size + 1) (opsL 5) := ints_of hO (fun j hj => by
      have hj' : j < 1 := hj
      have : j = 0 := by omega
      rcases this with rfl <;> rfl)
  have HX := Lib.hid (ochain_any 231 g (fun _ => by kernel_rfl) XS k ne bl 5 (by decide) H0 H (w.heap.size + 1) _ HP.out hI hO.lt (by omega))
  change Hid (Calls _ _ #[ptr g, fnv 231 g, .slice (some ⟨w.heap.size + 1, 0, none⟩) 1 1] _ _) at HX
  have hmf := hmf
  have hsf : Sf (dr XS k) (gX 5 ne (dr XS k)) := (gX_is (by decide)).2
  generalize gX 5 ne (dr XS k) = q2 at HX hsf ⊢
  clear hx1 hx2 hx3 h H H0 hO hI
  go_enter Tryz.func216, Tryz.ntmps216
  go_wp2_with fail
  generalize ((w.alloc (.cells #[.int .i64 0, .int .i64 0, .string ⟨#[]⟩, .slice none 0 0] 38)).alloc (.cells #[.int .i64 19] 3)) = W0 at *
  generalize hB0 : w.heap.size = B at *
  refine HX.out.mono ?_; intro e w1 hm
  cases q2 with
  | no r x =>
    obtain ⟨j, hj, rfl⟩ := sf_no hsf
    obtain ⟨hb, he⟩ := PRd.no_dr hm hj
    have HB1 := Lib.hid ((Kp.of HB.out).on hB0 hb)
    unfold fails at he
    subst he
    have HJ := Lib.hid hj
    clear hb hm hj hsf
    go_wp2_with fail
    exact ⟨rfl, PRd.mk_no HJ.out (hB0.symm ▸ HB1.out)⟩
  | ok t r =>
    obtain ⟨j, hkj, hj, rfl⟩ := sf_ok hsf
    obtain ⟨hb, v, rfl, hP, a0, c0, rfl, hK⟩ := PRd.ok_dr hm hj
    have hBW : B < W0.heap.size := HM.out.lt
    have HB1 := Lib.hid ((Kp.of HB.out).on hB0 hb)
    have HM1 := Lib.hid (HM.out.kp (by omega) hb)
    have HP1 := Lib.hid hP
    have HK1 := Lib.hid hK
    have HJ := Lib.hid hj
    have hgB : Hid (g < B) := by show g < B; omega
    have HBW := Lib.hid hBW
    obtain ⟨r0, r1, r2, r3⟩ := cells4 HM1.out
    obtain ⟨f0, f1, f2, f3⟩ := free4 HM1.out
    unfold exV
    clear hb hm hP hK hkj hj hsf hBW hlt0
    go_wp2_with fail
    obtain ⟨q0, q1, q2, q3⟩ := stored4 HM1.out (.int .i64 t.op) (.int .i64 t.n) (.string t.s) (.slice a0 t.args.length c0)
    refine bodyPost_ret (v := .agg #[.int .i64 t.op, .int .i64 t.n, .string t.s, .slice a0 t.args.length c0]) (by simp [results, Tryz.results216, go_sem, q0, q1, q2, q3]) rfl ?_
    have hBW' := HBW.out
    exact PRd.mk_ok HJ.out (kp_wset (hB0.symm ▸ HB1.out) (by omega)) (HP1.out.wset hgB.out) ⟨a0, c0, rfl, kids_less (kids_wset (kids_less HK1.out (by omega))) (by omega)⟩
set_option maxHeartbeats 8000000 in
set_option maxRecDepth 100000 in
theorem osum_any (g : Nat) (XS : List L.T) (k ne bl : Nat) (H0 : CF 240 g XS k ne bl (gX 7 ne (dr XS k))) (H : ∀ k', k < k' → k' ≤ XS.length → CF 240 g XS k' ne bl (gX 7 ne (dr XS k'))) (w : World) (h : Psr g XS k ne bl w) :
    Calls Tryz.prog 231 #[ptr g] w fun e w' => PRdX g XS ne bl w w' (gX 6 ne (dr XS k)) e := by
  have hx1 := below_box w (.cells #[.int .i64 0, .int .i64 0, .string ⟨#[]⟩, .slice none 0 0] 38)
  have hx2 := below_box (w.alloc (.cells #[.int .i64 0, .int .i64 0, .string ⟨#[]⟩, .slice none 0 0] 38)) (.cells #[.int .i64 4, .int .i64 5] 3)
  have hx3 := below_2 hx1 hx2
  have HM := Lib.hid ((Bk.new w #[.int .i64 0, .int .i64 0, .string ⟨#[]⟩, .slice none 0 0] 38).below hx2)
  have hlt0 := h.lt
  have HP := Lib.hid (h.below hx3)
  have HB := Lib.hid hx3
  have hO : Bk ((w.alloc (.cells #[.int .i64 0, .int .i64 0, .string ⟨#[]⟩, .slice none 0 0] 38)).alloc (.cells #[.int .i64 4, .int .i64 5] 3)) (w.heap.size + 1) #[.int .i64 4, .int .i64 5] 3 := by
    have := Bk.new (w.alloc (.cells #[.int .i64 0, .int .i64 0, .string ⟨#[]⟩, .slice none 0 0] 38)) #[.int .i64 4, .int .i64 5] 3
    simpa using this
  have hI : Ints ((w.alloc (.cells #[.int .i64 0, .int .i64 0, .string ⟨#[]⟩, .slice none 0 0] 38)).alloc (.cells #[.int .i64 4, .int .i64 5] 3)) (w.heap.size + 1) (opsL 6) := ints_of hO (fun j hj => by
      have hj' : j < 2 := hj
      have : j = 0 ∨ j = 1 := by omega
      rcases this with rfl | rfl <;> rfl)
  have HX := Lib.hid (ochain_any 240 g (fun _ => by kernel_rfl) XS k ne bl 6 (by decide) H0 H (w.heap.size + 1) _ HP.out hI hO.lt (by omega))
  change Hid (Calls _ _ #[ptr g, fnv 240 g, .slice (some ⟨w.heap.size + 1, 0, none⟩) 2 2] _ _) at HX
  have hmf := hmf
  have hsf : Sf (dr XS k) (gX 6 ne (dr XS k)) := (gX_is (by decide)).2
  generalize gX 6 ne (dr XS k) = q2 at HX hsf ⊢
  clear hx1 hx2 hx3 h H H0 hO hI
  go_enter Tryz.func231, Tryz.ntmps231
  go_wp2_with fail
  generalize ((w.alloc (.cells #[.int .i64 0, .int .i64 0, .string ⟨#[]⟩, .slice none 0 0] 38)).alloc (.cells #[.int .i64 4, .int .i64 5] 3)) = W0 at *
  generalize hB0 : w.heap.size = B at *
  refine HX.out.mono ?_; intro e w1 hm
  cases q2 with
  | no r x =>
    obtain ⟨j, hj, rfl⟩ := sf_no hsf
    obtain ⟨hb, he⟩ := PRd.no_dr hm hj
    have HB1 := Lib.hid ((Kp.of HB.out).on hB0 hb)
    unfold fails at he
    subst he
    have HJ := Lib.hid hj
    clear hb hm hj hsf
    go_wp2_with fail
    exact ⟨rfl, PRd.mk_no HJ.out (hB0.symm ▸ HB1.out)⟩
  | ok t r =>
    obtain ⟨j, hkj, hj, rfl⟩ := sf_ok hsf
    obtain ⟨hb, v, rfl, hP, a0, c0, rfl, hK⟩ := PRd.ok_dr hm hj
    have hBW : B < W0.heap.size := HM.out.lt
    have HB1 := Lib.hid ((Kp.of HB.out).on hB0 hb)
    have HM1 := Lib.hid (HM.out.kp (by omega) hb)
    have HP1 := Lib.hid hP
    have HK1 := Lib.hid hK
    have HJ := Lib.hid hj
    have hgB : Hid (g < B) := by show g < B; omega
    have HBW := Lib.hid hBW
    obtain ⟨r0, r1, r2, r3⟩ := cells4 HM1.out
    obtain ⟨f0, f1, f2, f3⟩ := free4 HM1.out
    unfold exV
    clear hb hm hP hK hkj hj hsf hBW hlt0
    go_wp2_with fail
    obtain ⟨q0, q1, q2, q3⟩ := stored4 HM1.out (.int .i64 t.op) (.int .i64 t.n) (.string t.s) (.slice a0 t.args.length c0)
    refine bodyPost_ret (v := .agg #[.int .i64 t.op, .int .i64 t.n, .string t.s, .slice a0 t.args.length c0]) (by simp [results, Tryz.results231, go_sem, q0, q1, q2, q3]) rfl ?_
    have hBW' := HBW.out
    exact PRd.mk_ok HJ.out (kp_wset (hB0.symm ▸ HB1.out) (by omega)) (HP1.out.wset hgB.out) ⟨a0, c0, rfl, kids_less (kids_wset (kids_less HK1.out (by omega))) (by omega)⟩
set_option maxHeartbeats 8000000 in
set_option maxRecDepth 100000 in
theorem oproduct_any (g : Nat) (XS : List L.T) (k ne bl : Nat) (H0 : CF 243 g XS k ne bl (gX 8 ne (dr XS k))) (H : ∀ k', k < k' → k' ≤ XS.length → CF 243 g XS k' ne bl (gX 8 ne (dr XS k'))) (w : World) (h : Psr g XS k ne bl w) :
    Calls Tryz.prog 240 #[ptr g] w fun e w' => PRdX g XS ne bl w w' (gX 7 ne (dr XS k)) e := by
  have hx1 := below_box w (.cells #[.int .i64 0, .int .i64 0, .string ⟨#[]⟩, .slice none 0 0] 38)
  have hx2 := below_box (w.alloc (.cells #[.int .i64 0, .int .i64 0, .string ⟨#[]⟩, .slice none 0 0] 38)) (.cells #[.int .i64 6, .int .i64 7, .int .i64 8] 3)
  have hx3 := below_2 hx1 hx2
  have HM := Lib.hid ((Bk.new w #[.int .i64 0, .int .i64 0, .string ⟨#[]⟩, .slice none 0 0] 38).below hx2)
  have hlt0 := h.lt
  have HP := Lib.hid (h.below hx3)
  have HB := Lib.hid hx3
  have hO : Bk ((w.alloc (.cells #[.int .i64 0, .int .i64 0, .string ⟨#[]⟩, .slice none 0 0] 38)).alloc (.cells #[.int .i64 6, .int .i64 7, .int .i64 8] 3)) (w.heap.size + 1) #[.int .i64 6, .int .i64 7, .int .i64 8] 3 := by
    have := Bk.new (w.alloc (.cells #[.int .i64 0, .int .i64 0, .string ⟨#[]⟩, .slice none 0 0] 38)) #[.int .i64 6, .int .i64 7, .int .i64 8] 3
    simpa using this
  have hI : Ints ((w.alloc (.cells #[.int .i64 0, .int .i64 0, .string ⟨#[]⟩, .slice none 0 0] 38)).alloc (.cells #[.int .i64 6, .int .i64 7, .int .i64 8] 3)) (w.heap.size + 1) (opsL 7) := ints_of hO (fun j hj => by
      have hj' : j < 3 := hj
      have : j = 0 ∨ j = 1 ∨ j = 2 := by omega
      rcases this with rfl | rfl | rfl <;> rfl)
  have HX := Lib.hid (ochain_any 243 g (fun _ => by kernel_rfl) XS k ne bl 7 (by decide) H0 H (w.heap.size + 1) _ HP.out hI hO.lt (by omega))
  change Hid (Calls _ _ #[ptr g, fnv 243 g, .slice (some ⟨w.heap.size + 1, 0, none⟩) 3 3] _ _) at HX
  have hmf := hmf
  have hsf : Sf (dr XS k) (gX 7 ne (dr XS k)) := (gX_is (by decide)).2
  generalize gX 7 ne (dr XS k) = q2 at HX hsf ⊢
  clear hx1 hx2 hx3 h H H0 hO hI
  go_enter Tryz.func240, Tryz.ntmps240
  go_wp2_with fail
  generalize ((w.alloc (.cells #[.int .i64 0, .int .i64 0, .string ⟨#[]⟩, .slice none 0 0] 38)).alloc (.cells #[.int .i64 6, .int .i64 7, .int .i64 8] 3)) = W0 at *
  generalize hB0 : w.heap.size = B at *
  refine HX.out.mono ?_; intro e w1 hm
  cases q2 with
  | no r x =>
    obtain ⟨j, hj, rfl⟩ := sf_no hsf
    obtain ⟨hb, he⟩ := PRd.no_dr hm hj
    have HB1 := Lib.hid ((Kp.of HB.out).on hB0 hb)
    unfold fails at he
    subst he
    have HJ := Lib.hid hj
    clear hb hm hj hsf
    go_wp2_with fail
    exact ⟨rfl, PRd.mk_no HJ.out (hB0.symm ▸ HB1.out)⟩
  | ok t r =>
    obtain ⟨j, hkj, hj, rfl⟩ := sf_ok hsf
    obtain ⟨hb, v, rfl, hP, a0, c0, rfl, hK⟩ := PRd.ok_dr hm hj
    have hBW : B < W0.heap.size := HM.out.lt
    have HB1 := Lib.hid ((Kp.of HB.out).on hB0 hb)
    have HM1 := Lib.hid (HM.out.kp (by omega) hb)
    have HP1 := Lib.hid hP
    have HK1 := Lib.hid hK
    have HJ := Lib.hid hj
    have hgB : Hid (g < B) := by show g < B; omega
    have HBW := Lib.hid hBW
    obtain ⟨r0, r1, r2, r3⟩ := cells4 HM1.out
    obtain ⟨f0, f1, f2, f3⟩ := free4 HM1.out
    unfold exV
    clear hb hm hP hK hkj hj hsf hBW hlt0
    go_wp2_with fail
    obtain ⟨q0, q1, q2, q3⟩ := stored4 HM1.out (.int .i64 t.op) (.int .i64 t.n) (.string t.s) (.slice a0 t.args.length c0)
    refine bodyPost_ret (v := .agg #[.int .i64 t.op, .int .i64 t.n, .string t.s, .slice a0 t.args.length c0]) (by simp [results, Tryz.results240, go_sem, q0, q1, q2, q3]) rfl ?_
    have hBW' := HBW.out
    exact PRd.mk_ok HJ.out (kp_wset (hB0.symm ▸ HB1.out) (by omega)) (HP1.out.wset hgB.out) ⟨a0, c0, rfl, kids_less (kids_wset (kids_less HK1.out (by omega))) (by omega)⟩
end Go.Proofs.YteglaeopaocilaaGreatDoor.P
