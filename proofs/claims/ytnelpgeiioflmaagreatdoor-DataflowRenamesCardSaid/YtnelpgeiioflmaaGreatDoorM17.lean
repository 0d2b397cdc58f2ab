/-
  A region in whatever order, by an invariant.
  A region in whatever order: what holds of each number, once it has come up, said by kinds.
  A region in whatever order, where each number's value is known by itself: what holds of it stays when memory is made.
  What the reference of layer 11 returns: lookup, unary, binary, leaf: contracts.
  What the reference of layer 11 returns: typeOf, Of: contracts.
-/
import Derived.Test.YtnelpgeiioflmaaGreatDoorM07
import Derived.Deep.RegionLaw
import Derived.Deep.RegionWith
import Derived.Test.YtnelpgeiioflmaaGreatDoorM14
namespace Go.Proofs.YtnelpgeiioflmaaGreatDoor.P
open Go.RowKit
abbrev On (l : Array Bool) (j : Nat) : Prop := l.getD j false = true
theorem on_set {l : Array Bool} {i : Nat} (hi : l.getD i true = false) (j : Nat) : On (l.setIfInBounds i true) j ↔ (j = i ∨ On l j) := by
  unfold On
  by_cases h : i = j
  · subst h
    have hlt : i < l.size := by
      rcases Nat.lt_or_ge i l.size with h' | h'
      · exact h'
      · simp [Array.getElem?_eq_none h'] at hi
    simp [hlt]
  · rw [getD_set_ne false h]
    constructor
    · exact Or.inr
    · rintro (e | e)
      · exact absurd e.symm h
      · exact e
def deps (ops : Array Oper) (i : Nat) : List Nat := match ops[i]? with
  | none => []
  | some o => (o.after.toList.filter (Region.binds .any)).map (·.on)
def backs (ops : Array Oper) : Bool := (List.range ops.size).all fun i => (deps ops i).all (decide <| · < i)
theorem deps_of {ops : Array Oper} {i : Nat} {o : Oper} (ho : ops[i]? = some o) {l : Array Bool} (h : ∀ e ∈ o.after, Region.binds .any e = true → On l e.on) : ∀ j ∈ deps ops i, On l j := by
  intro j hj
  unfold deps at hj
  rw [ho] at hj
  obtain ⟨e, he, rfl⟩ := List.mem_map.1 hj
  obtain ⟨h1, h2⟩ := List.mem_filter.1 he
  exact h e (Array.mem_def.2 h1) h2
theorem mem_deps {ops : Array Oper} {i : Nat} {o : Oper} (ho : ops[i]? = some o) {e : Edge} (he : e ∈ o.after) (hb : Region.binds .any e = true) : e.on ∈ deps ops i := by
  unfold deps
  rw [ho]
  exact List.mem_map.2 ⟨e, List.mem_filter.2 ⟨Array.mem_def.1 he, hb⟩, rfl⟩
theorem wpAny_inv {P : Program} {ops : Array Oper} {Q : Exit → Act → World → Prop} (I : Array Bool → Act → World → Prop)
    (hback : backs ops = true)
    (hstep : ∀ l a w, I l a w → ∀ i, i < ops.size → l.getD i true = false → (∀ j ∈ deps ops i, On l j) → wpOp P ops Q i (I (l.setIfInBounds i true)) a w)
    (hdone : ∀ l a w, I l a w → (∀ j, j < ops.size → On l j) → Q .normal a w) :
    ∀ (fuel : Nat) (l : Array Bool) (a : Act) (w : World), l.size = ops.size → I l a w → l.toList.count false ≤ fuel → wpAny P .any ops Q fuel l a w := by
  have hend : ∀ (l : Array Bool), l.size = ops.size → Region.ready .any ops l = [] → ∀ j, j < ops.size → On l j := by
    intro l hl hr j
    induction j using Nat.strongRecOn with
    | ind j ih =>
      intro hj
      by_cases h : l.getD j true = false
      · have : j ∈ Region.ready .any ops l := mem_ready.2 ⟨h, ops[j], Array.getElem?_eq_getElem hj, fun e he hb => by
          have hlt : e.on < j := of_decide_eq_true (List.all_eq_true.1 (List.all_eq_true.1 hback j (List.mem_range.2 hj)) e.on (mem_deps (Array.getElem?_eq_getElem hj) he hb))
          exact ih _ hlt (Nat.lt_trans hlt hj)⟩
        rw [hr] at this
        cases this
      · have hj' : j < l.size := by omega
        unfold On
        simp [hj'] at h ⊢
        exact h
  intro fuel
  induction fuel with
  | zero =>
    intro l a w hl hI hc
    have hr : Region.ready .any ops l = [] := by
      rw [List.eq_nil_iff_forall_not_mem]
      intro i hi
      have h := (mem_ready.1 hi).1
      have hm : false ∈ l.toList := by
        rcases Nat.lt_or_ge i l.size with h' | h'
        · simp [h'] at h
          rw [← h]
          simp
        · simp [Array.getElem?_eq_none h'] at h
      have := List.count_pos_iff.2 hm
      omega
    exact ⟨hr, hdone l a w hI (hend l hl hr)⟩
  | succ fuel ih =>
    intro l a w hl hI hc
    refine ⟨fun hr => hdone l a w hI (hend l hl hr), fun i hi => ?_⟩
    obtain ⟨h0, o, ho, hall⟩ := mem_ready.1 hi
    have hlt : i < l.size := by
      rcases Nat.lt_or_ge i l.size with h' | h'
      · exact h'
      · simp [Array.getElem?_eq_none h'] at h0
    refine wpOp_mono (fun a' w' h => ih _ a' w' (by simpa using hl) h ?_) (hstep l a w hI i (by omega) h0 (deps_of ho hall))
    have hv : l[i] = false := by simpa [hlt] using h0
    have hm : 0 < l.toList.count false := List.count_pos_iff.2 (by rw [← hv]; simp)
    rw [Array.toList_setIfInBounds, List.count_set (by simpa using hlt)]
    simp [hv]; rw [← Array.count_toList]
    omega
theorem wp_region_inv {P : Program} {id : Nat} {ops : Array Oper} {Q : Exit → Act → World → Prop} {a : Act} {w : World} (hm : P.follows .mixedOrders = true) (I : Array Bool → Act → World → Prop)
    (hback : backs ops = true)
    (h0 : ∀ l, (∀ j, ¬ On l j) → I l a { w with drawn := w.drawn + 1 })
    (hstep : ∀ l a w, I l a w → ∀ i, i < ops.size → l.getD i true = false → (∀ j ∈ deps ops i, On l j) → wpOp P ops Q i (I (l.setIfInBounds i true)) a w)
    (hdone : ∀ l a w, I l a w → (∀ j, j < ops.size → On l j) → Q .normal a w) : (Code.region id ops true).wp P Q a w := by
  refine wp_region_any hm (wpAny_inv I hback hstep hdone _ _ _ _ (by simp) (h0 _ (fun j h => ?_)) (by simp))
  unfold On at h
  by_cases hj : j < ops.size
  · simp [hj] at h
  · simp [Array.getElem?_eq_none (show (Array.replicate ops.size false).size ≤ j by simpa using hj)] at h
end Go.Proofs.YtnelpgeiioflmaaGreatDoor.P
namespace Go.Proofs.YtnelpgeiioflmaaGreatDoor.P
open Go.RowKit
open A (Bx)
theorem off_of {l : Array Bool} {i : Nat} (h : l.getD i true = false) : ¬ On l i := fun h2 => by
  unfold On at h2
  rcases Nat.lt_or_ge i l.size with h' | h'
  · simp [h'] at h h2; rw [h] at h2; cases h2
  · simp [Array.getElem?_eq_none h'] at h
theorem getD_other {vs : List Value} {i j : Nat} (h : j ≠ i) (x : Value) : (vs.set i x).getD j undef = vs.getD j undef := by
  simp only [List.getD_eq_getElem?_getD]
  rw [List.getElem?_set_ne (Ne.symm h)]
theorem getD_self {vs : List Value} {i : Nat} (h : i < vs.length) (x : Value) : (vs.set i x).getD i undef = x := by
  simp only [List.getD_eq_getElem?_getD]
  rw [List.getElem?_set_self h]
  rfl
end Go.Proofs.YtnelpgeiioflmaaGreatDoor.P
namespace Go.Proofs.YtnelpgeiioflmaaGreatDoor.P
open Go.RowKit
structure IS (F : Nat → Value → World → Prop) (W : World) (l : Array Bool) (w : World) (vs : List Value) : Prop where
  bel : Below W.heap.size W w
  f : ∀ j, On l j → F j (vs.getD j undef) w
theorem IS.step {F : Nat → Value → World → Prop} (hF : ∀ j x w w', F j x w → Below w.heap.size w w' → F j x w') {W : World} {l : Array Bool} {w w' : World} {vs : List Value} (h : IS F W l w vs) {i : Nat} (h0 : l.getD i true = false) (hi : i < vs.length) (hb : Below w.heap.size w w') {x : Value} (hx : F i x w') :
    IS F W (l.setIfInBounds i true) w' (vs.set i x) := by
  refine ⟨h.bel.trans (hb.mono h.bel.size), fun j hj => ?_⟩
  by_cases e : j = i
  · subst e; rw [getD_self hi]; exact hx
  · rw [getD_other e]
    exact hF _ _ _ _ (h.f j (((on_set h0 j).1 hj).resolve_left e)) hb
theorem IS.start (F : Nat → Value → World → Prop) (W : World) {l : Array Bool} (hl : ∀ j, ¬ On l j) (vs : List Value) : IS F W l { W with drawn := W.drawn + 1 } vs := ⟨L.below_drew W, fun j hj => absurd hj (hl j)⟩
end Go.Proofs.YtnelpgeiioflmaaGreatDoor.P
namespace Go.Proofs.YtnelpgeiioflmaaGreatDoor.Y
open Go.RowKit
open L (Str isName prt size_len below_2 below_box ret_bool ret_int eql_eq bytes_eq)
open A (Ex St Pm Pr V arity vE vEs absent exV exO Bx exV_mk exO_mk okE cE PmsAt)

theorem look_drop {l : List Pm} {k : Nat} (hk : k < l.length) (x : ByteArray) : look (l.drop k) x = if l[k].name = x then some l[k].ty else look (l.drop (k + 1)) x := by
  rw [List.drop_eq_getElem_cons hk, look_cons]
set_option maxHeartbeats 4000000 in
set_option maxRecDepth 100000 in
theorem rlookup_any (vs : List Pm) (a : Option Addr) (c : Nat) (x : ByteArray) (hl : vs.length ≤ 1000000000000000) (w : World) (hK : PmsAt w a vs) :
    Calls Tryz.prog 90 #[.slice a vs.length c, .string x] w fun e' w' => e' = .returned (.tuple #[.int .i64 (tyV (look vs) x).1, .int .i64 (tyV (look vs) x).2]) ∧ w' = w := by
  have HK := Lib.hid hK
  obtain ⟨R, hR⟩ : ∃ R, tyV (look vs) x = R := ⟨_, rfl⟩
  rw [hR]
  have HR : Hid (tyV (look (vs.drop 0)) x = R) := hR
  obtain ⟨c1, c2⟩ := R
  obtain ⟨m, hm⟩ : ∃ m, vs.length = m := ⟨_, rfl⟩
  have HL := Lib.hid hm
  rw [hm] at hl ⊢
  clear hm hR hK
  go_enter Tryz.func90, Tryz.ntmps90
  go_wp2_with fail
  go_loopw [6] (fun s6 wr => ∃ k : Nat, k ≤ m ∧ s6 = .int .i64 k ∧ Hid (tyV (look (vs.drop k)) x = (c1, c2)) ∧ wr = w) (fun s6 _ => m - (intOf s6).toNat)
  case atStart => exact ⟨0, Nat.zero_le _, rfl, HR, rfl⟩
  case round =>
    obtain ⟨k, hk, rfl, HX, rfl⟩ := hrel
    by_cases hlt : k < m
    · have hlx : k < vs.length := by rw [HL.out]; exact hlt
      obtain ⟨b3, i3, rfl, hcc⟩ := HK.out.open hlx
      obtain ⟨f0, f1⟩ := hcc k hlx
      have hlk := look_drop hlx x
      have hx := HX.out
      generalize vs[k] = q at f0 f1 hlk
      have hb := A.bytes_dec q.name x
      clear hcc
      by_cases hn : q.name = x
      · rw [decide_eq_true hn] at hb
        rw [if_pos hn] at hlk
        rw [tyV_some hlk] at hx
        clear hlk hn
        by_cases h1 : q.ty < 1
        · rw [if_neg (by omega)] at hx
          have HV : Hid (0 = c1 ∧ (10 : Int) = c2) := by injection hx with h1 h2; exact ⟨h1, h2⟩
          have b1 : decide (q.ty < 1) = true := decide_eq_true h1
          clear h1 hx
          go_wp2_with fail
          go_ret2
          exact ⟨ret_2 HV.out.1 HV.out.2, rfl⟩
        · have b1 : decide (q.ty < 1) = false := decide_eq_false h1
          by_cases h2 : 3 < q.ty
          · rw [if_neg (by omega)] at hx
            have HV : Hid (0 = c1 ∧ (10 : Int) = c2) := by injection hx with h1 h2; exact ⟨h1, h2⟩
            have b2 : decide (3 < q.ty) = true := decide_eq_true h2
            clear h1 h2 hx
            go_wp2_with fail
            go_ret2
            exact ⟨ret_2 HV.out.1 HV.out.2, rfl⟩
          · rw [if_pos (by omega)] at hx
            have HV : Hid (q.ty = c1 ∧ (0 : Int) = c2) := by injection hx with h1 h2; exact ⟨h1, h2⟩
            have b2 : decide (3 < q.ty) = false := decide_eq_false h2
            clear h1 h2 hx
            go_wp2_with fail
            go_ret2
            exact ⟨ret_2 HV.out.1 HV.out.2, rfl⟩
      · rw [decide_eq_false hn] at hb
        rw [if_neg hn] at hlk
        have HX2 : Hid (tyV (look (vs.drop (k + 1))) x = (c1, c2)) := by
          show _ = _
          rw [← hx]; unfold tyV; rw [hlk]
        clear hlk hn hx
        go_wp2_with fail
        go_roundw
        case rel => exact ⟨k + 1, by omega, by go_num, HX2.out, trivial⟩
        case measure => simp [intOf]; omega
    · have hx := HX.out
      rw [List.drop_of_length_le (by rw [HL.out]; omega), tyV_none rfl] at hx
      have HV : Hid (0 = c1 ∧ (11 : Int) = c2) := by injection hx with h1 h2; exact ⟨h1, h2⟩
      clear hx
      go_wp2_with fail
      go_ret2
      exact ⟨ret_2 HV.out.1 HV.out.2, rfl⟩
set_option maxHeartbeats 4000000 in
set_option maxRecDepth 100000 in
theorem runary_any {o : Int} (ho : o = 9 ∨ o = 18 ∨ o = 20 ∨ o = 21 ∨ o = 22 ∨ o = 23 ∨ o = 24) (w : World) :
    Calls Tryz.prog 126 #[.int .i64 o] w fun e' w' => e' = .returned (.tuple #[.int .i64 (unW o), .int .i64 (unO o)]) ∧ w' = w := by
  rcases ho with rfl | rfl | rfl | rfl | rfl | rfl | rfl
  all_goals
    go_enter Tryz.func126, Tryz.ntmps126
    go_wp2_with fail
    go_ret2
    exact ⟨ret_2 (by decide) (by decide), rfl⟩
set_option maxHeartbeats 8000000 in
set_option maxRecDepth 100000 in
theorem rbinary_any {o : Int} (ho : 4 ≤ o ∧ o ≤ 19 ∧ o ≠ 9 ∧ o ≠ 18) {a b : Int} (ha : 1 ≤ a ∧ a ≤ 3) (w : World) :
    Calls Tryz.prog 127 #[.int .i64 o, .int .i64 a, .int .i64 b] w fun e' w' => e' = .returned (.int .i64 (biO o a b)) ∧ w' = w := by
  by_cases hab : a = b
  · subst hab
    have h7 : o = 4 ∨ o = 5 ∨ o = 6 ∨ o = 7 ∨ o = 8 ∨ o = 10 ∨ o = 11 ∨ o = 12 ∨ o = 13 ∨ o = 14 ∨ o = 15 ∨ o = 16 ∨ o = 17 ∨ o = 19 := by omega
    have ha3 := rng_cases ha
    clear ho ha
    rcases h7 with rfl | rfl | rfl | rfl | rfl | rfl | rfl | rfl | rfl | rfl | rfl | rfl | rfl | rfl <;> rcases ha3 with rfl | rfl | rfl
    all_goals
      go_enter Tryz.func127, Tryz.ntmps127
      go_wp2_with fail
      go_ret
      exact ⟨ret_int (by decide), rfl⟩
  · have hb : biO o a b = 0 := by unfold biO; rw [if_pos hab]
    have b1 : (a != b) = true := bne_iff_ne.2 hab
    rw [hb]
    clear hb hab ho ha
    go_enter Tryz.func127, Tryz.ntmps127
    go_wp2_with fail
    go_ret
    exact ⟨rfl, rfl⟩
def leafR (f : Env) (e : Ex) : Int × Int := if e.op = 3 then tyV f e.s else if e.op = 2 then (2, 0) else (1, 0)
set_option maxHeartbeats 4000000 in
set_option maxRecDepth 100000 in
theorem rleaf_any (e : Ex) (a : Option Addr) (c : Nat) (vs : List Pm) (av : Option Addr) (cv : Nat) (hl : vs.length ≤ 1000000000000000) (w : World) (hP : PmsAt w av vs) :
    Calls Tryz.prog 125 #[exV e a c, .slice av vs.length cv] w fun e' w' => e' = .returned (.tuple #[.int .i64 (leafR (look vs) e).1, .int .i64 (leafR (look vs) e).2]) ∧ Below w.heap.size w w' := by
  obtain ⟨o, n, s, l⟩ := e
  have hw := below_box w (exO (.mk o n s l) a c)
  have HC := Lib.hid (rlookup_any vs av cv s hl _ (hP.below hw))
  have HW := Lib.hid hw
  simp only [exV_mk, exO_mk] at *
  have hr : leafR (look vs) (.mk o n s l) = if o = 3 then tyV (look vs) s else if o = 2 then (2, 0) else (1, 0) := rfl
  obtain ⟨Q, hQ⟩ : ∃ Q, leafR (look vs) (.mk o n s l) = Q := ⟨_, rfl⟩
  rw [hQ] at hr ⊢
  clear hQ
  generalize vs.length = m at *
  generalize tyV (look vs) s = R at *
  obtain ⟨r1, r2⟩ := R
  obtain ⟨q1, q2⟩ := Q
  clear hw hP
  by_cases h3 : o = 3
  · rw [if_pos h3] at hr
    have HV : Hid (r1 = q1 ∧ r2 = q2) := by injection hr with h1 h2; exact ⟨h1.symm, h2.symm⟩
    clear hr
    subst h3
    go_enter Tryz.func125, Tryz.ntmps125
    go_wp2_with fail
    refine HC.out.mono ?_; rintro e' w2 ⟨rfl, rfl⟩
    go_wp2_with fail
    go_ret2
    exact ⟨ret_2 HV.out.1 HV.out.2, HW.out⟩
  · have b3 : (o == 3) = false := beq_eq_false_iff_ne.2 h3
    rw [if_neg h3] at hr
    by_cases h2 : o = 2
    · rw [if_pos h2] at hr
      have HV : Hid ((2 : Int) = q1 ∧ (0 : Int) = q2) := by injection hr with h1 h2; exact ⟨h1.symm, h2.symm⟩
      clear hr
      subst h2
      clear b3 h3
      go_enter Tryz.func125, Tryz.ntmps125
      go_wp2_with fail
      go_ret2
      exact ⟨ret_2 HV.out.1 HV.out.2, HW.out⟩
    · have b2 : (o == 2) = false := beq_eq_false_iff_ne.2 h2
      rw [if_neg h2] at hr
      have HV : Hid ((1 : Int) = q1 ∧ (0 : Int) = q2) := by injection hr with h1 h2; exact ⟨h1.symm, h2.symm⟩
      clear h2 h3 hr
      go_enter Tryz.func125, Tryz.ntmps125
      go_wp2_with fail
      go_ret2
      exact ⟨ret_2 HV.out.1 HV.out.2, HW.out⟩
end Go.Proofs.YtnelpgeiioflmaaGreatDoor.Y
namespace Go.Proofs.YtnelpgeiioflmaaGreatDoor.Y
open Go.RowKit
open L (Str isName prt size_len below_2 below_box ret_bool ret_int eql_eq bytes_eq)
open A (Ex St Pm Pr V arity vE vEs absent exV exO Bx exV_mk exO_mk okE cE PmsAt)

def QRt (vs : List Pm) (e : Ex) : Prop := ∀ (d : Nat) (a : Option Addr) (c : Nat) (av : Option Addr) (cv : Nat) (w : World), vE e d = 0 → A.Kids w a e.args → PmsAt w av vs →
  Calls Tryz.prog 104 #[exV e a c, .slice av vs.length cv] w fun e' w' => e' = .returned (.tuple #[.int .i64 (tyE (look vs) e).1, .int .i64 (tyE (look vs) e).2]) ∧ Below w.heap.size w w'
set_option maxHeartbeats 8000000 in
set_option maxRecDepth 100000 in
theorem rtypeOf_any {vs : List Pm} (hl : vs.length ≤ 1000000000000000) : ∀ e, QRt vs e := by
  refine Ex.ind (P := QRt vs) ?_
  intro o n s l ih d a c av cv w hv hK hP
  have hw := below_box w (exO (.mk o n s l) a c)
  have hbx := Bx.new w #[.int .i64 o, .int .i64 n, .string s, .slice a l.length c] 42
  have HAR := Lib.hid (fun w => A.rarity_any o w)
  have HW := Lib.hid hw
  have hK' : A.Kids (w.alloc (exO (.mk o n s l) a c)) a l := hK.below hw
  have hP' := hP.below hw
  obtain ⟨h1, h2⟩ := vE_open hv
  obtain ⟨h0, -, -⟩ := node_open h1
  have h0' : 0 ≤ arity o := h0
  rcases arity_cases h0' with ⟨har, ho⟩ | ⟨har, ho⟩ | ⟨har, ho⟩
  · obtain ⟨rfl, hty⟩ := ty_leaf (look vs) hv har
    have HLF := Lib.hid (fun w hP => rleaf_any (.mk o n s []) a c vs av cv hl w hP)
    have hlf : leafR (look vs) (.mk o n s []) = tyE (look vs) (.mk o n s []) := by rw [hty]; rfl
    rw [hlf] at HLF
    have HP := Lib.hid hP'
    rw [har] at HAR
    have HBX := Lib.hid hbx
    simp only [exV_mk, exO_mk] at *
    generalize tyE (look vs) (.mk o n s []) = R at *
    generalize vs.length = mv at *
    obtain ⟨r1, r2⟩ := R
    clear hw hbx hK hK' hP hP' ih hv hty hlf h1 h2 h0 h0' ho har
    simp only [List.length_nil] at *
    have x := HBX.out
    have x0 := x.cell 0
    have x1 := x.cell 1
    have x2 := x.cell 2
    have x3 := x.cell 3
    clear x
    go_enter Tryz.func104, Tryz.ntmps104
    go_wp2_with fail
    refine (HAR.out _).mono ?_; rintro e' w2 ⟨rfl, rfl⟩
    have HL2 := Lib.hid (HLF.out _ HP.out)
    clear x0 x1 x2 x3
    go_wp2_with fail
    refine HL2.out.mono ?_; rintro e' w3 ⟨rfl, hb3⟩
    have HB3 := Lib.hid (below_2 HW.out hb3)
    clear hb3
    go_wp2_with fail
    go_ret2
    exact ⟨rfl, HB3.out⟩
  · obtain ⟨x, rfl, hvx, hty⟩ := ty_un (look vs) hv har
    obtain ⟨b2, i2, rfl, hat⟩ := hK'.open (show 0 < 1 by decide)
    obtain ⟨d0, d1, d2, a4, c4, d3, hk4⟩ := hat.open
    have hih : QRt vs x := ih 0 (by simp)
    have HX := Lib.hid (hih (d + 1) a4 c4 av cv _ hvx hk4 hP')
    have HUN := Lib.hid (fun w => runary_any ho w)
    have hxv : exV x a4 c4 = .agg #[.int .i64 x.op, .int .i64 x.n, .string x.s, .slice a4 x.args.length c4] := rfl
    rw [hxv] at HX
    simp only [List.getElem_cons_zero, Nat.zero_mul, Nat.add_zero] at d0 d1 d2 d3
    have x0 := hbx.cell 0
    have x3 := hbx.cell 3
    have HBX := Lib.hid hbx
    rw [har] at HAR
    simp only [exV_mk, exO_mk] at *
    obtain ⟨R, hR⟩ : ∃ R, tyE (look vs) (.mk o n s [x]) = R := ⟨_, rfl⟩
    rw [hR] at hty ⊢
    have HTY := Lib.hid hty
    generalize tyE (look vs) x = r at *
    generalize unW o = u1 at *
    generalize unO o = u2 at *
    generalize vs.length = mv at *
    generalize x.args.length = m2 at *
    generalize x.op = o2 at *
    generalize x.n = n2 at *
    generalize x.s = s2 at *
    obtain ⟨r1, r2⟩ := r
    obtain ⟨q1, q2⟩ := R
    simp only [List.length_singleton, List.getElem?_toArray, List.getElem?_cons_succ, List.getElem?_cons_zero] at *
    clear hw hbx hK hK' hP hP' ih hv hty h1 h2 h0 h0' ho har hat hk4 hih hxv hR hvx
    go_enter Tryz.func104, Tryz.ntmps104
    go_wp2_with fail
    refine (HAR.out _).mono ?_; rintro e' w2 ⟨rfl, rfl⟩
    go_wp2_with fail
    refine HX.out.mono ?_; rintro e' w3 ⟨rfl, hb3⟩
    have HB3 := Lib.hid (below_2 HW.out hb3)
    have x0' := (hb3.cell (block_lt_of_cell x0)).trans x0
    clear hb3 x3 d0 d1 d2 d3 x0
    by_cases hz : r2 = 0
    · subst hz
      by_cases hu : r1 = u1
      · have b1 : (r1 != u1) = false := by rw [hu]; exact bne_self_eq_false _
        have HV : Hid (u2 = q1 ∧ (0 : Int) = q2) := by
          have := HTY.out
          rw [if_neg (fun z => z rfl), if_neg (fun z => z hu)] at this
          injection this with h1 h2; exact ⟨h1.symm, h2.symm⟩
        clear hu
        go_wp2_with fail
        refine (HUN.out _).mono ?_; rintro e' w4 ⟨rfl, rfl⟩
        go_wp2_with fail
        go_ret2
        exact ⟨ret_2 HV.out.1 HV.out.2, HB3.out⟩
      · have b1 : (r1 != u1) = true := bne_iff_ne.2 hu
        have HV : Hid ((0 : Int) = q1 ∧ (10 : Int) = q2) := by
          have := HTY.out
          rw [if_neg (fun z => z rfl), if_pos hu] at this
          injection this with h1 h2; exact ⟨h1.symm, h2.symm⟩
        clear hu
        go_wp2_with fail
        refine (HUN.out _).mono ?_; rintro e' w4 ⟨rfl, rfl⟩
        go_wp2_with fail
        go_ret2
        exact ⟨ret_2 HV.out.1 HV.out.2, HB3.out⟩
    · have b1 : (r2 != 0) = true := bne_iff_ne.2 hz
      have HV : Hid ((0 : Int) = q1 ∧ r2 = q2) := by
        have := HTY.out
        rw [if_pos hz] at this
        injection this with h1 h2; exact ⟨h1.symm, h2.symm⟩
      clear hz
      go_wp2_with fail
      go_ret2
      exact ⟨ret_2 HV.out.1 HV.out.2, HB3.out⟩
  · obtain ⟨x, y, rfl, hvx, hvy, hty⟩ := ty_bi (look vs) hv har
    obtain ⟨b2, i2, rfl, hat⟩ := hK'.open (show 0 < 2 by decide)
    obtain ⟨d0, d1, d2, a4, c4, d3, hk4⟩ := hat.open
    obtain ⟨b2', i2', hbi, hat2⟩ := hK'.open (show 1 < 2 by decide)
    obtain ⟨rfl, rfl⟩ : b2 = b2' ∧ i2 = i2' := by injection hbi with h; injection h with h1 h2; exact ⟨h1, h2⟩
    obtain ⟨e0, e1, e2, a5, c5, e3, hk5⟩ := hat2.open
    have hih : QRt vs x := ih 0 (by simp)
    have hih2 : QRt vs y := ih 1 (by simp)
    have HX := Lib.hid (hih (d + 1) a4 c4 av cv _ hvx hk4 hP')
    have HY := Lib.hid (fun w' hb => hih2 (d + 1) a5 c5 av cv w' hvy (hk5.below hb) (hP'.below hb))
    have hrx := ty_rng (look vs) x hvx
    have HBI := Lib.hid (fun (ha : 1 ≤ (tyE (look vs) x).1 ∧ (tyE (look vs) x).1 ≤ 3) w => rbinary_any ho (b := (tyE (look vs) y).1) ha w)
    have hxv : exV x a4 c4 = .agg #[.int .i64 x.op, .int .i64 x.n, .string x.s, .slice a4 x.args.length c4] := rfl
    have hyv : exV y a5 c5 = .agg #[.int .i64 y.op, .int .i64 y.n, .string y.s, .slice a5 y.args.length c5] := rfl
    rw [hxv] at HX
    rw [hyv] at HY
    simp only [List.getElem_cons_zero, List.getElem_cons_succ, Nat.zero_mul, Nat.one_mul, Nat.add_zero] at d0 d1 d2 d3 e0 e1 e2 e3
    have x0 := hbx.cell 0
    have x3 := hbx.cell 3
    have HBX := Lib.hid hbx
    rw [har] at HAR
    simp only [exV_mk, exO_mk] at *
    obtain ⟨R, hR⟩ : ∃ R, tyE (look vs) (.mk o n s [x, y]) = R := ⟨_, rfl⟩
    rw [hR] at hty ⊢
    have HTY := Lib.hid hty
    generalize tyE (look vs) x = r at *
    generalize tyE (look vs) y = t at *
    generalize vs.length = mv at *
    generalize x.args.length = m2 at *
    generalize x.op = o2 at *
    generalize x.n = n2 at *
    generalize x.s = s2 at *
    generalize y.args.length = m3 at *
    generalize y.op = o3 at *
    generalize y.n = n3 at *
    generalize y.s = s3 at *
    obtain ⟨r1, r2⟩ := r
    obtain ⟨t1, t2⟩ := t
    obtain ⟨q1, q2⟩ := R
    simp only [List.length_cons, List.length_nil, List.getElem?_toArray, List.getElem?_cons_succ, List.getElem?_cons_zero] at *
    have HRX := Lib.hid hrx
    clear hw hbx hK hK' hP hP' ih hv hty h1 h2 h0 h0' ho har hat hat2 hk4 hk5 hih hih2 hxv hyv hR hvx hvy hbi hrx
    go_enter Tryz.func104, Tryz.ntmps104
    go_wp2_with fail
    refine (HAR.out _).mono ?_; rintro e' w2 ⟨rfl, rfl⟩
    go_wp2_with fail
    refine HX.out.mono ?_; rintro e' w3 ⟨rfl, hb3⟩
    have HB3 := Lib.hid (below_2 HW.out hb3)
    have x0' := (hb3.cell (block_lt_of_cell x0)).trans x0
    have x3' := (hb3.cell (block_lt_of_cell x3)).trans x3
    have e0' := (hb3.cell (block_lt_of_cell e0)).trans e0
    have e1' := (hb3.cell (block_lt_of_cell e1)).trans e1
    have e2' := (hb3.cell (block_lt_of_cell e2)).trans e2
    have e3' := (hb3.cell (block_lt_of_cell e3)).trans e3
    have HY3 := Lib.hid (HY.out w3 hb3)
    clear hb3 x3 d0 d1 d2 d3 x0 e0 e1 e2 e3
    by_cases hz : r2 = 0
    · subst hz
      have HRA := Lib.hid (HRX.out.resolve_right (by rintro ⟨z, -⟩; omega)).2
      go_wp2_with fail
      refine HY3.out.mono ?_; rintro e' w4 ⟨rfl, hb4⟩
      have HB4 := Lib.hid (below_2 HB3.out hb4)
      have x0'' := (hb4.cell (block_lt_of_cell x0')).trans x0'
      clear hb4 x0' x3' e0' e1' e2' e3'
      by_cases hz2 : t2 = 0
      · subst hz2
        have HBI2 := Lib.hid (HBI.out HRA.out w4)
        have hty := HTY.out
        rw [if_neg (fun z => z rfl), if_neg (fun z => z rfl)] at hty
        generalize biO o r1 t1 = v at *
        by_cases hu : v = 0
        · rw [if_pos hu] at hty
          have HV : Hid ((0 : Int) = q1 ∧ (10 : Int) = q2) := by injection hty with h1 h2; exact ⟨h1.symm, h2.symm⟩
          subst hu
          clear hty
          go_wp2_with fail
          refine HBI2.out.mono ?_; rintro e' w5 ⟨rfl, rfl⟩
          go_wp2_with fail
          go_ret2
          exact ⟨ret_2 HV.out.1 HV.out.2, HB4.out⟩
        · rw [if_neg hu] at hty
          have HV : Hid (v = q1 ∧ (0 : Int) = q2) := by injection hty with h1 h2; exact ⟨h1.symm, h2.symm⟩
          have b1 : (v == 0) = false := beq_eq_false_iff_ne.2 hu
          clear hty hu
          go_wp2_with fail
          refine HBI2.out.mono ?_; rintro e' w5 ⟨rfl, rfl⟩
          go_wp2_with fail
          go_ret2
          exact ⟨ret_2 HV.out.1 HV.out.2, HB4.out⟩
      · have b1 : (t2 != 0) = true := bne_iff_ne.2 hz2
        have HV : Hid ((0 : Int) = q1 ∧ t2 = q2) := by
          have := HTY.out
          rw [if_neg (fun z => z rfl), if_pos hz2] at this
          injection this with h1 h2; exact ⟨h1.symm, h2.symm⟩
        clear hz2
        go_wp2_with fail
        go_ret2
        exact ⟨ret_2 HV.out.1 HV.out.2, HB4.out⟩
    · have b1 : (r2 != 0) = true := bne_iff_ne.2 hz
      have HV : Hid ((0 : Int) = q1 ∧ r2 = q2) := by
        have := HTY.out
        rw [if_pos hz] at this
        injection this with h1 h2; exact ⟨h1.symm, h2.symm⟩
      clear hz
      go_wp2_with fail
      go_ret2
      exact ⟨ret_2 HV.out.1 HV.out.2, HB3.out⟩
set_option maxHeartbeats 4000000 in
set_option maxRecDepth 100000 in
theorem rOf_any (e : Ex) (a : Option Addr) (c : Nat) (vs : List Pm) (av : Option Addr) (cv : Nat) (hok : okE e) (hl : vs.length ≤ 1000000000000000) (w : World) (hK : A.Kids w a e.args) (hP : PmsAt w av vs) :
    Calls Tryz.prog 89 #[exV e a c, .slice av vs.length cv] w fun e' w' => e' = .returned (.tuple #[.int .i64 (ofE (look vs) e).1, .int .i64 (ofE (look vs) e).2]) ∧ Below w.heap.size w w' := by
  have hw := below_box w (exO e a c)
  have hbx := Bx.new w #[.int .i64 e.op, .int .i64 e.n, .string e.s, .slice a e.args.length c] 42
  have HV := Lib.hid (A.rvalidExpr_any e a c hok _ (hK.below hw))
  have HT := Lib.hid (fun w' hb hv => rtypeOf_any hl e 1 a c av cv w' hv ((hK.below hw).below hb) ((hP.below hw).below hb))
  have HW := Lib.hid hw
  have hbx' : Bx (w.alloc (exO e a c)) w.heap.size #[.int .i64 e.op, .int .i64 e.n, .string e.s, .slice a e.args.length c] 42 := hbx
  have HBX := Lib.hid hbx'
  obtain ⟨R, hR⟩ : ∃ R, ofE (look vs) e = R := ⟨_, rfl⟩
  have HR : Hid (R = if vE e 1 ≠ 0 then (0, vE e 1) else tyE (look vs) e) := by show _ = _; rw [← hR]; rfl
  rw [hR]
  obtain ⟨c1, c2⟩ := R
  generalize tyE (look vs) e = T at *
  obtain ⟨t1, t2⟩ := T
  generalize vE e 1 = x at *
  unfold exO at *
  unfold exV at *
  generalize vs.length = mv at *
  clear hw hbx hbx' hK hP hok hR
  go_enter Tryz.func89, Tryz.ntmps89
  go_wp2_with fail
  refine HV.out.mono ?_; rintro e' w2 ⟨rfl, hb2⟩
  have HB2 := Lib.hid (below_2 HW.out hb2)
  have hx2 := HBX.out.below hb2
  have x0 := hx2.cell 0
  have x1 := hx2.cell 1
  have x2 := hx2.cell 2
  have x3 := hx2.cell 3
  simp only [List.getElem?_toArray, List.getElem?_cons_succ, List.getElem?_cons_zero] at x0 x1 x2 x3
  have HT2 := Lib.hid (HT.out w2 hb2)
  clear hb2 hx2
  by_cases hz : x = 0
  · have HV2 : Hid (t1 = c1 ∧ t2 = c2) := by
      have := HR.out
      rw [if_neg (fun z => z hz)] at this
      injection this with h1 h2; exact ⟨h1.symm, h2.symm⟩
    have HT3 := Lib.hid (HT2.out hz)
    subst hz
    go_wp2_with fail
    refine HT3.out.mono ?_; rintro e' w3 ⟨rfl, hb3⟩
    have HB3 := Lib.hid (below_2 HB2.out hb3)
    clear hb3
    go_wp2_with fail
    go_ret2
    exact ⟨ret_2 HV2.out.1 HV2.out.2, HB3.out⟩
  · have b1 : (x != 0) = true := bne_iff_ne.2 hz
    have HV2 : Hid ((0 : Int) = c1 ∧ x = c2) := by
      have := HR.out
      rw [if_pos hz] at this
      injection this with h1 h2; exact ⟨h1.symm, h2.symm⟩
    clear hz
    go_wp2_with fail
    go_ret2
    exact ⟨ret_2 HV2.out.1 HV2.out.2, HB2.out⟩
end Go.Proofs.YtnelpgeiioflmaaGreatDoor.Y
