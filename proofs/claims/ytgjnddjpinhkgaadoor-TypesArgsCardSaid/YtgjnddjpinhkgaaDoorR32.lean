/-
  Declarations of texts that lie merged: what further laws need of YLI, YLN, YLC, YLB, YLD.
-/
import Derived.Test.YtgjnddjpinhkgaaDoorR31
import Derived.Test.YtgjnddjpinhkgaaDoorM19
import Derived.Test.YtgjnddjpinhkgaaDoorM12
import Derived.Test.YtgjnddjpinhkgaaDoorQYLA
import Derived.Deep.RegionLaw
import Derived.Deep.RegionWith
namespace Go.Proofs.YtgjnddjpinhkgaaDoor.P
open Go.RowKit
def backs (ops : Array Oper) : Bool := (List.range ops.size).all fun i => (deps ops i).all (decide <| · < i)
theorem deps_of {ops : Array Oper} {i : Nat} {o : Oper} (ho : ops[i]? = some o) {l : Array Bool} (h : ∀ e ∈ o.after, Region.binds .any e = true → On l e.on) : ∀ j ∈ deps ops i, On l j := by
  intro j hj
  unfold deps at hj
  rw [ho] at hj
  obtain ⟨e, he, rfl⟩ := List.mem_map.1 hj
  obtain ⟨h1, h2⟩ := List.mem_filter.1 he
  exact h e (Array.mem_def.2 h1) h2
theorem mem_deps {ops : Array Oper} {i : Nat} {o : Oper} (ho : ops[i]? = some o) {e : Edge} (he : e ∈ o.after) (hb : Region.binds .any e = true) : e.on ∈ deps ops i := by
  unfold deps
  rw [ho]
  exact List.mem_map.2 ⟨e, List.mem_filter.2 ⟨Array.mem_def.1 he, hb⟩, rfl⟩
theorem wpAny_inv {P : Program} {ops : Array Oper} {Q : Exit → Act → World → Prop} (I : Array Bool → Act → World → Prop)
    (hback : backs ops = true)
    (hstep : ∀ l a w, I l a w → ∀ i, i < ops.size → l.getD i true = false → (∀ j ∈ deps ops i, On l j) → wpOp P ops Q i (I (l.setIfInBounds i true)) a w)
    (hdone : ∀ l a w, I l a w → (∀ j, j < ops.size → On l j) → Q .normal a w) :
    ∀ (fuel : Nat) (l : Array Bool) (a : Act) (w : World), l.size = ops.size → I l a w → l.toList.count false ≤ fuel → wpAny P .any ops Q fuel l a w := by
  have hend : ∀ (l : Array Bool), l.size = ops.size → Region.ready .any ops l = [] → ∀ j, j < ops.size → On l j := by
    intro l hl hr j
    induction j using Nat.strongRecOn with
    | ind j ih =>
      intro hj
      by_cases h : l.getD j true = false
      · have : j ∈ Region.ready .any ops l := mem_ready.2 ⟨h, ops[j], Array.getElem?_eq_getElem hj, fun e he hb => by
          have hlt : e.on < j := of_decide_eq_true (List.all_eq_true.1 (List.all_eq_true.1 hback j (List.mem_range.2 hj)) e.on (mem_deps (Array.getElem?_eq_getElem hj) he hb))
          exact ih _ hlt (Nat.lt_trans hlt hj)⟩
        rw [hr] at this
        cases this
      · have hj' : j < l.size := by omega
        unfold On
        simp [hj'] at h ⊢
        exact h
  intro fuel
  induction fuel with
  | zero =>
    intro l a w hl hI hc
    have hr : Region.ready .any ops l = [] := by
      rw [List.eq_nil_iff_forall_not_mem]
      intro i hi
      have h := (mem_ready.1 hi).1
      have hm : false ∈ l.toList := by
        rcases Nat.lt_or_ge i l.size with h' | h'
        · simp [h'] at h
          rw [← h]
          simp
        · simp [Array.getElem?_eq_none h'] at h
      have := List.count_pos_iff.2 hm
      omega
    exact ⟨hr, hdone l a w hI (hend l hl hr)⟩
  | succ fuel ih =>
    intro l a w hl hI hc
    refine ⟨fun hr => hdone l a w hI (hend l hl hr), fun i hi => ?_⟩
    obtain ⟨h0, o, ho, hall⟩ := mem_ready.1 hi
    have hlt : i < l.size := by
      rcases Nat.lt_or_ge i l.size with h' | h'
      · exact h'
      · simp [Array.getElem?_eq_none h'] at h0
    refine wpOp_mono (fun a' w' h => ih _ a' w' (by simpa using hl) h ?_) (hstep l a w hI i (by omega) h0 (deps_of ho hall))
    have hv : l[i] = false := by simpa [hlt] using h0
    have hm : 0 < l.toList.count false := List.count_pos_iff.2 (by rw [← hv]; simp)
    rw [Array.toList_setIfInBounds, List.count_set (by simpa using hlt)]
    simp [hv]; rw [← Array.count_toList]
    omega
theorem wp_region_inv {P : Program} {id : Nat} {ops : Array Oper} {Q : Exit → Act → World → Prop} {a : Act} {w : World} (hm : P.follows .mixedOrders = true) (I : Array Bool → Act → World → Prop)
    (hback : backs ops = true)
    (h0 : ∀ l, (∀ j, ¬ On l j) → I l a { w with drawn := w.drawn + 1 })
    (hstep : ∀ l a w, I l a w → ∀ i, i < ops.size → l.getD i true = false → (∀ j ∈ deps ops i, On l j) → wpOp P ops Q i (I (l.setIfInBounds i true)) a w)
    (hdone : ∀ l a w, I l a w → (∀ j, j < ops.size → On l j) → Q .normal a w) : (Code.region id ops true).wp P Q a w := by
  refine wp_region_any hm (wpAny_inv I hback hstep hdone _ _ _ _ (by simp) (h0 _ (fun j h => ?_)) (by simp))
  unfold On at h
  by_cases hj : j < ops.size
  · simp [hj] at h
  · simp [Array.getElem?_eq_none (show (Array.replicate ops.size false).size ≤ j by simpa using hj)] at h
end Go.Proofs.YtgjnddjpinhkgaaDoor.P
namespace Go.Proofs.YtgjnddjpinhkgaaDoor.P
open Go.RowKit
open A (Bx)
section
variable {ks : List Kd} {ops : Array Oper} {W : World} {l : Array Bool} {w : World} {vs : List Value}
end
theorem wp_region_G {P : Program} {id : Nat} {ops : Array Oper} {Q : Exit → Act → World → Prop} {a : Act} {w : World} (hm : P.follows .mixedOrders = true) (ks : List Kd) (I : List Kd → Array Oper → Array Bool → Act → World → Prop)
    (hback : backs ops = true) (hok : okK ks ops = true)
    (h0 : ∀ l, (∀ j, ¬ On l j) → I ks ops l a { w with drawn := w.drawn + 1 })
    (hstep : okK ks ops = true → ∀ l a w, I ks ops l a w → ∀ i, i < ops.size → l.getD i true = false → (∀ j ∈ deps ops i, On l j) → wpOp P ops Q i (I ks ops (l.setIfInBounds i true)) a w)
    (hdone : ∀ l a w, I ks ops l a w → (∀ j, j < ops.size → On l j) → Q .normal a w) : (Code.region id ops true).wp P Q a w :=
  wp_region_inv hm (I ks ops) hback h0 (hstep hok) hdone
end Go.Proofs.YtgjnddjpinhkgaaDoor.P
namespace Go.Proofs.YtgjnddjpinhkgaaDoor.Y
open Go.RowKit
open L (Str isName prt size_len below_2 below_box ret_bool ret_int eql_eq bytes_eq)
open A (Bx)
open P (G Kd On off_of wp_region_G)
/-- a region's operations -/
def findR (n : Nat) : Code → Option (Array Oper)
  | .region i ops _ => match Nat.beq i n with
    | true => some ops
    | false => none
  | .seq a b => match findR n a with
    | some c => some c
    | none => findR n b
  | .block _ c => findR n c
  | .scope c => findR n c
  | .loop c => findR n c
  | .cond _ a b => match findR n a with
    | some c => some c
    | none => findR n b
  | _ => none
noncomputable def opsW (n : Nat) : Array Oper := ((Tryd.f11.body.bind (findR n)).getD #[])
theorem set3_keep {w : World} {g g' : Nat} {a b c : Value} (hne : g' ≠ g) : (((w.setCell ⟨g, 0, none⟩ a).setCell ⟨g, 1, none⟩ b).setCell ⟨g, 2, none⟩ c).heap[g']? = w.heap[g']? :=
  (Below.heap_setCell _ _ _ _ hne).trans ((Below.heap_setCell _ _ _ _ hne).trans (Below.heap_setCell _ _ _ _ hne))
theorem set3_below {W w : World} {g : Nat} {a b c : Value} (hb : Below W.heap.size W w) (hz : W.heap.size ≤ g) : Below W.heap.size W (((w.setCell ⟨g, 0, none⟩ a).setCell ⟨g, 1, none⟩ b).setCell ⟨g, 2, none⟩ c) :=
  ((hb.setCell (p := ⟨g, 0, none⟩) hz a).setCell (p := ⟨g, 1, none⟩) hz b).setCell (p := ⟨g, 2, none⟩) hz c
theorem set3_bx {w : World} {g : Nat} {x y z a b c : Value} {t : TypeId} (h : Bx w g #[x, y, z] t) : Bx (((w.setCell ⟨g, 0, none⟩ a).setCell ⟨g, 1, none⟩ b).setCell ⟨g, 2, none⟩ c) g #[a, b, c] t := by
  have := ((h.set 0 (u := a)).set 1 (u := b)).set 2 (u := c)
  simpa using this
set_option maxHeartbeats 16000000 in
set_option maxRecDepth 1000000 in
theorem regW5 {h q1 q4 q7 : Nat} {W : World} {Q : Exit → Act → World → Prop} (HO : Hid (∀ w : World, Calls Tryd.prog 32 #[] w fun e w' => e = .returned (.agg #[.int .i64 1, .int .i64 1, .string ⟨#[]⟩, .slice none 0 0]) ∧ Below w.heap.size w w')) (HNx : Hid (∀ w : World, Calls Tryd.prog 31 #[.string ⟨#[120]⟩] w fun e w' => e = .returned (.agg #[.int .i64 3, .int .i64 0, .string ⟨#[120]⟩, .slice none 0 0]) ∧ Below w.heap.size w w')) (HX : Hid (Bx W (h + 1) #[.int .i64 24, .int .i64 0, .string ⟨#[]⟩, .slice (some ⟨h, 0, none⟩) 1 1] 52)) (hQ : ∀ (g9 g7 g3 : Nat) (w' : World), Below W.heap.size W w' → Bx w' g9 #[.string ⟨#[112]⟩, .slice none 0 0, .slice (some ⟨g7, 0, none⟩) 2 2] 25 → Bx w' g7 #[.int .i64 5, .string ⟨#[]⟩, .int .i64 0, .int .i64 24, .int .i64 0, .string ⟨#[]⟩, .slice (some ⟨h, 0, none⟩) 1 1, .int .i64 0, .int .i64 0, .string ⟨#[]⟩, .slice none 0 0, .slice (some ⟨g3, 0, none⟩) 1 1, .slice none 0 0, .int .i64 7, .string ⟨#[]⟩, .int .i64 0, .int .i64 3, .int .i64 0, .string ⟨#[120]⟩, .slice none 0 0, .int .i64 0, .int .i64 0, .string ⟨#[]⟩, .slice none 0 0, .slice none 0 0, .slice none 0 0] 56 → Bx w' g3 #[.int .i64 1, .string ⟨#[120]⟩, .int .i64 0, .int .i64 1, .int .i64 1, .string ⟨#[]⟩, .slice none 0 0, .int .i64 0, .int .i64 0, .string ⟨#[]⟩, .slice none 0 0, .slice none 0 0, .slice none 0 0] 56 → (∀ u0 u1 u2 u3 u4 u5 u6 u7 u8 : Value, Q .normal { tmps := #[.bool false, .int .i64 2, .int .i64 0, .int .i64 0, .int .i64 10, .int .i64 0, .int .i64 11, .pointer (some ⟨h + 1, 0, none⟩), (.pointer (some ⟨g9, 0, none⟩)), undef, undef, undef, .tuple #[.int .i64 2, .int .i64 0], .agg #[.int .i64 3, .int .i64 0, .string ⟨#[120]⟩, .slice none 0 0], .slice (some ⟨q1, 0, none⟩) 1 1, .agg #[.int .i64 20, .int .i64 0, .string ⟨#[]⟩, .slice (some ⟨q1, 0, none⟩) 1 1], .agg #[.string ⟨#[120]⟩, .int .i64 1], .slice (some ⟨q1 + 1, 0, none⟩) 1 1, .tuple #[.int .i64 2, .int .i64 0], .int .i64 2, .int .i64 0, .tuple #[.int .i64 0, .int .i64 10], .agg #[.int .i64 1, .int .i64 1, .string ⟨#[]⟩, .slice none 0 0], .agg #[.int .i64 2, .int .i64 0, .string ⟨#[97]⟩, .slice none 0 0], .slice (some ⟨q4, 0, none⟩) 2 2, .agg #[.int .i64 4, .int .i64 0, .string ⟨#[]⟩, .slice (some ⟨q4, 0, none⟩) 2 2], .tuple #[.int .i64 0, .int .i64 10], .int .i64 0, .int .i64 10, .tuple #[.int .i64 0, .int .i64 11], .agg #[.int .i64 3, .int .i64 0, .string ⟨#[120]⟩, .slice none 0 0], .agg #[.int .i64 2, .int .i64 0, .string ⟨#[97]⟩, .slice none 0 0], .slice (some ⟨q7, 0, none⟩) 2 2, .agg #[.int .i64 4, .int .i64 0, .string ⟨#[]⟩, .slice (some ⟨q7, 0, none⟩) 2 2], .tuple #[.int .i64 0, .int .i64 11], .int .i64 0, .int .i64 11, .agg #[.int .i64 2, .int .i64 0, .string ⟨#[107]⟩, .slice none 0 0], .slice (some ⟨h, 0, none⟩) 1 1, .agg #[.int .i64 24, .int .i64 0, .string ⟨#[]⟩, .slice (some ⟨h, 0, none⟩) 1 1], u0, u1, u2, u3, u4, u5, u6, u7, u8, undef, undef, undef, undef, undef, undef, undef, undef, undef, undef, undef, undef, undef, undef, undef, undef, undef, undef, undef, undef, undef, undef, undef, undef, undef, undef, undef, undef, undef, undef, undef, undef, undef, undef, undef, undef, undef, undef, undef, undef, undef, undef, undef, undef, undef, undef, undef, undef, undef, undef, undef, undef, undef, undef, undef, undef, undef, undef, undef, undef, undef, undef, undef, undef, undef, undef, undef, undef, undef, undef, undef, undef, undef, undef, undef, undef, undef, undef, undef, undef, undef, undef, undef, undef, undef, undef, undef, undef], defers := [] } w')) :
    Code.wp Tryd.prog (Code.region 5 (opsW 5) true) Q { tmps := #[.bool false, .int .i64 2, .int .i64 0, .int .i64 0, .int .i64 10, .int .i64 0, .int .i64 11, .pointer (some ⟨h + 1, 0, none⟩), undef, undef, undef, undef, .tuple #[.int .i64 2, .int .i64 0], .agg #[.int .i64 3, .int .i64 0, .string ⟨#[120]⟩, .slice none 0 0], .slice (some ⟨q1, 0, none⟩) 1 1, .agg #[.int .i64 20, .int .i64 0, .string ⟨#[]⟩, .slice (some ⟨q1, 0, none⟩) 1 1], .agg #[.string ⟨#[120]⟩, .int .i64 1], .slice (some ⟨q1 + 1, 0, none⟩) 1 1, .tuple #[.int .i64 2, .int .i64 0], .int .i64 2, .int .i64 0, .tuple #[.int .i64 0, .int .i64 10], .agg #[.int .i64 1, .int .i64 1, .string ⟨#[]⟩, .slice none 0 0], .agg #[.int .i64 2, .int .i64 0, .string ⟨#[97]⟩, .slice none 0 0], .slice (some ⟨q4, 0, none⟩) 2 2, .agg #[.int .i64 4, .int .i64 0, .string ⟨#[]⟩, .slice (some ⟨q4, 0, none⟩) 2 2], .tuple #[.int .i64 0, .int .i64 10], .int .i64 0, .int .i64 10, .tuple #[.int .i64 0, .int .i64 11], .agg #[.int .i64 3, .int .i64 0, .string ⟨#[120]⟩, .slice none 0 0], .agg #[.int .i64 2, .int .i64 0, .string ⟨#[97]⟩, .slice none 0 0], .slice (some ⟨q7, 0, none⟩) 2 2, .agg #[.int .i64 4, .int .i64 0, .string ⟨#[]⟩, .slice (some ⟨q7, 0, none⟩) 2 2], .tuple #[.int .i64 0, .int .i64 11], .int .i64 0, .int .i64 11, .agg #[.int .i64 2, .int .i64 0, .string ⟨#[107]⟩, .slice none 0 0], .slice (some ⟨h, 0, none⟩) 1 1, .agg #[.int .i64 24, .int .i64 0, .string ⟨#[]⟩, .slice (some ⟨h, 0, none⟩) 1 1], undef, undef, undef, undef, undef, undef, undef, undef, undef, undef, undef, undef, undef, undef, undef, undef, undef, undef, undef, undef, undef, undef, undef, undef, undef, undef, undef, undef, undef, undef, undef, undef, undef, undef, undef, undef, undef, undef, undef, undef, undef, undef, undef, undef, undef, undef, undef, undef, undef, undef, undef, undef, undef, undef, undef, undef, undef, undef, undef, undef, undef, undef, undef, undef, undef, undef, undef, undef, undef, undef, undef, undef, undef, undef, undef, undef, undef, undef, undef, undef, undef, undef, undef, undef, undef, undef, undef, undef, undef, undef, undef, undef, undef, undef, undef, undef, undef], defers := [] } W := by
  conv => arg 2; arg 2; whnf
  refine wp_region_G rfl [.val [] (fun _ => .agg #[.int .i64 24, .int .i64 0, .string ⟨#[]⟩, .slice (some ⟨h, 0, none⟩) 1 1]), .val [] (fun _ => .agg #[.int .i64 1, .int .i64 1, .string ⟨#[]⟩, .slice none 0 0]), .val [] (fun _ => .agg #[.int .i64 1, .string ⟨#[120]⟩, .int .i64 0, .int .i64 1, .int .i64 1, .string ⟨#[]⟩, .slice none 0 0, .int .i64 0, .int .i64 0, .string ⟨#[]⟩, .slice none 0 0, .slice none 0 0, .slice none 0 0]), .blk 1 [] (fun _ => #[.int .i64 1, .string ⟨#[120]⟩, .int .i64 0, .int .i64 1, .int .i64 1, .string ⟨#[]⟩, .slice none 0 0, .int .i64 0, .int .i64 0, .string ⟨#[]⟩, .slice none 0 0, .slice none 0 0, .slice none 0 0]) 56, .val [3] (fun xs => .agg #[.int .i64 5, .string ⟨#[]⟩, .int .i64 0, .int .i64 24, .int .i64 0, .string ⟨#[]⟩, .slice (some ⟨h, 0, none⟩) 1 1, .int .i64 0, .int .i64 0, .string ⟨#[]⟩, .slice none 0 0, xs.getD 0 undef, .slice none 0 0]), .val [] (fun _ => .agg #[.int .i64 3, .int .i64 0, .string ⟨#[120]⟩, .slice none 0 0]), .val [] (fun _ => .agg #[.int .i64 7, .string ⟨#[]⟩, .int .i64 0, .int .i64 3, .int .i64 0, .string ⟨#[120]⟩, .slice none 0 0, .int .i64 0, .int .i64 0, .string ⟨#[]⟩, .slice none 0 0, .slice none 0 0, .slice none 0 0]), .blk 2 [3] (fun xs => #[.int .i64 5, .string ⟨#[]⟩, .int .i64 0, .int .i64 24, .int .i64 0, .string ⟨#[]⟩, .slice (some ⟨h, 0, none⟩) 1 1, .int .i64 0, .int .i64 0, .string ⟨#[]⟩, .slice none 0 0, xs.getD 0 undef, .slice none 0 0, .int .i64 7, .string ⟨#[]⟩, .int .i64 0, .int .i64 3, .int .i64 0, .string ⟨#[120]⟩, .slice none 0 0, .int .i64 0, .int .i64 0, .string ⟨#[]⟩, .slice none 0 0, .slice none 0 0, .slice none 0 0]) 56, .val [7] (fun xs => .agg #[.string ⟨#[112]⟩, .slice none 0 0, xs.getD 0 undef]), .cell #[.string ⟨#[]⟩, .slice none 0 0, .slice none 0 0] 25 10 [7] (fun xs => #[.string ⟨#[112]⟩, .slice none 0 0, xs.getD 0 undef]), .non] (fun ks ops l a w' => ∃ v0 v1 v2 v3 v4 v5 v6 v7 v8 v9 v10 : Value, a = { tmps := #[.bool false, .int .i64 2, .int .i64 0, .int .i64 0, .int .i64 10, .int .i64 0, .int .i64 11, .pointer (some ⟨h + 1, 0, none⟩), v9, undef, undef, undef, .tuple #[.int .i64 2, .int .i64 0], .agg #[.int .i64 3, .int .i64 0, .string ⟨#[120]⟩, .slice none 0 0], .slice (some ⟨q1, 0, none⟩) 1 1, .agg #[.int .i64 20, .int .i64 0, .string ⟨#[]⟩, .slice (some ⟨q1, 0, none⟩) 1 1], .agg #[.string ⟨#[120]⟩, .int .i64 1], .slice (some ⟨q1 + 1, 0, none⟩) 1 1, .tuple #[.int .i64 2, .int .i64 0], .int .i64 2, .int .i64 0, .tuple #[.int .i64 0, .int .i64 10], .agg #[.int .i64 1, .int .i64 1, .string ⟨#[]⟩, .slice none 0 0], .agg #[.int .i64 2, .int .i64 0, .string ⟨#[97]⟩, .slice none 0 0], .slice (some ⟨q4, 0, none⟩) 2 2, .agg #[.int .i64 4, .int .i64 0, .string ⟨#[]⟩, .slice (some ⟨q4, 0, none⟩) 2 2], .tuple #[.int .i64 0, .int .i64 10], .int .i64 0, .int .i64 10, .tuple #[.int .i64 0, .int .i64 11], .agg #[.int .i64 3, .int .i64 0, .string ⟨#[120]⟩, .slice none 0 0], .agg #[.int .i64 2, .int .i64 0, .string ⟨#[97]⟩, .slice none 0 0], .slice (some ⟨q7, 0, none⟩) 2 2, .agg #[.int .i64 4, .int .i64 0, .string ⟨#[]⟩, .slice (some ⟨q7, 0, none⟩) 2 2], .tuple #[.int .i64 0, .int .i64 11], .int .i64 0, .int .i64 11, .agg #[.int .i64 2, .int .i64 0, .string ⟨#[107]⟩, .slice none 0 0], .slice (some ⟨h, 0, none⟩) 1 1, .agg #[.int .i64 24, .int .i64 0, .string ⟨#[]⟩, .slice (some ⟨h, 0, none⟩) 1 1], v0, v1, v2, v3, v4, v5, v6, v7, v8, undef, undef, undef, undef, undef, undef, undef, undef, undef, undef, undef, undef, undef, undef, undef, undef, undef, undef, undef, undef, undef, undef, undef, undef, undef, undef, undef, undef, undef, undef, undef, undef, undef, undef, undef, undef, undef, undef, undef, undef, undef, undef, undef, undef, undef, undef, undef, undef, undef, undef, undef, undef, undef, undef, undef, undef, undef, undef, undef, undef, undef, undef, undef, undef, undef, undef, undef, undef, undef, undef, undef, undef, undef, undef, undef, undef, undef, undef, undef, undef, undef, undef, undef, undef, undef, undef, undef, undef], defers := [] } ∧ G ks ops W l w' [v0, v1, v2, v3, v4, v5, v6, v7, v8, v9, v10]) (by kernel_rfl) (by kernel_rfl) ?_ ?_ ?_
  · intro l hl
    exact ⟨undef, undef, undef, undef, undef, undef, undef, undef, undef, undef, undef, rfl, G.start _ _ hl _⟩
  · intro hok l a w' hI i hi h0 hall
    obtain ⟨v0, hI⟩ := hI
    obtain ⟨v1, hI⟩ := hI
    obtain ⟨v2, hI⟩ := hI
    obtain ⟨v3, hI⟩ := hI
    obtain ⟨v4, hI⟩ := hI
    obtain ⟨v5, hI⟩ := hI
    obtain ⟨v6, hI⟩ := hI
    obtain ⟨v7, hI⟩ := hI
    obtain ⟨v8, hI⟩ := hI
    obtain ⟨v9, hI⟩ := hI
    obtain ⟨v10, hI⟩ := hI
    obtain ⟨rfl, F⟩ := hI
    match i, hi, h0, hall with
    | 0, _, h0, hall =>
      have x := HX.out.below F.bel
      have x_0 : w'.cell? ⟨h + 1, 0, none⟩ = some (.int .i64 24) := x.cell 0
      have x_1 : w'.cell? ⟨h + 1, 1, none⟩ = some (.int .i64 0) := x.cell 1
      have x_2 : w'.cell? ⟨h + 1, 2, none⟩ = some (.string ⟨#[]⟩) := x.cell 2
      have x_3 : w'.cell? ⟨h + 1, 3, none⟩ = some (.slice (some ⟨h, 0, none⟩) 1 1) := x.cell 3
      clear x
      have HF := Lib.hid (show G _ _ _ _ _ [.agg #[.int .i64 24, .int .i64 0, .string ⟨#[]⟩, .slice (some ⟨h, 0, none⟩) 1 1], v1, v2, v3, v4, v5, v6, v7, v8, v9, v10] from G.val hok F h0 hall (x := .agg #[.int .i64 24, .int .i64 0, .string ⟨#[]⟩, .slice (some ⟨h, 0, none⟩) 1 1]) rfl (show 0 < 11 by decide) (Below.refl _ _) rfl)
      clear F hall h0
      refine wpOp_step (by rfl) (fun K' hK => ?_)
      have HKk := Lib.hid hK
      clear hK
      go_simp
      exact HKk.out _ _ ⟨.agg #[.int .i64 24, .int .i64 0, .string ⟨#[]⟩, .slice (some ⟨h, 0, none⟩) 1 1], v1, v2, v3, v4, v5, v6, v7, v8, v9, v10, rfl, HF.out⟩
    | 1, _, h0, hall =>
      have HF := Lib.hid (fun w2 (hb : Below w'.heap.size w' w2) => show G _ _ _ _ w2 [v0, .agg #[.int .i64 1, .int .i64 1, .string ⟨#[]⟩, .slice none 0 0], v2, v3, v4, v5, v6, v7, v8, v9, v10] from G.val hok F h0 hall (x := .agg #[.int .i64 1, .int .i64 1, .string ⟨#[]⟩, .slice none 0 0]) rfl (show 1 < 11 by decide) hb rfl)
      clear F hall h0
      refine wpOp_step (by rfl) (fun K' hK => ?_)
      have HKk := Lib.hid hK
      clear hK
      go_simp
      refine (HO.out _).mono ?_
      rintro er w2 ⟨rfl, hb⟩
      replace HF := Lib.hid (HF.out w2 hb)
      exact HKk.out _ _ ⟨v0, .agg #[.int .i64 1, .int .i64 1, .string ⟨#[]⟩, .slice none 0 0], v2, v3, v4, v5, v6, v7, v8, v9, v10, rfl, HF.out⟩
    | 2, _, h0, hall =>
      obtain rfl : v1 = .agg #[.int .i64 1, .int .i64 1, .string ⟨#[]⟩, .slice none 0 0] := F.fs 1 (hall 1 (by decide +kernel))
      have HF := Lib.hid (show G _ _ _ _ _ [v0, (.agg #[.int .i64 1, .int .i64 1, .string ⟨#[]⟩, .slice none 0 0]), .agg #[.int .i64 1, .string ⟨#[120]⟩, .int .i64 0, .int .i64 1, .int .i64 1, .string ⟨#[]⟩, .slice none 0 0, .int .i64 0, .int .i64 0, .string ⟨#[]⟩, .slice none 0 0, .slice none 0 0, .slice none 0 0], v3, v4, v5, v6, v7, v8, v9, v10] from G.val hok F h0 hall (x := .agg #[.int .i64 1, .string ⟨#[120]⟩, .int .i64 0, .int .i64 1, .int .i64 1, .string ⟨#[]⟩, .slice none 0 0, .int .i64 0, .int .i64 0, .string ⟨#[]⟩, .slice none 0 0, .slice none 0 0, .slice none 0 0]) rfl (show 2 < 11 by decide) (Below.refl _ _) rfl)
      clear F hall h0
      refine wpOp_step (by rfl) (fun K' hK => ?_)
      have HKk := Lib.hid hK
      clear hK
      go_simp
      exact HKk.out _ _ ⟨v0, (.agg #[.int .i64 1, .int .i64 1, .string ⟨#[]⟩, .slice none 0 0]), .agg #[.int .i64 1, .string ⟨#[120]⟩, .int .i64 0, .int .i64 1, .int .i64 1, .string ⟨#[]⟩, .slice none 0 0, .int .i64 0, .int .i64 0, .string ⟨#[]⟩, .slice none 0 0, .slice none 0 0, .slice none 0 0], v3, v4, v5, v6, v7, v8, v9, v10, rfl, HF.out⟩
    | 3, _, h0, hall =>
      obtain rfl : v2 = .agg #[.int .i64 1, .string ⟨#[120]⟩, .int .i64 0, .int .i64 1, .int .i64 1, .string ⟨#[]⟩, .slice none 0 0, .int .i64 0, .int .i64 0, .string ⟨#[]⟩, .slice none 0 0, .slice none 0 0, .slice none 0 0] := F.fs 2 (hall 2 (by decide +kernel))
      have HF := Lib.hid (show G _ _ _ _ _ [v0, v1, (.agg #[.int .i64 1, .string ⟨#[120]⟩, .int .i64 0, .int .i64 1, .int .i64 1, .string ⟨#[]⟩, .slice none 0 0, .int .i64 0, .int .i64 0, .string ⟨#[]⟩, .slice none 0 0, .slice none 0 0, .slice none 0 0]), .slice (some ⟨w'.heap.size, 0, none⟩) 1 1, v4, v5, v6, v7, v8, v9, v10] from G.blk hok F h0 hall rfl (show 3 < 11 by decide) rfl)
      clear F hall h0
      refine wpOp_step (by rfl) (fun K' hK => ?_)
      have HKk := Lib.hid hK
      clear hK
      go_simp
      exact HKk.out _ _ ⟨v0, v1, (.agg #[.int .i64 1, .string ⟨#[120]⟩, .int .i64 0, .int .i64 1, .int .i64 1, .string ⟨#[]⟩, .slice none 0 0, .int .i64 0, .int .i64 0, .string ⟨#[]⟩, .slice none 0 0, .slice none 0 0, .slice none 0 0]), .slice (some ⟨w'.heap.size, 0, none⟩) 1 1, v4, v5, v6, v7, v8, v9, v10, rfl, HF.out⟩
    | 4, _, h0, hall =>
      obtain rfl : v0 = .agg #[.int .i64 24, .int .i64 0, .string ⟨#[]⟩, .slice (some ⟨h, 0, none⟩) 1 1] := F.fs 0 (hall 0 (by decide +kernel))
      obtain ⟨g3, e3, x3⟩ : ∃ q, v3 = .slice (some ⟨q, 0, none⟩) 1 1 ∧ Bx w' q #[.int .i64 1, .string ⟨#[120]⟩, .int .i64 0, .int .i64 1, .int .i64 1, .string ⟨#[]⟩, .slice none 0 0, .int .i64 0, .int .i64 0, .string ⟨#[]⟩, .slice none 0 0, .slice none 0 0, .slice none 0 0] 56 := F.fs 3 (hall 3 (by decide +kernel))
      subst e3
      have HF := Lib.hid (show G _ _ _ _ _ [(.agg #[.int .i64 24, .int .i64 0, .string ⟨#[]⟩, .slice (some ⟨h, 0, none⟩) 1 1]), v1, v2, (.slice (some ⟨g3, 0, none⟩) 1 1), .agg #[.int .i64 5, .string ⟨#[]⟩, .int .i64 0, .int .i64 24, .int .i64 0, .string ⟨#[]⟩, .slice (some ⟨h, 0, none⟩) 1 1, .int .i64 0, .int .i64 0, .string ⟨#[]⟩, .slice none 0 0, .slice (some ⟨g3, 0, none⟩) 1 1, .slice none 0 0], v5, v6, v7, v8, v9, v10] from G.val hok F h0 hall (x := .agg #[.int .i64 5, .string ⟨#[]⟩, .int .i64 0, .int .i64 24, .int .i64 0, .string ⟨#[]⟩, .slice (some ⟨h, 0, none⟩) 1 1, .int .i64 0, .int .i64 0, .string ⟨#[]⟩, .slice none 0 0, .slice (some ⟨g3, 0, none⟩) 1 1, .slice none 0 0]) rfl (show 4 < 11 by decide) (Below.refl _ _) rfl)
      clear F hall h0
      refine wpOp_step (by rfl) (fun K' hK => ?_)
      have HKk := Lib.hid hK
      clear hK
      go_simp
      exact HKk.out _ _ ⟨(.agg #[.int .i64 24, .int .i64 0, .string ⟨#[]⟩, .slice (some ⟨h, 0, none⟩) 1 1]), v1, v2, (.slice (some ⟨g3, 0, none⟩) 1 1), .agg #[.int .i64 5, .string ⟨#[]⟩, .int .i64 0, .int .i64 24, .int .i64 0, .string ⟨#[]⟩, .slice (some ⟨h, 0, none⟩) 1 1, .int .i64 0, .int .i64 0, .string ⟨#[]⟩, .slice none 0 0, .slice (some ⟨g3, 0, none⟩) 1 1, .slice none 0 0], v5, v6, v7, v8, v9, v10, rfl, HF.out⟩
    | 5, _, h0, hall =>
      have HF := Lib.hid (fun w2 (hb : Below w'.heap.size w' w2) => show G _ _ _ _ w2 [v0, v1, v2, v3, v4, .agg #[.int .i64 3, .int .i64 0, .string ⟨#[120]⟩, .slice none 0 0], v6, v7, v8, v9, v10] from G.val hok F h0 hall (x := .agg #[.int .i64 3, .int .i64 0, .string ⟨#[120]⟩, .slice none 0 0]) rfl (show 5 < 11 by decide) hb rfl)
      clear F hall h0
      refine wpOp_step (by rfl) (fun K' hK => ?_)
      have HKk := Lib.hid hK
      clear hK
      go_simp
      refine (HNx.out _).mono ?_
      rintro er w2 ⟨rfl, hb⟩
      replace HF := Lib.hid (HF.out w2 hb)
      exact HKk.out _ _ ⟨v0, v1, v2, v3, v4, .agg #[.int .i64 3, .int .i64 0, .string ⟨#[120]⟩, .slice none 0 0], v6, v7, v8, v9, v10, rfl, HF.out⟩
    | 6, _, h0, hall =>
      obtain rfl : v5 = .agg #[.int .i64 3, .int .i64 0, .string ⟨#[120]⟩, .slice none 0 0] := F.fs 5 (hall 5 (by decide +kernel))
      have HF := Lib.hid (show G _ _ _ _ _ [v0, v1, v2, v3, v4, (.agg #[.int .i64 3, .int .i64 0, .string ⟨#[120]⟩, .slice none 0 0]), .agg #[.int .i64 7, .string ⟨#[]⟩, .int .i64 0, .int .i64 3, .int .i64 0, .string ⟨#[120]⟩, .slice none 0 0, .int .i64 0, .int .i64 0, .string ⟨#[]⟩, .slice none 0 0, .slice none 0 0, .slice none 0 0], v7, v8, v9, v10] from G.val hok F h0 hall (x := .agg #[.int .i64 7, .string ⟨#[]⟩, .int .i64 0, .int .i64 3, .int .i64 0, .string ⟨#[120]⟩, .slice none 0 0, .int .i64 0, .int .i64 0, .string ⟨#[]⟩, .slice none 0 0, .slice none 0 0, .slice none 0 0]) rfl (show 6 < 11 by decide) (Below.refl _ _) rfl)
      clear F hall h0
      refine wpOp_step (by rfl) (fun K' hK => ?_)
      have HKk := Lib.hid hK
      clear hK
      go_simp
      exact HKk.out _ _ ⟨v0, v1, v2, v3, v4, (.agg #[.int .i64 3, .int .i64 0, .string ⟨#[120]⟩, .slice none 0 0]), .agg #[.int .i64 7, .string ⟨#[]⟩, .int .i64 0, .int .i64 3, .int .i64 0, .string ⟨#[120]⟩, .slice none 0 0, .int .i64 0, .int .i64 0, .string ⟨#[]⟩, .slice none 0 0, .slice none 0 0, .slice none 0 0], v7, v8, v9, v10, rfl, HF.out⟩
    | 7, _, h0, hall =>
      obtain ⟨g3, e3, x3⟩ : ∃ q, v3 = .slice (some ⟨q, 0, none⟩) 1 1 ∧ Bx w' q #[.int .i64 1, .string ⟨#[120]⟩, .int .i64 0, .int .i64 1, .int .i64 1, .string ⟨#[]⟩, .slice none 0 0, .int .i64 0, .int .i64 0, .string ⟨#[]⟩, .slice none 0 0, .slice none 0 0, .slice none 0 0] 56 := F.fs 3 (F.cl 4 (hall 4 (by decide +kernel)) 3 (by decide +kernel))
      subst e3
      obtain rfl : v4 = .agg #[.int .i64 5, .string ⟨#[]⟩, .int .i64 0, .int .i64 24, .int .i64 0, .string ⟨#[]⟩, .slice (some ⟨h, 0, none⟩) 1 1, .int .i64 0, .int .i64 0, .string ⟨#[]⟩, .slice none 0 0, .slice (some ⟨g3, 0, none⟩) 1 1, .slice none 0 0] := F.fs 4 (hall 4 (by decide +kernel))
      obtain rfl : v6 = .agg #[.int .i64 7, .string ⟨#[]⟩, .int .i64 0, .int .i64 3, .int .i64 0, .string ⟨#[120]⟩, .slice none 0 0, .int .i64 0, .int .i64 0, .string ⟨#[]⟩, .slice none 0 0, .slice none 0 0, .slice none 0 0] := F.fs 6 (hall 6 (by decide +kernel))
      have HF := Lib.hid (show G _ _ _ _ _ [v0, v1, v2, (.slice (some ⟨g3, 0, none⟩) 1 1), (.agg #[.int .i64 5, .string ⟨#[]⟩, .int .i64 0, .int .i64 24, .int .i64 0, .string ⟨#[]⟩, .slice (some ⟨h, 0, none⟩) 1 1, .int .i64 0, .int .i64 0, .string ⟨#[]⟩, .slice none 0 0, .slice (some ⟨g3, 0, none⟩) 1 1, .slice none 0 0]), v5, (.agg #[.int .i64 7, .string ⟨#[]⟩, .int .i64 0, .int .i64 3, .int .i64 0, .string ⟨#[120]⟩, .slice none 0 0, .int .i64 0, .int .i64 0, .string ⟨#[]⟩, .slice none 0 0, .slice none 0 0, .slice none 0 0]), .slice (some ⟨w'.heap.size, 0, none⟩) 2 2, v8, v9, v10] from G.blk hok F h0 hall rfl (show 7 < 11 by decide) rfl)
      clear F hall h0
      refine wpOp_step (by rfl) (fun K' hK => ?_)
      have HKk := Lib.hid hK
      clear hK
      go_simp
      exact HKk.out _ _ ⟨v0, v1, v2, (.slice (some ⟨g3, 0, none⟩) 1 1), (.agg #[.int .i64 5, .string ⟨#[]⟩, .int .i64 0, .int .i64 24, .int .i64 0, .string ⟨#[]⟩, .slice (some ⟨h, 0, none⟩) 1 1, .int .i64 0, .int .i64 0, .string ⟨#[]⟩, .slice none 0 0, .slice (some ⟨g3, 0, none⟩) 1 1, .slice none 0 0]), v5, (.agg #[.int .i64 7, .string ⟨#[]⟩, .int .i64 0, .int .i64 3, .int .i64 0, .string ⟨#[120]⟩, .slice none 0 0, .int .i64 0, .int .i64 0, .string ⟨#[]⟩, .slice none 0 0, .slice none 0 0, .slice none 0 0]), .slice (some ⟨w'.heap.size, 0, none⟩) 2 2, v8, v9, v10, rfl, HF.out⟩
    | 8, _, h0, hall =>
      obtain ⟨g3, e3, x3⟩ : ∃ q, v3 = .slice (some ⟨q, 0, none⟩) 1 1 ∧ Bx w' q #[.int .i64 1, .string ⟨#[120]⟩, .int .i64 0, .int .i64 1, .int .i64 1, .string ⟨#[]⟩, .slice none 0 0, .int .i64 0, .int .i64 0, .string ⟨#[]⟩, .slice none 0 0, .slice none 0 0, .slice none 0 0] 56 := F.fs 3 (F.cl 4 (F.cl 7 (hall 7 (by decide +kernel)) 4 (by decide +kernel)) 3 (by decide +kernel))
      subst e3
      obtain ⟨g7, e7, x7⟩ : ∃ q, v7 = .slice (some ⟨q, 0, none⟩) 2 2 ∧ Bx w' q #[.int .i64 5, .string ⟨#[]⟩, .int .i64 0, .int .i64 24, .int .i64 0, .string ⟨#[]⟩, .slice (some ⟨h, 0, none⟩) 1 1, .int .i64 0, .int .i64 0, .string ⟨#[]⟩, .slice none 0 0, .slice (some ⟨g3, 0, none⟩) 1 1, .slice none 0 0, .int .i64 7, .string ⟨#[]⟩, .int .i64 0, .int .i64 3, .int .i64 0, .string ⟨#[120]⟩, .slice none 0 0, .int .i64 0, .int .i64 0, .string ⟨#[]⟩, .slice none 0 0, .slice none 0 0, .slice none 0 0] 56 := F.fs 7 (hall 7 (by decide +kernel))
      subst e7
      have HF := Lib.hid (show G _ _ _ _ _ [v0, v1, v2, (.slice (some ⟨g3, 0, none⟩) 1 1), v4, v5, v6, (.slice (some ⟨g7, 0, none⟩) 2 2), .agg #[.string ⟨#[112]⟩, .slice none 0 0, .slice (some ⟨g7, 0, none⟩) 2 2], v9, v10] from G.val hok F h0 hall (x := .agg #[.string ⟨#[112]⟩, .slice none 0 0, .slice (some ⟨g7, 0, none⟩) 2 2]) rfl (show 8 < 11 by decide) (Below.refl _ _) rfl)
      clear F hall h0
      refine wpOp_step (by rfl) (fun K' hK => ?_)
      have HKk := Lib.hid hK
      clear hK
      go_simp
      exact HKk.out _ _ ⟨v0, v1, v2, (.slice (some ⟨g3, 0, none⟩) 1 1), v4, v5, v6, (.slice (some ⟨g7, 0, none⟩) 2 2), .agg #[.string ⟨#[112]⟩, .slice none 0 0, .slice (some ⟨g7, 0, none⟩) 2 2], v9, v10, rfl, HF.out⟩
    | 9, _, h0, hall =>
      have HF := Lib.hid (show G _ _ _ _ _ [v0, v1, v2, v3, v4, v5, v6, v7, v8, .pointer (some ⟨w'.heap.size, 0, none⟩), v10] from G.cell hok F h0 hall rfl (show 9 < 11 by decide))
      clear F hall h0
      refine wpOp_step (by rfl) (fun K' hK => ?_)
      have HKk := Lib.hid hK
      clear hK
      go_simp
      exact HKk.out _ _ ⟨v0, v1, v2, v3, v4, v5, v6, v7, v8, .pointer (some ⟨w'.heap.size, 0, none⟩), v10, rfl, HF.out⟩
    | 10, _, h0, hall =>
      obtain ⟨g3, e3, x3⟩ : ∃ q, v3 = .slice (some ⟨q, 0, none⟩) 1 1 ∧ Bx w' q #[.int .i64 1, .string ⟨#[120]⟩, .int .i64 0, .int .i64 1, .int .i64 1, .string ⟨#[]⟩, .slice none 0 0, .int .i64 0, .int .i64 0, .string ⟨#[]⟩, .slice none 0 0, .slice none 0 0, .slice none 0 0] 56 := F.fs 3 (F.cl 4 (F.cl 7 (F.cl 8 (hall 8 (by decide +kernel)) 7 (by decide +kernel)) 4 (by decide +kernel)) 3 (by decide +kernel))
      subst e3
      obtain ⟨g7, e7, x7⟩ : ∃ q, v7 = .slice (some ⟨q, 0, none⟩) 2 2 ∧ Bx w' q #[.int .i64 5, .string ⟨#[]⟩, .int .i64 0, .int .i64 24, .int .i64 0, .string ⟨#[]⟩, .slice (some ⟨h, 0, none⟩) 1 1, .int .i64 0, .int .i64 0, .string ⟨#[]⟩, .slice none 0 0, .slice (some ⟨g3, 0, none⟩) 1 1, .slice none 0 0, .int .i64 7, .string ⟨#[]⟩, .int .i64 0, .int .i64 3, .int .i64 0, .string ⟨#[120]⟩, .slice none 0 0, .int .i64 0, .int .i64 0, .string ⟨#[]⟩, .slice none 0 0, .slice none 0 0, .slice none 0 0] 56 := F.fs 7 (F.cl 8 (hall 8 (by decide +kernel)) 7 (by decide +kernel))
      subst e7
      obtain rfl : v8 = .agg #[.string ⟨#[112]⟩, .slice none 0 0, .slice (some ⟨g7, 0, none⟩) 2 2] := F.fs 8 (hall 8 (by decide +kernel))
      obtain ⟨g9, e9, hz, hx, _⟩ : ∃ q, v9 = .pointer (some ⟨q, 0, none⟩) ∧ W.heap.size ≤ q ∧ (¬ On l 10 → Bx w' q #[.string ⟨#[]⟩, .slice none 0 0, .slice none 0 0] 25) ∧ (On l 10 → Bx w' q #[.string ⟨#[112]⟩, .slice none 0 0, .slice (some ⟨g7, 0, none⟩) 2 2] 25) := F.fs 9 (hall 9 (by decide +kernel))
      subst e9
      have hg := hx (off_of h0)
      have x_0 := hg.cell 0
      have x_1 := hg.cell 1
      have x_2 := hg.cell 2
      have y_0 := hg.free 0
      have y_1 := hg.free 1
      have y_2 := hg.free 2
      simp at x_0 x_1 x_2
      have HF := Lib.hid (show G _ _ _ _ (((w'.setCell ⟨g9, 0, none⟩ (.string ⟨#[112]⟩)).setCell ⟨g9, 1, none⟩ (.slice none 0 0)).setCell ⟨g9, 2, none⟩ (.slice (some ⟨g7, 0, none⟩) 2 2)) [v0, v1, v2, (.slice (some ⟨g3, 0, none⟩) 1 1), v4, v5, v6, (.slice (some ⟨g7, 0, none⟩) 2 2), (.agg #[.string ⟨#[112]⟩, .slice none 0 0, .slice (some ⟨g7, 0, none⟩) 2 2]), (.pointer (some ⟨g9, 0, none⟩)), v10] from G.store hok F h0 hall (c := 9) (g := g9) rfl rfl (set3_below F.bel hz) (fun g' hne => set3_keep hne) (set3_bx hg))
      clear F hall h0
      refine wpOp_step (by rfl) (fun K' hK => ?_)
      have HKk := Lib.hid hK
      clear hK
      go_simp
      exact HKk.out _ _ ⟨v0, v1, v2, (.slice (some ⟨g3, 0, none⟩) 1 1), v4, v5, v6, (.slice (some ⟨g7, 0, none⟩) 2 2), (.agg #[.string ⟨#[112]⟩, .slice none 0 0, .slice (some ⟨g7, 0, none⟩) 2 2]), (.pointer (some ⟨g9, 0, none⟩)), v10, rfl, HF.out⟩
  · intro l a w' hI hall
    obtain ⟨v0, hI⟩ := hI
    obtain ⟨v1, hI⟩ := hI
    obtain ⟨v2, hI⟩ := hI
    obtain ⟨v3, hI⟩ := hI
    obtain ⟨v4, hI⟩ := hI
    obtain ⟨v5, hI⟩ := hI
    obtain ⟨v6, hI⟩ := hI
    obtain ⟨v7, hI⟩ := hI
    obtain ⟨v8, hI⟩ := hI
    obtain ⟨v9, hI⟩ := hI
    obtain ⟨v10, hI⟩ := hI
    obtain ⟨rfl, F⟩ := hI
    obtain ⟨g3, e3, x3⟩ : ∃ q, v3 = .slice (some ⟨q, 0, none⟩) 1 1 ∧ Bx w' q #[.int .i64 1, .string ⟨#[120]⟩, .int .i64 0, .int .i64 1, .int .i64 1, .string ⟨#[]⟩, .slice none 0 0, .int .i64 0, .int .i64 0, .string ⟨#[]⟩, .slice none 0 0, .slice none 0 0, .slice none 0 0] 56 := F.fs 3 (hall 3 (by decide +kernel))
    subst e3
    obtain ⟨g7, e7, x7⟩ : ∃ q, v7 = .slice (some ⟨q, 0, none⟩) 2 2 ∧ Bx w' q #[.int .i64 5, .string ⟨#[]⟩, .int .i64 0, .int .i64 24, .int .i64 0, .string ⟨#[]⟩, .slice (some ⟨h, 0, none⟩) 1 1, .int .i64 0, .int .i64 0, .string ⟨#[]⟩, .slice none 0 0, .slice (some ⟨g3, 0, none⟩) 1 1, .slice none 0 0, .int .i64 7, .string ⟨#[]⟩, .int .i64 0, .int .i64 3, .int .i64 0, .string ⟨#[120]⟩, .slice none 0 0, .int .i64 0, .int .i64 0, .string ⟨#[]⟩, .slice none 0 0, .slice none 0 0, .slice none 0 0] 56 := F.fs 7 (hall 7 (by decide +kernel))
    subst e7
    obtain ⟨g9, e9, _, _, hx⟩ : ∃ q, v9 = .pointer (some ⟨q, 0, none⟩) ∧ W.heap.size ≤ q ∧ (¬ On l 10 → Bx w' q #[.string ⟨#[]⟩, .slice none 0 0, .slice none 0 0] 25) ∧ (On l 10 → Bx w' q #[.string ⟨#[112]⟩, .slice none 0 0, .slice (some ⟨g7, 0, none⟩) 2 2] 25) := F.fs 9 (hall 9 (by decide +kernel))
    subst e9
    exact hQ g9 g7 g3 w' F.bel (hx (hall 10 (by decide +kernel))) x7 x3 _ _ _ _ _ _ _ _ _
end Go.Proofs.YtgjnddjpinhkgaaDoor.Y
namespace Go.Proofs.YtgjnddjpinhkgaaDoor.Y
open Go.RowKit
open L (Str isName prt size_len below_2 below_box ret_bool ret_int eql_eq bytes_eq)
open A (Ex St Pm Pr V arity vE vEs absent exV exO exV_mk Bx okE okEs cE cEs PmsAt StrsAt PrIn OkP prV prO names valE ExsAt ExAt StsAt StAt Bodies)
open P (G Kd On off_of wp_region_G)
theorem call_1 {w : World} (ht : Tb w) : Calls Tryd.prog 30 #[.agg #[.int .i64 20, .int .i64 0, .string ⟨#[]⟩, .slice (some ⟨w.heap.size, 0, none⟩) 1 1], .slice (some ⟨w.heap.size + 1, 0, none⟩) 1 1] ((w.alloc (.cells #[.int .i64 3, .int .i64 0, .string ⟨#[120]⟩, .slice none 0 0] 52)).alloc (.cells #[.string ⟨#[120]⟩, .int .i64 1] 40))
    fun e' w' => e' = .returned (.tuple #[.int .i64 2, .int .i64 0]) ∧ Below w.heap.size w w' := by
  have hb1 := below_box w (.cells #[.int .i64 3, .int .i64 0, .string ⟨#[120]⟩, .slice none 0 0] 52)
  have hx1 := Bx.new w #[.int .i64 3, .int .i64 0, .string ⟨#[120]⟩, .slice none 0 0] 52
  have hb2 := below_box (w.alloc (.cells #[.int .i64 3, .int .i64 0, .string ⟨#[120]⟩, .slice none 0 0] 52)) (.cells #[.string ⟨#[120]⟩, .int .i64 1] 40)
  have hx2 := Bx.new (w.alloc (.cells #[.int .i64 3, .int .i64 0, .string ⟨#[120]⟩, .slice none 0 0] 52)) #[.string ⟨#[120]⟩, .int .i64 1] 40
  have z1 : (w.alloc (.cells #[.int .i64 3, .int .i64 0, .string ⟨#[120]⟩, .slice none 0 0] 52)).heap.size = w.heap.size + 1 := by simp
  rw [z1] at hx2
  have := oOf_any e1 (some ⟨w.heap.size, 0, none⟩) 1 [x1] (some ⟨w.heap.size + 1, 0, none⟩) 1 ok_e1 sz_e1 ov_1 _ ((ht.below hb1).below hb2) (kids_l1 (hx1.below hb2)) (Or.inr ⟨_, 0, rfl, fun j hj => by
    have hj0 : j = 0 := by have : j < 1 := hj; omega
    subst hj0
    exact ⟨hx2.cell 0, hx2.cell 1⟩⟩)
  rw [of_e1] at this
  exact this.mono fun e' w' h => ⟨h.1, below_2 (below_2 hb1 hb2) h.2⟩
theorem call_2 {w : World} (ht : Tb w) : Calls Tryd.prog 30 #[.agg #[.int .i64 4, .int .i64 0, .string ⟨#[]⟩, .slice (some ⟨w.heap.size, 0, none⟩) 2 2], .slice none 0 0] (w.alloc (.cells #[.int .i64 1, .int .i64 1, .string ⟨#[]⟩, .slice none 0 0, .int .i64 2, .int .i64 0, .string ⟨#[97]⟩, .slice none 0 0] 52))
    fun e' w' => e' = .returned (.tuple #[.int .i64 0, .int .i64 10]) ∧ Below w.heap.size w w' := by
  have hb1 := below_box w (.cells #[.int .i64 1, .int .i64 1, .string ⟨#[]⟩, .slice none 0 0, .int .i64 2, .int .i64 0, .string ⟨#[97]⟩, .slice none 0 0] 52)
  have hx1 := Bx.new w #[.int .i64 1, .int .i64 1, .string ⟨#[]⟩, .slice none 0 0, .int .i64 2, .int .i64 0, .string ⟨#[97]⟩, .slice none 0 0] 52
  have := oOf_any e2 (some ⟨w.heap.size, 0, none⟩) 2 [] none 0 ok_e2 sz_e2 ov_0 _ (ht.below hb1) (kids_l2 hx1) (Or.inl rfl)
  rw [of_e2] at this
  exact this.mono fun e' w' h => ⟨h.1, below_2 hb1 h.2⟩
theorem call_3 {w : World} (ht : Tb w) : Calls Tryd.prog 30 #[.agg #[.int .i64 4, .int .i64 0, .string ⟨#[]⟩, .slice (some ⟨w.heap.size, 0, none⟩) 2 2], .slice none 0 0] (w.alloc (.cells #[.int .i64 3, .int .i64 0, .string ⟨#[120]⟩, .slice none 0 0, .int .i64 2, .int .i64 0, .string ⟨#[97]⟩, .slice none 0 0] 52))
    fun e' w' => e' = .returned (.tuple #[.int .i64 0, .int .i64 11]) ∧ Below w.heap.size w w' := by
  have hb1 := below_box w (.cells #[.int .i64 3, .int .i64 0, .string ⟨#[120]⟩, .slice none 0 0, .int .i64 2, .int .i64 0, .string ⟨#[97]⟩, .slice none 0 0] 52)
  have hx1 := Bx.new w #[.int .i64 3, .int .i64 0, .string ⟨#[120]⟩, .slice none 0 0, .int .i64 2, .int .i64 0, .string ⟨#[97]⟩, .slice none 0 0] 52
  have := oOf_any e3 (some ⟨w.heap.size, 0, none⟩) 2 [] none 0 ok_e3 sz_e3 ov_0 _ (ht.below hb1) (kids_l2 hx1) (Or.inl rfl)
  rw [of_e3] at this
  exact this.mono fun e' w' h => ⟨h.1, below_2 hb1 h.2⟩
theorem st_at {F : World} {g i : Nat} {o mx : Int} {nm : ByteArray} {a b : Ex} {bd el : List St} {a5 a6 : Option Addr} {c5 c6 : Nat} (h0 : F.cell? ⟨g, i, none⟩ = some (.int .i64 o)) (h1 : F.cell? ⟨g, i + 1, none⟩ = some (.string nm)) (h2 : F.cell? ⟨g, i + 2, none⟩ = some (.int .i64 mx))
    (h3 : ExAt F a g (i + 3)) (h4 : ExAt F b g (i + 7)) (h5 : F.cell? ⟨g, i + 11, none⟩ = some (.slice a5 bd.length c5)) (k5 : Bodies F a5 bd) (h6 : F.cell? ⟨g, i + 12, none⟩ = some (.slice a6 el.length c6)) (k6 : Bodies F a6 el) : StAt F (.mk o nm mx a b bd el) g i := by
  rw [StAt]
  exact ⟨h0, h1, h2, h3, h4, ⟨a5, c5, h5, k5⟩, ⟨a6, c6, h6, k6⟩⟩
theorem bodies_1 {F : World} {g : Nat} {s : St} (h : StAt F s g 0) : Bodies F (some ⟨g, 0, none⟩) [s] := Or.inr ⟨g, 0, rfl, by rw [StsAt, StsAt]; exact ⟨h, trivial⟩⟩
theorem has_at {F : World} {g i hh : Nat} (h0 : F.cell? ⟨g, i, none⟩ = some (.int .i64 24)) (h1 : F.cell? ⟨g, i + 1, none⟩ = some (.int .i64 0)) (h2 : F.cell? ⟨g, i + 2, none⟩ = some (.string ⟨#[]⟩)) (h3 : F.cell? ⟨g, i + 3, none⟩ = some (.slice (some ⟨hh, 0, none⟩) 1 1))
    (hk : Bx F hh #[.int .i64 2, .int .i64 0, .string ⟨#[107]⟩, .slice none 0 0] 52) : ExAt F hasE g i := by
  unfold hasE
  rw [ExAt]
  exact ⟨h0, h1, h2, _, _, h3, kids_l1 hk⟩
theorem in_p {F : World} {g7 g3 h : Nat} (h7 : Bx F g7 #[.int .i64 5, .string ⟨#[]⟩, .int .i64 0, .int .i64 24, .int .i64 0, .string ⟨#[]⟩, .slice (some ⟨h, 0, none⟩) 1 1, .int .i64 0, .int .i64 0, .string ⟨#[]⟩, .slice none 0 0, .slice (some ⟨g3, 0, none⟩) 1 1, .slice none 0 0, .int .i64 7, .string ⟨#[]⟩, .int .i64 0, .int .i64 3, .int .i64 0, .string ⟨#[120]⟩, .slice none 0 0, .int .i64 0, .int .i64 0, .string ⟨#[]⟩, .slice none 0 0, .slice none 0 0, .slice none 0 0] 56) (h3 : Bx F g3 #[.int .i64 1, .string ⟨#[120]⟩, .int .i64 0, .int .i64 1, .int .i64 1, .string ⟨#[]⟩, .slice none 0 0, .int .i64 0, .int .i64 0, .string ⟨#[]⟩, .slice none 0 0, .slice none 0 0, .slice none 0 0] 56) (hk : Bx F h #[.int .i64 2, .int .i64 0, .string ⟨#[107]⟩, .slice none 0 0] 52) : PrIn F pP none (some ⟨g7, 0, none⟩) := by
  refine ⟨Or.inl rfl, Or.inr ⟨g7, 0, rfl, ?_⟩⟩
  show StsAt F [_, _] g7 0
  rw [StsAt, StsAt, StsAt]
  exact ⟨st_at (h7.cell 0) (h7.cell 1) (h7.cell 2) (has_at (h7.cell 3) (h7.cell 4) (h7.cell 5) (h7.cell 6) hk) (at_lf (h7.cell 7) (h7.cell 8) (h7.cell 9) (h7.cell 10)) (h7.cell 11)
      (bodies_1 (st_at (h3.cell 0) (h3.cell 1) (h3.cell 2) (at_lf (h3.cell 3) (h3.cell 4) (h3.cell 5) (h3.cell 6)) (at_lf (h3.cell 7) (h3.cell 8) (h3.cell 9) (h3.cell 10)) (h3.cell 11) (Or.inl rfl) (h3.cell 12) (Or.inl rfl))) (h7.cell 12) (Or.inl rfl),
    st_at (h7.cell 13) (h7.cell 14) (h7.cell 15) (at_lf (h7.cell 16) (h7.cell 17) (h7.cell 18) (h7.cell 19)) (at_lf (h7.cell 20) (h7.cell 21) (h7.cell 22) (h7.cell 23)) (h7.cell 24) (Or.inl rfl) (h7.cell 25) (Or.inl rfl), trivial⟩
theorem in_q {F : World} {g1 g0 : Nat} (h1 : Bx F g1 #[.int .i64 6, .string ⟨#[105]⟩, .int .i64 2, .int .i64 1, .int .i64 1, .string ⟨#[]⟩, .slice none 0 0, .int .i64 1, .int .i64 1, .string ⟨#[]⟩, .slice none 0 0, .slice (some ⟨g0, 0, none⟩) 1 1, .slice none 0 0] 56) (h0 : Bx F g0 #[.int .i64 2, .string ⟨#[105]⟩, .int .i64 0, .int .i64 1, .int .i64 1, .string ⟨#[]⟩, .slice none 0 0, .int .i64 0, .int .i64 0, .string ⟨#[]⟩, .slice none 0 0, .slice none 0 0, .slice none 0 0] 56) : PrIn F qP none (some ⟨g1, 0, none⟩) := by
  refine ⟨Or.inl rfl, bodies_1 (st_at (h1.cell 0) (h1.cell 1) (h1.cell 2) (at_lf (h1.cell 3) (h1.cell 4) (h1.cell 5) (h1.cell 6)) (at_lf (h1.cell 7) (h1.cell 8) (h1.cell 9) (h1.cell 10)) (h1.cell 11)
      (bodies_1 (st_at (h0.cell 0) (h0.cell 1) (h0.cell 2) (at_lf (h0.cell 3) (h0.cell 4) (h0.cell 5) (h0.cell 6)) (at_lf (h0.cell 7) (h0.cell 8) (h0.cell 9) (h0.cell 10)) (h0.cell 11) (Or.inl rfl) (h0.cell 12) (Or.inl rfl))) (h1.cell 12) (Or.inl rfl))⟩
theorem in_r {F : World} {gp gb h : Nat} (hp : Bx F gp #[.string ⟨#[97]⟩, .int .i64 2] 40) (hb : Bx F gb #[.int .i64 1, .string ⟨#[98]⟩, .int .i64 0, .int .i64 24, .int .i64 0, .string ⟨#[]⟩, .slice (some ⟨h, 0, none⟩) 1 1, .int .i64 0, .int .i64 0, .string ⟨#[]⟩, .slice none 0 0, .slice none 0 0, .slice none 0 0] 56) (hk : Bx F h #[.int .i64 2, .int .i64 0, .string ⟨#[107]⟩, .slice none 0 0] 52) : PrIn F rP (some ⟨gp, 0, none⟩) (some ⟨gb, 0, none⟩) := by
  refine ⟨Or.inr ⟨gp, 0, rfl, fun j hj => ?_⟩, bodies_1 (st_at (hb.cell 0) (hb.cell 1) (hb.cell 2) (has_at (hb.cell 3) (hb.cell 4) (hb.cell 5) (hb.cell 6) hk) (at_lf (hb.cell 7) (hb.cell 8) (hb.cell 9) (hb.cell 10)) (hb.cell 11) (Or.inl rfl) (hb.cell 12) (Or.inl rfl))⟩
  have hj0 : j = 0 := by have : j < 1 := hj; omega
  subst hj0
  exact ⟨hp.cell 0, hp.cell 1⟩
theorem r_names : ∀ j (h : j < rP.params.length), rP.params[j].name.size ≤ 281474976710656 := fun j h => by
    have hj : j < 1 := h
    have hj0 : j = 0 := by omega
    subst hj0
    show (⟨#[97]⟩ : ByteArray).size ≤ _
    decide
theorem check_p {F : World} {h g9 g7 g3 n : Nat} (H : RB F h g9 g7 g3 n) : Calls Tryd.prog 12 #[.agg #[.string ⟨#[112]⟩, .slice none 0 0, .slice (some ⟨g7, 0, none⟩) 2 2]] F fun e w' => e = .returned (.int .i64 11) ∧ Below F.heap.size F w' := by
  have := oCheck_any pP (none) (some ⟨g7, 0, none⟩) 0 2 ok_pP sz_p (by decide) (fun j h => absurd h (Nat.not_lt_zero _)) (by decide) F H.tb (in_p H.p7 H.p3 H.hk)
  rw [chk_p] at this
  exact this
theorem check_q {F : World} {h g9 g7 g3 n : Nat} (H : RB F h g9 g7 g3 n) : Calls Tryd.prog 12 #[.agg #[.string ⟨#[113]⟩, .slice none 0 0, .slice (some ⟨n + 1, 0, none⟩) 1 1]] F fun e w' => e = .returned (.int .i64 7) ∧ Below F.heap.size F w' := by
  have := oCheck_any qP (none) (some ⟨n + 1, 0, none⟩) 0 1 ok_qP sz_q (by decide) (fun j h => absurd h (Nat.not_lt_zero _)) (by decide) F H.tb (in_q H.f H.s)
  rw [chk_q] at this
  exact this
theorem check_r {F : World} {h g9 g7 g3 n : Nat} (H : RB F h g9 g7 g3 n) : Calls Tryd.prog 12 #[.agg #[.string ⟨#[114]⟩, .slice (some ⟨n + 1 + 1 + 1, 0, none⟩) 1 1, .slice (some ⟨n + 1 + 1 + 1 + 1, 0, none⟩) 1 1]] F fun e w' => e = .returned (.int .i64 0) ∧ Below F.heap.size F w' := by
  have := oCheck_any rP (some ⟨n + 1 + 1 + 1, 0, none⟩) (some ⟨n + 1 + 1 + 1 + 1, 0, none⟩) 1 1 ok_rP sz_r (by decide) r_names (by decide) F H.tb (in_r H.pm H.b H.hk)
  rw [chk_r] at this
  exact this
theorem vars_r {F : World} {h g9 g7 g3 n : Nat} (H : RB F h g9 g7 g3 n) : Calls Tryd.prog 15 #[.agg #[.string ⟨#[114]⟩, .slice (some ⟨n + 1 + 1 + 1, 0, none⟩) 1 1, .slice (some ⟨n + 1 + 1 + 1 + 1, 0, none⟩) 1 1]] F (GivesV F [⟨⟨#[97]⟩, 2⟩, ⟨⟨#[98]⟩, 3⟩]) := by
  have := oVars_any rP (some ⟨n + 1 + 1 + 1, 0, none⟩) (some ⟨n + 1 + 1 + 1 + 1, 0, none⟩) 1 1 ok_rP sz_r (by decide) r_names (by decide) F H.tb (in_r H.pm H.b H.hk)
  rw [chk_r] at this
  exact this
theorem args_1 {F : World} {h g9 g7 g3 n : Nat} (H0 : RB F h g9 g7 g3 n) : Calls Tryd.prog 17 #[.agg #[.string ⟨#[114]⟩, .slice (some ⟨n + 1 + 1 + 1, 0, none⟩) 1 1, .slice (some ⟨n + 1 + 1 + 1 + 1, 0, none⟩) 1 1], .slice (some ⟨F.heap.size, 0, none⟩) 1 1] (F.alloc (.cells #[.int .i64 2, .int .i64 0, .string ⟨#[107]⟩] 35)) fun e w' => e = .returned (.int .i64 0) ∧ Below F.heap.size F w' := by
  have hb := below_box F (.cells #[.int .i64 2, .int .i64 0, .string ⟨#[107]⟩] 35)
  have hx := Bx.new F #[.int .i64 2, .int .i64 0, .string ⟨#[107]⟩] 35
  have H := H0.below hb
  have := oArgs_any rP (some ⟨n + 1 + 1 + 1, 0, none⟩) (some ⟨n + 1 + 1 + 1 + 1, 0, none⟩) 1 1 ok_rP sz_r (by decide) r_names (by decide) [⟨2, 0, ⟨#[107]⟩⟩] (some ⟨F.heap.size, 0, none⟩) 1 (by decide) (fun v hv => by rw [List.mem_singleton.1 hv]; decide) (F.alloc (.cells #[.int .i64 2, .int .i64 0, .string ⟨#[107]⟩] 35)) H.tb (in_r H.pm H.b H.hk) (Or.inr ⟨_, 0, rfl, fun j hj => by
    have hj' : j < 1 := hj
    have hj0 : j = 0 := by omega
    subst hj0
    exact ⟨hx.cell 0, hx.cell 1, hx.cell 2⟩⟩)
  rw [arg_1] at this
  exact this.mono fun e' w' h => ⟨h.1, below_2 hb h.2⟩
theorem args_2 {F : World} {h g9 g7 g3 n : Nat} (H0 : RB F h g9 g7 g3 n) : Calls Tryd.prog 17 #[.agg #[.string ⟨#[114]⟩, .slice (some ⟨n + 1 + 1 + 1, 0, none⟩) 1 1, .slice (some ⟨n + 1 + 1 + 1 + 1, 0, none⟩) 1 1], .slice none 0 0] F fun e w' => e = .returned (.int .i64 1) ∧ Below F.heap.size F w' := by
  have := oArgs_any rP (some ⟨n + 1 + 1 + 1, 0, none⟩) (some ⟨n + 1 + 1 + 1 + 1, 0, none⟩) 1 1 ok_rP sz_r (by decide) r_names (by decide) [] none 0 (by decide) (fun v hv => (nomatch hv)) F H0.tb (in_r H0.pm H0.b H0.hk) (Or.inl rfl)
  rw [arg_2] at this
  exact this
theorem args_3 {F : World} {h g9 g7 g3 n : Nat} (H0 : RB F h g9 g7 g3 n) : Calls Tryd.prog 17 #[.agg #[.string ⟨#[114]⟩, .slice (some ⟨n + 1 + 1 + 1, 0, none⟩) 1 1, .slice (some ⟨n + 1 + 1 + 1 + 1, 0, none⟩) 1 1], .slice (some ⟨F.heap.size, 0, none⟩) 1 1] (F.alloc (.cells #[.int .i64 1, .int .i64 0, .string ⟨#[]⟩] 35)) fun e w' => e = .returned (.int .i64 10) ∧ Below F.heap.size F w' := by
  have hb := below_box F (.cells #[.int .i64 1, .int .i64 0, .string ⟨#[]⟩] 35)
  have hx := Bx.new F #[.int .i64 1, .int .i64 0, .string ⟨#[]⟩] 35
  have H := H0.below hb
  have := oArgs_any rP (some ⟨n + 1 + 1 + 1, 0, none⟩) (some ⟨n + 1 + 1 + 1 + 1, 0, none⟩) 1 1 ok_rP sz_r (by decide) r_names (by decide) [⟨1, 0, ⟨#[]⟩⟩] (some ⟨F.heap.size, 0, none⟩) 1 (by decide) (fun v hv => by rw [List.mem_singleton.1 hv]; decide) (F.alloc (.cells #[.int .i64 1, .int .i64 0, .string ⟨#[]⟩] 35)) H.tb (in_r H.pm H.b H.hk) (Or.inr ⟨_, 0, rfl, fun j hj => by
    have hj' : j < 1 := hj
    have hj0 : j = 0 := by omega
    subst hj0
    exact ⟨hx.cell 0, hx.cell 1, hx.cell 2⟩⟩)
  rw [arg_3] at this
  exact this.mono fun e' w' h => ⟨h.1, below_2 hb h.2⟩
theorem chain {w : World} {h g9 g7 g3 : Nat} (ht : Tb w) (hk : Bx w h #[.int .i64 2, .int .i64 0, .string ⟨#[107]⟩, .slice none 0 0] 52) (h9 : Bx w g9 #[.string ⟨#[112]⟩, .slice none 0 0, .slice (some ⟨g7, 0, none⟩) 2 2] 25) (h7 : Bx w g7 #[.int .i64 5, .string ⟨#[]⟩, .int .i64 0, .int .i64 24, .int .i64 0, .string ⟨#[]⟩, .slice (some ⟨h, 0, none⟩) 1 1, .int .i64 0, .int .i64 0, .string ⟨#[]⟩, .slice none 0 0, .slice (some ⟨g3, 0, none⟩) 1 1, .slice none 0 0, .int .i64 7, .string ⟨#[]⟩, .int .i64 0, .int .i64 3, .int .i64 0, .string ⟨#[120]⟩, .slice none 0 0, .int .i64 0, .int .i64 0, .string ⟨#[]⟩, .slice none 0 0, .slice none 0 0, .slice none 0 0] 56) (h3 : Bx w g3 #[.int .i64 1, .string ⟨#[120]⟩, .int .i64 0, .int .i64 1, .int .i64 1, .string ⟨#[]⟩, .slice none 0 0, .int .i64 0, .int .i64 0, .string ⟨#[]⟩, .slice none 0 0, .slice none 0 0, .slice none 0 0] 56) : RB ((((((w.alloc (.cells #[.int .i64 2, .string ⟨#[105]⟩, .int .i64 0, .int .i64 1, .int .i64 1, .string ⟨#[]⟩, .slice none 0 0, .int .i64 0, .int .i64 0, .string ⟨#[]⟩, .slice none 0 0, .slice none 0 0, .slice none 0 0] 56)).alloc (.cells #[.int .i64 6, .string ⟨#[105]⟩, .int .i64 2, .int .i64 1, .int .i64 1, .string ⟨#[]⟩, .slice none 0 0, .int .i64 1, .int .i64 1, .string ⟨#[]⟩, .slice none 0 0, .slice (some ⟨w.heap.size, 0, none⟩) 1 1, .slice none 0 0] 56)).alloc (.cells #[.string ⟨#[113]⟩, .slice none 0 0, .slice (some ⟨w.heap.size + 1, 0, none⟩) 1 1] 25)).alloc (.cells #[.string ⟨#[97]⟩, .int .i64 2] 40)).alloc (.cells #[.int .i64 1, .string ⟨#[98]⟩, .int .i64 0, .int .i64 24, .int .i64 0, .string ⟨#[]⟩, .slice (some ⟨h, 0, none⟩) 1 1, .int .i64 0, .int .i64 0, .string ⟨#[]⟩, .slice none 0 0, .slice none 0 0, .slice none 0 0] 56)).alloc (.cells #[.string ⟨#[114]⟩, .slice (some ⟨w.heap.size + 1 + 1 + 1, 0, none⟩) 1 1, .slice (some ⟨w.heap.size + 1 + 1 + 1 + 1, 0, none⟩) 1 1] 25)) h g9 g7 g3 w.heap.size ∧ Below w.heap.size w ((((((w.alloc (.cells #[.int .i64 2, .string ⟨#[105]⟩, .int .i64 0, .int .i64 1, .int .i64 1, .string ⟨#[]⟩, .slice none 0 0, .int .i64 0, .int .i64 0, .string ⟨#[]⟩, .slice none 0 0, .slice none 0 0, .slice none 0 0] 56)).alloc (.cells #[.int .i64 6, .string ⟨#[105]⟩, .int .i64 2, .int .i64 1, .int .i64 1, .string ⟨#[]⟩, .slice none 0 0, .int .i64 1, .int .i64 1, .string ⟨#[]⟩, .slice none 0 0, .slice (some ⟨w.heap.size, 0, none⟩) 1 1, .slice none 0 0] 56)).alloc (.cells #[.string ⟨#[113]⟩, .slice none 0 0, .slice (some ⟨w.heap.size + 1, 0, none⟩) 1 1] 25)).alloc (.cells #[.string ⟨#[97]⟩, .int .i64 2] 40)).alloc (.cells #[.int .i64 1, .string ⟨#[98]⟩, .int .i64 0, .int .i64 24, .int .i64 0, .string ⟨#[]⟩, .slice (some ⟨h, 0, none⟩) 1 1, .int .i64 0, .int .i64 0, .string ⟨#[]⟩, .slice none 0 0, .slice none 0 0, .slice none 0 0] 56)).alloc (.cells #[.string ⟨#[114]⟩, .slice (some ⟨w.heap.size + 1 + 1 + 1, 0, none⟩) 1 1, .slice (some ⟨w.heap.size + 1 + 1 + 1 + 1, 0, none⟩) 1 1] 25)) := by
  obtain ⟨z1, e1⟩ : ∃ z, z = (w.alloc (.cells #[.int .i64 2, .string ⟨#[105]⟩, .int .i64 0, .int .i64 1, .int .i64 1, .string ⟨#[]⟩, .slice none 0 0, .int .i64 0, .int .i64 0, .string ⟨#[]⟩, .slice none 0 0, .slice none 0 0, .slice none 0 0] 56)) := ⟨_, rfl⟩
  have b1 : Below w.heap.size w z1 := by rw [e1]; exact below_box _ _
  have x1 : Bx z1 (w.heap.size) #[.int .i64 2, .string ⟨#[105]⟩, .int .i64 0, .int .i64 1, .int .i64 1, .string ⟨#[]⟩, .slice none 0 0, .int .i64 0, .int .i64 0, .string ⟨#[]⟩, .slice none 0 0, .slice none 0 0, .slice none 0 0] 56 := by rw [e1]; have := Bx.new w #[.int .i64 2, .string ⟨#[105]⟩, .int .i64 0, .int .i64 1, .int .i64 1, .string ⟨#[]⟩, .slice none 0 0, .int .i64 0, .int .i64 0, .string ⟨#[]⟩, .slice none 0 0, .slice none 0 0, .slice none 0 0] 56; exact this
  have s1 : z1.heap.size = w.heap.size + 1 := by rw [e1]; simp
  obtain ⟨z2, e2⟩ : ∃ z, z = (z1.alloc (.cells #[.int .i64 6, .string ⟨#[105]⟩, .int .i64 2, .int .i64 1, .int .i64 1, .string ⟨#[]⟩, .slice none 0 0, .int .i64 1, .int .i64 1, .string ⟨#[]⟩, .slice none 0 0, .slice (some ⟨w.heap.size, 0, none⟩) 1 1, .slice none 0 0] 56)) := ⟨_, rfl⟩
  have b2 : Below z1.heap.size z1 z2 := by rw [e2]; exact below_box _ _
  have x2 : Bx z2 (w.heap.size + 1) #[.int .i64 6, .string ⟨#[105]⟩, .int .i64 2, .int .i64 1, .int .i64 1, .string ⟨#[]⟩, .slice none 0 0, .int .i64 1, .int .i64 1, .string ⟨#[]⟩, .slice none 0 0, .slice (some ⟨w.heap.size, 0, none⟩) 1 1, .slice none 0 0] 56 := by rw [e2]; have := Bx.new z1 #[.int .i64 6, .string ⟨#[105]⟩, .int .i64 2, .int .i64 1, .int .i64 1, .string ⟨#[]⟩, .slice none 0 0, .int .i64 1, .int .i64 1, .string ⟨#[]⟩, .slice none 0 0, .slice (some ⟨w.heap.size, 0, none⟩) 1 1, .slice none 0 0] 56; rw [s1] at this; exact this
  have s2 : z2.heap.size = w.heap.size + 1 + 1 := by rw [e2]; simp [s1]
  obtain ⟨z3, e3⟩ : ∃ z, z = (z2.alloc (.cells #[.string ⟨#[113]⟩, .slice none 0 0, .slice (some ⟨w.heap.size + 1, 0, none⟩) 1 1] 25)) := ⟨_, rfl⟩
  have b3 : Below z2.heap.size z2 z3 := by rw [e3]; exact below_box _ _
  have x3 : Bx z3 (w.heap.size + 1 + 1) #[.string ⟨#[113]⟩, .slice none 0 0, .slice (some ⟨w.heap.size + 1, 0, none⟩) 1 1] 25 := by rw [e3]; have := Bx.new z2 #[.string ⟨#[113]⟩, .slice none 0 0, .slice (some ⟨w.heap.size + 1, 0, none⟩) 1 1] 25; rw [s2] at this; exact this
  have s3 : z3.heap.size = w.heap.size + 1 + 1 + 1 := by rw [e3]; simp [s2]
  obtain ⟨z4, e4⟩ : ∃ z, z = (z3.alloc (.cells #[.string ⟨#[97]⟩, .int .i64 2] 40)) := ⟨_, rfl⟩
  have b4 : Below z3.heap.size z3 z4 := by rw [e4]; exact below_box _ _
  have x4 : Bx z4 (w.heap.size + 1 + 1 + 1) #[.string ⟨#[97]⟩, .int .i64 2] 40 := by rw [e4]; have := Bx.new z3 #[.string ⟨#[97]⟩, .int .i64 2] 40; rw [s3] at this; exact this
  have s4 : z4.heap.size = w.heap.size + 1 + 1 + 1 + 1 := by rw [e4]; simp [s3]
  obtain ⟨z5, e5⟩ : ∃ z, z = (z4.alloc (.cells #[.int .i64 1, .string ⟨#[98]⟩, .int .i64 0, .int .i64 24, .int .i64 0, .string ⟨#[]⟩, .slice (some ⟨h, 0, none⟩) 1 1, .int .i64 0, .int .i64 0, .string ⟨#[]⟩, .slice none 0 0, .slice none 0 0, .slice none 0 0] 56)) := ⟨_, rfl⟩
  have b5 : Below z4.heap.size z4 z5 := by rw [e5]; exact below_box _ _
  have x5 : Bx z5 (w.heap.size + 1 + 1 + 1 + 1) #[.int .i64 1, .string ⟨#[98]⟩, .int .i64 0, .int .i64 24, .int .i64 0, .string ⟨#[]⟩, .slice (some ⟨h, 0, none⟩) 1 1, .int .i64 0, .int .i64 0, .string ⟨#[]⟩, .slice none 0 0, .slice none 0 0, .slice none 0 0] 56 := by rw [e5]; have := Bx.new z4 #[.int .i64 1, .string ⟨#[98]⟩, .int .i64 0, .int .i64 24, .int .i64 0, .string ⟨#[]⟩, .slice (some ⟨h, 0, none⟩) 1 1, .int .i64 0, .int .i64 0, .string ⟨#[]⟩, .slice none 0 0, .slice none 0 0, .slice none 0 0] 56; rw [s4] at this; exact this
  have s5 : z5.heap.size = w.heap.size + 1 + 1 + 1 + 1 + 1 := by rw [e5]; simp [s4]
  obtain ⟨z6, e6⟩ : ∃ z, z = (z5.alloc (.cells #[.string ⟨#[114]⟩, .slice (some ⟨w.heap.size + 1 + 1 + 1, 0, none⟩) 1 1, .slice (some ⟨w.heap.size + 1 + 1 + 1 + 1, 0, none⟩) 1 1] 25)) := ⟨_, rfl⟩
  have b6 : Below z5.heap.size z5 z6 := by rw [e6]; exact below_box _ _
  have x6 : Bx z6 (w.heap.size + 1 + 1 + 1 + 1 + 1) #[.string ⟨#[114]⟩, .slice (some ⟨w.heap.size + 1 + 1 + 1, 0, none⟩) 1 1, .slice (some ⟨w.heap.size + 1 + 1 + 1 + 1, 0, none⟩) 1 1] 25 := by rw [e6]; have := Bx.new z5 #[.string ⟨#[114]⟩, .slice (some ⟨w.heap.size + 1 + 1 + 1, 0, none⟩) 1 1, .slice (some ⟨w.heap.size + 1 + 1 + 1 + 1, 0, none⟩) 1 1] 25; rw [s5] at this; exact this
  have s6 : z6.heap.size = w.heap.size + 1 + 1 + 1 + 1 + 1 + 1 := by rw [e6]; simp [s5]
  rw [← e1, ← e2, ← e3, ← e4, ← e5, ← e6]
  have c5 := b6
  have c4 : Below z4.heap.size z4 z6 := below_2 b5 c5
  have c3 : Below z3.heap.size z3 z6 := below_2 b4 c4
  have c2 : Below z2.heap.size z2 z6 := below_2 b3 c3
  have c1 : Below z1.heap.size z1 z6 := below_2 b2 c2
  have c0 : Below w.heap.size w z6 := below_2 b1 c1
  exact ⟨⟨ht.below c0, hk.below c0, h9.below c0, h7.below c0, h3.below c0, x1.below c1, x2.below c2, x3.below c3, x4.below c4, x5.below c5, x6⟩, c0⟩
end Go.Proofs.YtgjnddjpinhkgaaDoor.Y
namespace Go.Proofs.YtgjnddjpinhkgaaDoor.Y
open Go.RowKit
open L (Str isName prt size_len below_2 below_box ret_bool ret_int eql_eq bytes_eq)
open A (Ex St Pm Pr V arity vE vEs absent exV exO exV_mk Bx okE okEs cE cEs PmsAt StrsAt PrIn OkP prV prO names valE ExsAt ExAt StsAt StAt Bodies)
open P (G Kd On off_of wp_region_G)
set_option maxHeartbeats 16000000 in
set_option maxRecDepth 1000000 in
theorem works_any (w : World) (ht : Tb w) : Calls Tryd.prog 11 #[] w fun e w' => e = .returned (.bool true) ∧ Below w.heap.size w w' := by
  have HT := Lib.hid ht
  have HNx := Lib.hid (lname_any ⟨#[120]⟩)
  have HTa := Lib.hid (ltext_any ⟨#[97]⟩)
  have HTk := Lib.hid (ltext_any ⟨#[107]⟩)
  have HO := Lib.hid lone_any
  clear ht
  go_enter Tryd.func11, Tryd.ntmps11
  go_wp2_with fail
  refine (HNx.out _).mono ?_; rintro e w1 ⟨rfl, hb1⟩
  have HB1 := Lib.hid hb1
  have HC1 := Lib.hid (call_1 (HT.out.below hb1))
  clear hb1
  go_wp2_with fail
  refine HC1.out.mono ?_; rintro e w2 ⟨rfl, hb2⟩
  have HB2 := Lib.hid (below_2 HB1.out hb2)
  clear hb2 HC1
  go_wp2_with fail
  refine (HO.out _).mono ?_; rintro e w3 ⟨rfl, hb3⟩
  have HB3 := Lib.hid (below_2 HB2.out hb3)
  clear hb3
  go_wp2_with fail
  refine (HTa.out _).mono ?_; rintro e w4 ⟨rfl, hb4⟩
  have HB4 := Lib.hid (below_2 HB3.out hb4)
  have HC2 := Lib.hid (call_2 (HT.out.below HB4.out))
  clear hb4
  go_wp2_with fail
  refine HC2.out.mono ?_; rintro e w5 ⟨rfl, hb5⟩
  have HB5 := Lib.hid (below_2 HB4.out hb5)
  clear hb5 HC2
  go_wp2_with fail
  refine (HNx.out _).mono ?_; rintro e w6 ⟨rfl, hb6⟩
  have HB6 := Lib.hid (below_2 HB5.out hb6)
  clear hb6
  go_wp2_with fail
  refine (HTa.out _).mono ?_; rintro e w7 ⟨rfl, hb7⟩
  have HB7 := Lib.hid (below_2 HB6.out hb7)
  have HC3 := Lib.hid (call_3 (HT.out.below HB7.out))
  clear hb7
  go_wp2_with fail
  refine HC3.out.mono ?_; rintro e w8 ⟨rfl, hb8⟩
  have HB8 := Lib.hid (below_2 HB7.out hb8)
  clear hb8 HC3
  go_wp2_with fail
  refine (HTk.out _).mono ?_; rintro e w9 ⟨rfl, hb9⟩
  have HB9 := Lib.hid (below_2 HB8.out hb9)
  clear hb9 HB1 HB2 HB3 HB4 HB5 HB6 HB7 HB8
  go_wp2_with fail
  have hbA := below_box w9 (.cells #[.int .i64 2, .int .i64 0, .string ⟨#[107]⟩, .slice none 0 0] 52)
  have hbW := below_box (w9.alloc (.cells #[.int .i64 2, .int .i64 0, .string ⟨#[107]⟩, .slice none 0 0] 52)) (.cells #[.int .i64 24, .int .i64 0, .string ⟨#[]⟩, .slice (some ⟨w9.heap.size, 0, none⟩) 1 1] 52)
  have hk0 := (Bx.new w9 #[.int .i64 2, .int .i64 0, .string ⟨#[107]⟩, .slice none 0 0] 52).below hbW
  have hk1 := Bx.new (w9.alloc (.cells #[.int .i64 2, .int .i64 0, .string ⟨#[107]⟩, .slice none 0 0] 52)) #[.int .i64 24, .int .i64 0, .string ⟨#[]⟩, .slice (some ⟨w9.heap.size, 0, none⟩) 1 1] 52
  rw [show (w9.alloc (.cells #[.int .i64 2, .int .i64 0, .string ⟨#[107]⟩, .slice none 0 0] 52)).heap.size = w9.heap.size + 1 by simp] at hk1
  have hb9W := below_2 HB9.out (below_2 hbA hbW)
  generalize ((w9.alloc (.cells #[.int .i64 2, .int .i64 0, .string ⟨#[107]⟩, .slice none 0 0] 52)).alloc (.cells #[.int .i64 24, .int .i64 0, .string ⟨#[]⟩, .slice (some ⟨w9.heap.size, 0, none⟩) 1 1] 52)) = W at *
  have HX := Lib.hid hk1
  have HK0 := Lib.hid hk0
  have HBW := Lib.hid hb9W
  clear hbA hbW hk0 hk1 hb9W
  refine regW5 (h := w9.heap.size) (q1 := w1.heap.size) (q4 := w4.heap.size) (q7 := w7.heap.size) HO HNx HX ?_
  intro g9 g7 g3 w10 hb10 hx9 hx7 hx3 u0 u1 u2 u3 u4 u5 u6 u7 u8
  have HB10 := Lib.hid hb10
  have HP9 := Lib.hid hx9
  have HP7 := Lib.hid hx7
  have HP3 := Lib.hid hx3
  clear hb10 hx9 hx7 hx3 HNx HTa HTk HB9
  go_wp2_with fail
  refine (HO.out _).mono ?_; rintro e w11 ⟨rfl, hb11⟩
  have HB11 := Lib.hid hb11
  clear hb11
  go_wp2_with fail
  refine (HO.out _).mono ?_; rintro e w12 ⟨rfl, hb12⟩
  have HB12 := Lib.hid (below_2 HB11.out hb12)
  clear hb12
  go_wp2_with fail
  refine (HO.out _).mono ?_; rintro e w13 ⟨rfl, hb13⟩
  have hb1D := below_2 HB12.out hb13
  clear hb13 HB11 HB12
  have hbZ := below_2 (below_2 (below_2 (below_box w13 (.cells #[.int .i64 2, .string ⟨#[105]⟩, .int .i64 0, .int .i64 1, .int .i64 1, .string ⟨#[]⟩, .slice none 0 0, .int .i64 0, .int .i64 0, .string ⟨#[]⟩, .slice none 0 0, .slice none 0 0, .slice none 0 0] 56)) (below_box _ (.cells #[.int .i64 6, .string ⟨#[105]⟩, .int .i64 2, .int .i64 1, .int .i64 1, .string ⟨#[]⟩, .slice none 0 0, .int .i64 1, .int .i64 1, .string ⟨#[]⟩, .slice none 0 0, .slice (some ⟨w13.heap.size, 0, none⟩) 1 1, .slice none 0 0] 56))) (below_box _ (.cells #[.string ⟨#[113]⟩, .slice none 0 0, .slice (some ⟨w13.heap.size + 1, 0, none⟩) 1 1] 25))) (below_box _ (.cells #[.string ⟨#[97]⟩, .int .i64 2] 40))
  have hxz := (HX.out.below (below_2 HB10.out hb1D)).below hbZ
  have c0 := hxz.cell 0
  have c1 := hxz.cell 1
  have c2 := hxz.cell 2
  have c3 := hxz.cell 3
  have hch := chain (h := w9.heap.size) (g9 := g9) (g7 := g7) (g3 := g3) (HT.out.below (below_2 HBW.out (below_2 HB10.out hb1D))) (HK0.out.below (below_2 HB10.out hb1D)) (HP9.out.below hb1D) (HP7.out.below hb1D) (HP3.out.below hb1D)
  have HBd := Lib.hid (below_2 (below_2 HBW.out (below_2 HB10.out hb1D)) hch.2)
  have HR := Lib.hid hch.1
  clear hch hxz hbZ hb1D HX HK0 HBW HB10 HP9 HP7 HP3
  go_wp2_with fail
  refine (vars_r HR.out).mono ?_; rintro e w14 ⟨p14, q14, rfl, hle, hpm, hb14⟩
  clear c0 c1 c2 c3 hle
  have HB14 := Lib.hid (below_2 HBd.out hb14)
  have HR1 := Lib.hid (HR.out.below hb14)
  clear hb14 HR HBd
  obtain hn | ⟨bv, iv, rfl, hcv⟩ := hpm
  · exact absurd hn (by simp)
  have y0 := (hcv 0 (by decide)).2
  have y1 := (hcv 1 (by decide)).1
  have y2 := (hcv 1 (by decide)).2
  simp only [List.getElem_cons_zero, List.getElem_cons_succ] at y0 y1 y2
  clear hcv
  generalize w13.heap.size = n at *
  have x0 := HR1.out.p9.cell 0
  have x1 := HR1.out.p9.cell 1
  have x2 := HR1.out.p9.cell 2
  go_wp2_with fail
  refine (check_p HR1.out).mono ?_; rintro e w15 ⟨rfl, hb⟩
  have HB15 := Lib.hid (below_2 HB14.out hb)
  have HR2 := Lib.hid (HR1.out.below hb)
  clear hb HR1 HB14 x0 x1 x2
  have x0 := HR2.out.q.cell 0
  have x1 := HR2.out.q.cell 1
  have x2 := HR2.out.q.cell 2
  go_wp2_with fail
  refine (check_q HR2.out).mono ?_; rintro e w16 ⟨rfl, hb⟩
  have HB16 := Lib.hid (below_2 HB15.out hb)
  have HR3 := Lib.hid (HR2.out.below hb)
  clear hb HR2 HB15 x0 x1 x2
  have x0 := HR3.out.r.cell 0
  have x1 := HR3.out.r.cell 1
  have x2 := HR3.out.r.cell 2
  go_wp2_with fail
  refine (check_r HR3.out).mono ?_; rintro e w17 ⟨rfl, hb⟩
  have HB17 := Lib.hid (below_2 HB16.out hb)
  have HR4 := Lib.hid (HR3.out.below hb)
  clear hb HR3 HB16 x0 x1 x2
  have x0 := HR4.out.r.cell 0
  have x1 := HR4.out.r.cell 1
  have x2 := HR4.out.r.cell 2
  go_wp2_with fail
  refine (args_1 HR4.out).mono ?_; rintro e w18 ⟨rfl, hb⟩
  have HB18 := Lib.hid (below_2 HB17.out hb)
  have HR5 := Lib.hid (HR4.out.below hb)
  clear hb HR4 HB17 x0 x1 x2
  have x0 := HR5.out.r.cell 0
  have x1 := HR5.out.r.cell 1
  have x2 := HR5.out.r.cell 2
  go_wp2_with fail
  refine (args_2 HR5.out).mono ?_; rintro e w19 ⟨rfl, hb⟩
  have HB19 := Lib.hid (below_2 HB18.out hb)
  have HR6 := Lib.hid (HR5.out.below hb)
  clear hb HR5 HB18 x0 x1 x2
  have x0 := HR6.out.r.cell 0
  have x1 := HR6.out.r.cell 1
  have x2 := HR6.out.r.cell 2
  go_wp2_with fail
  refine (args_3 HR6.out).mono ?_; rintro e w20 ⟨rfl, hb⟩
  have HB20 := Lib.hid (below_2 HB19.out hb)
  clear hb HR6 HB19 x0 x1 x2
  go_wp2_with fail
  go_ret
  exact ⟨rfl, HB20.out⟩
end Go.Proofs.YtgjnddjpinhkgaaDoor.Y
