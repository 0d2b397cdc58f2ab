/-
  The law package of layer 12: the examples: contract.
  The laws of layer 12: what an expression's operands make of it.
-/
import Derived.Test.YtgjnddjpinhkgaaM10
import Derived.Test.YtgjnddjpinhkgaaM08
import Derived.Test.YtgjnddjpinhkgaaQAOV
import Derived.Test.YtgjnddjpinhkgaaM06
namespace Go.Proofs.Ytgjnddjpinhkgaa.N
open Go.RowKit
open A (Ex St Pr exV exO exV_mk okE okEs okB okS cE cB Bx OkP PrIn prV exprs ExAt ExsAt StAt StsAt Bodies)
open L (below_2 below_box ret_bool)

def lf (o n : Int) (s : ByteArray) : Ex := .mk o n s []
def noE : Ex := lf 0 0 ⟨#[]⟩
def sumE : Ex := .mk 4 0 ⟨#[]⟩ [lf 1 1 ⟨#[]⟩, lf 1 2 ⟨#[]⟩]
def getE : Ex := .mk 22 0 ⟨#[]⟩ [lf 2 0 ⟨#[97]⟩]
def nowE : Ex := lf 25 0 ⟨#[]⟩
def rndE : Ex := .mk 4 0 ⟨#[]⟩ [lf 1 1 ⟨#[]⟩, lf 26 0 ⟨#[]⟩]
def exP : Pr := ⟨⟨#[112]⟩, [], [.mk 1 ⟨#[120]⟩ 0 rndE noE [] [], .mk 7 ⟨#[]⟩ 0 (lf 3 0 ⟨#[120]⟩) noE [] []]⟩
theorem first_ex : firstN exP = (26, 2, true) := by kernel_rfl
theorem pure_sum : pureE sumE = true := by kernel_rfl
theorem pure_get : pureE getE = false := by kernel_rfl
theorem pure_now : pureE nowE = false := by kernel_rfl
theorem reads_now : readsE nowE = false := by kernel_rfl
theorem reads_get : readsE getE = true := by kernel_rfl
theorem okE_lf (o n : Int) (s : ByteArray) (ho : -9223372036854775808 ≤ o ∧ o ≤ 9223372036854775807) (hn : -9223372036854775808 ≤ n ∧ n ≤ 9223372036854775807) (hs : s.size ≤ 1000000000000000) : okE (lf o n s) := by
  unfold lf
  rw [okE, okEs]
  exact ⟨ho, hn, hs, Nat.zero_le _, trivial⟩
theorem ok_sum : okE sumE := by
  unfold sumE
  rw [okE, okEs, okEs, okEs]
  exact ⟨by decide, by decide, by decide, by decide, okE_lf _ _ _ (by decide) (by decide) (by decide), okE_lf _ _ _ (by decide) (by decide) (by decide), trivial⟩
theorem ok_rnd : okE rndE := by
  unfold rndE
  rw [okE, okEs, okEs, okEs]
  exact ⟨by decide, by decide, by decide, by decide, okE_lf _ _ _ (by decide) (by decide) (by decide), okE_lf _ _ _ (by decide) (by decide) (by decide), trivial⟩
theorem ok_get : okE getE := by
  unfold getE
  rw [okE, okEs, okEs]
  exact ⟨by decide, by decide, by decide, by decide, okE_lf _ _ _ (by decide) (by decide) (by decide), trivial⟩
theorem ok_now : okE nowE := okE_lf _ _ _ (by decide) (by decide) (by decide)
theorem okB_no : okB [] := by rw [okB]; trivial
theorem ok_exP : OkP exP := by
  refine ⟨by decide, by decide, fun j h => absurd h (Nat.not_lt_zero _), by decide, ?_⟩
  show okB [_, _]
  rw [okB, okB, okB, okS, okS]
  exact ⟨⟨by decide, by decide, by decide, ok_rnd, okE_lf _ _ _ (by decide) (by decide) (by decide), by decide, okB_no, by decide, okB_no⟩, ⟨by decide, by decide, by decide, okE_lf _ _ _ (by decide) (by decide) (by decide), okE_lf _ _ _ (by decide) (by decide) (by decide), by decide, okB_no, by decide, okB_no⟩, trivial⟩
theorem sz_exP : cB exP.body ≤ 900000 := by decide +kernel
theorem at_lf {F : World} {g i : Nat} {o n : Int} {s : ByteArray} (h0 : F.cell? ⟨g, i, none⟩ = some (.int .i64 o)) (h1 : F.cell? ⟨g, i + 1, none⟩ = some (.int .i64 n)) (h2 : F.cell? ⟨g, i + 2, none⟩ = some (.string s)) (h3 : F.cell? ⟨g, i + 3, none⟩ = some (.slice none 0 0)) : ExAt F (lf o n s) g i :=
  ⟨h0, h1, h2, none, 0, h3, Or.inl rfl⟩
theorem kids_l1 {F : World} {g : Nat} {o n : Int} {s : ByteArray} (h : Bx F g #[.int .i64 o, .int .i64 n, .string s, .slice none 0 0] 24) : A.Kids F (some ⟨g, 0, none⟩) [lf o n s] :=
  Or.inr ⟨g, 0, rfl, by rw [ExsAt, ExsAt]; exact ⟨at_lf (h.cell 0) (h.cell 1) (h.cell 2) (h.cell 3), trivial⟩⟩
theorem kids_l2 {F : World} {g : Nat} {o n o' n' : Int} {s s' : ByteArray} (h : Bx F g #[.int .i64 o, .int .i64 n, .string s, .slice none 0 0, .int .i64 o', .int .i64 n', .string s', .slice none 0 0] 24) : A.Kids F (some ⟨g, 0, none⟩) [lf o n s, lf o' n' s'] :=
  Or.inr ⟨g, 0, rfl, by rw [ExsAt, ExsAt, ExsAt]; exact ⟨at_lf (h.cell 0) (h.cell 1) (h.cell 2) (h.cell 3), at_lf (h.cell 4) (h.cell 5) (h.cell 6) (h.cell 7), trivial⟩⟩
/-- what the examples' memory holds -/
structure EB (n : Nat) (F : World) : Prop where
  c0 : Bx F (n) #[.int .i64 1, .int .i64 1, .string ⟨#[]⟩, .slice none 0 0] 24
  c1 : Bx F (n + 1) #[.int .i64 1, .int .i64 1, .string ⟨#[]⟩, .slice none 0 0, .int .i64 1, .int .i64 2, .string ⟨#[]⟩, .slice none 0 0] 24
  c2 : Bx F (n + 1 + 1) #[.int .i64 4, .int .i64 0, .string ⟨#[]⟩, .slice (some ⟨n + 1, 0, none⟩) 2 2] 24
  c3 : Bx F (n + 1 + 1 + 1) #[.int .i64 2, .int .i64 0, .string ⟨#[97]⟩, .slice none 0 0] 24
  c4 : Bx F (n + 1 + 1 + 1 + 1) #[.int .i64 22, .int .i64 0, .string ⟨#[]⟩, .slice (some ⟨n + 1 + 1 + 1, 0, none⟩) 1 1] 24
  c5 : Bx F (n + 1 + 1 + 1 + 1 + 1) #[.int .i64 25, .int .i64 0, .string ⟨#[]⟩, .slice none 0 0] 24
  c6 : Bx F (n + 1 + 1 + 1 + 1 + 1 + 1) #[.int .i64 1, .int .i64 1, .string ⟨#[]⟩, .slice none 0 0, .int .i64 26, .int .i64 0, .string ⟨#[]⟩, .slice none 0 0] 24
  c7 : Bx F (n + 1 + 1 + 1 + 1 + 1 + 1 + 1) #[.int .i64 1, .string ⟨#[120]⟩, .int .i64 0, .int .i64 4, .int .i64 0, .string ⟨#[]⟩, .slice (some ⟨n + 1 + 1 + 1 + 1 + 1 + 1, 0, none⟩) 2 2, .int .i64 0, .int .i64 0, .string ⟨#[]⟩, .slice none 0 0, .slice none 0 0, .slice none 0 0, .int .i64 7, .string ⟨#[]⟩, .int .i64 0, .int .i64 3, .int .i64 0, .string ⟨#[120]⟩, .slice none 0 0, .int .i64 0, .int .i64 0, .string ⟨#[]⟩, .slice none 0 0, .slice none 0 0, .slice none 0 0] 35
  c8 : Bx F (n + 1 + 1 + 1 + 1 + 1 + 1 + 1 + 1) #[.string ⟨#[112]⟩, .slice none 0 0, .slice (some ⟨n + 1 + 1 + 1 + 1 + 1 + 1 + 1, 0, none⟩) 2 2] 38
theorem EB.below {n : Nat} {F F' : World} (H : EB n F) (hb : Below F.heap.size F F') : EB n F' :=
  ⟨H.c0.below hb, H.c1.below hb, H.c2.below hb, H.c3.below hb, H.c4.below hb, H.c5.below hb, H.c6.below hb, H.c7.below hb, H.c8.below hb⟩
theorem in_ex {n : Nat} {F : World} (H : EB n F) : PrIn F exP none (some ⟨n + 1 + 1 + 1 + 1 + 1 + 1 + 1, 0, none⟩) := by
  refine ⟨Or.inl rfl, Or.inr ⟨_, 0, rfl, ?_⟩⟩
  show StsAt F [_, _] _ 0
  rw [StsAt, StsAt, StsAt, StAt, StAt]
  have x := H.c7
  refine ⟨⟨x.cell 0, x.cell 1, x.cell 2, ?_, at_lf (x.cell 7) (x.cell 8) (x.cell 9) (x.cell 10), ⟨_, _, x.cell 11, Or.inl rfl⟩, ⟨_, _, x.cell 12, Or.inl rfl⟩⟩, ⟨x.cell 13, x.cell 14, x.cell 15, at_lf (x.cell 16) (x.cell 17) (x.cell 18) (x.cell 19), at_lf (x.cell 20) (x.cell 21) (x.cell 22) (x.cell 23), ⟨_, _, x.cell 24, Or.inl rfl⟩, ⟨_, _, x.cell 25, Or.inl rfl⟩⟩, trivial⟩
  exact ⟨x.cell 3, x.cell 4, x.cell 5, _, _, x.cell 6, kids_l2 H.c6⟩
theorem call_first {n : Nat} {F : World} (H : EB n F) : Calls Try.prog 16 #[.agg #[.string ⟨#[112]⟩, .slice none 0 0, .slice (some ⟨n + 1 + 1 + 1 + 1 + 1 + 1 + 1, 0, none⟩) 2 2]] F fun e' w' => e' = .returned (.tuple #[.int .i64 26, .int .i64 2, .bool true]) ∧ Below F.heap.size F w' := by
  have := oFirst_any exP none (some ⟨n + 1 + 1 + 1 + 1 + 1 + 1 + 1, 0, none⟩) 0 2 (fun w' h => A.ovalidate_any exP none (some ⟨n + 1 + 1 + 1 + 1 + 1 + 1 + 1, 0, none⟩) 0 2 ok_exP sz_exP (by decide) w' h) (fun _ w' h => A.oexprs_any exP none (some ⟨n + 1 + 1 + 1 + 1 + 1 + 1 + 1, 0, none⟩) 0 2 ok_exP sz_exP w' h) (fun _ e he => (A.exprs_ve ok_exP.body e he).1) F (in_ex H)
  rw [first_ex] at this
  exact this
theorem call_ps {n : Nat} {F : World} (H : EB n F) : Calls Try.prog 5 #[.agg #[.int .i64 4, .int .i64 0, .string ⟨#[]⟩, .slice (some ⟨n + 1, 0, none⟩) 2 2]] F fun e' w' => e' = .returned (.bool true) ∧ Below F.heap.size F w' := by
  have := oPure_any sumE (some ⟨n + 1, 0, none⟩) 2 ok_sum F (kids_l2 H.c1)
  rw [pure_sum] at this
  exact this
theorem call_pg {n : Nat} {F : World} (H : EB n F) : Calls Try.prog 5 #[.agg #[.int .i64 22, .int .i64 0, .string ⟨#[]⟩, .slice (some ⟨n + 1 + 1 + 1, 0, none⟩) 1 1]] F fun e' w' => e' = .returned (.bool false) ∧ Below F.heap.size F w' := by
  have := oPure_any getE (some ⟨n + 1 + 1 + 1, 0, none⟩) 1 ok_get F (kids_l1 H.c3)
  rw [pure_get] at this
  exact this
theorem call_pn {n : Nat} {F : World} (_ : EB n F) : Calls Try.prog 5 #[.agg #[.int .i64 25, .int .i64 0, .string ⟨#[]⟩, .slice none 0 0]] F fun e' w' => e' = .returned (.bool false) ∧ Below F.heap.size F w' := by
  have := oPure_any nowE none 0 ok_now F (Or.inl rfl)
  rw [pure_now] at this
  exact this
theorem call_rn {n : Nat} {F : World} (_ : EB n F) : Calls Try.prog 7 #[.agg #[.int .i64 25, .int .i64 0, .string ⟨#[]⟩, .slice none 0 0]] F fun e' w' => e' = .returned (.bool false) ∧ Below F.heap.size F w' := by
  have := oReads_any nowE none 0 ok_now F (Or.inl rfl)
  rw [reads_now] at this
  exact this
theorem call_rg {n : Nat} {F : World} (H : EB n F) : Calls Try.prog 7 #[.agg #[.int .i64 22, .int .i64 0, .string ⟨#[]⟩, .slice (some ⟨n + 1 + 1 + 1, 0, none⟩) 1 1]] F fun e' w' => e' = .returned (.bool true) ∧ Below F.heap.size F w' := by
  have := oReads_any getE (some ⟨n + 1 + 1 + 1, 0, none⟩) 1 ok_get F (kids_l1 H.c3)
  rw [reads_get] at this
  exact this
theorem ex_chain (w : World) : EB w.heap.size (((((((((w.alloc (.cells #[.int .i64 1, .int .i64 1, .string ⟨#[]⟩, .slice none 0 0] 24)).alloc (.cells #[.int .i64 1, .int .i64 1, .string ⟨#[]⟩, .slice none 0 0, .int .i64 1, .int .i64 2, .string ⟨#[]⟩, .slice none 0 0] 24)).alloc (.cells #[.int .i64 4, .int .i64 0, .string ⟨#[]⟩, .slice (some ⟨w.heap.size + 1, 0, none⟩) 2 2] 24)).alloc (.cells #[.int .i64 2, .int .i64 0, .string ⟨#[97]⟩, .slice none 0 0] 24)).alloc (.cells #[.int .i64 22, .int .i64 0, .string ⟨#[]⟩, .slice (some ⟨w.heap.size + 1 + 1 + 1, 0, none⟩) 1 1] 24)).alloc (.cells #[.int .i64 25, .int .i64 0, .string ⟨#[]⟩, .slice none 0 0] 24)).alloc (.cells #[.int .i64 1, .int .i64 1, .string ⟨#[]⟩, .slice none 0 0, .int .i64 26, .int .i64 0, .string ⟨#[]⟩, .slice none 0 0] 24)).alloc (.cells #[.int .i64 1, .string ⟨#[120]⟩, .int .i64 0, .int .i64 4, .int .i64 0, .string ⟨#[]⟩, .slice (some ⟨w.heap.size + 1 + 1 + 1 + 1 + 1 + 1, 0, none⟩) 2 2, .int .i64 0, .int .i64 0, .string ⟨#[]⟩, .slice none 0 0, .slice none 0 0, .slice none 0 0, .int .i64 7, .string ⟨#[]⟩, .int .i64 0, .int .i64 3, .int .i64 0, .string ⟨#[120]⟩, .slice none 0 0, .int .i64 0, .int .i64 0, .string ⟨#[]⟩, .slice none 0 0, .slice none 0 0, .slice none 0 0] 35)).alloc (.cells #[.string ⟨#[112]⟩, .slice none 0 0, .slice (some ⟨w.heap.size + 1 + 1 + 1 + 1 + 1 + 1 + 1, 0, none⟩) 2 2] 38)) ∧ Below w.heap.size w (((((((((w.alloc (.cells #[.int .i64 1, .int .i64 1, .string ⟨#[]⟩, .slice none 0 0] 24)).alloc (.cells #[.int .i64 1, .int .i64 1, .string ⟨#[]⟩, .slice none 0 0, .int .i64 1, .int .i64 2, .string ⟨#[]⟩, .slice none 0 0] 24)).alloc (.cells #[.int .i64 4, .int .i64 0, .string ⟨#[]⟩, .slice (some ⟨w.heap.size + 1, 0, none⟩) 2 2] 24)).alloc (.cells #[.int .i64 2, .int .i64 0, .string ⟨#[97]⟩, .slice none 0 0] 24)).alloc (.cells #[.int .i64 22, .int .i64 0, .string ⟨#[]⟩, .slice (some ⟨w.heap.size + 1 + 1 + 1, 0, none⟩) 1 1] 24)).alloc (.cells #[.int .i64 25, .int .i64 0, .string ⟨#[]⟩, .slice none 0 0] 24)).alloc (.cells #[.int .i64 1, .int .i64 1, .string ⟨#[]⟩, .slice none 0 0, .int .i64 26, .int .i64 0, .string ⟨#[]⟩, .slice none 0 0] 24)).alloc (.cells #[.int .i64 1, .string ⟨#[120]⟩, .int .i64 0, .int .i64 4, .int .i64 0, .string ⟨#[]⟩, .slice (some ⟨w.heap.size + 1 + 1 + 1 + 1 + 1 + 1, 0, none⟩) 2 2, .int .i64 0, .int .i64 0, .string ⟨#[]⟩, .slice none 0 0, .slice none 0 0, .slice none 0 0, .int .i64 7, .string ⟨#[]⟩, .int .i64 0, .int .i64 3, .int .i64 0, .string ⟨#[120]⟩, .slice none 0 0, .int .i64 0, .int .i64 0, .string ⟨#[]⟩, .slice none 0 0, .slice none 0 0, .slice none 0 0] 35)).alloc (.cells #[.string ⟨#[112]⟩, .slice none 0 0, .slice (some ⟨w.heap.size + 1 + 1 + 1 + 1 + 1 + 1 + 1, 0, none⟩) 2 2] 38)) := by
  obtain ⟨z1, e1⟩ : ∃ z, z = w.alloc (.cells #[.int .i64 1, .int .i64 1, .string ⟨#[]⟩, .slice none 0 0] 24) := ⟨_, rfl⟩
  have b1 : Below w.heap.size w z1 := by rw [e1]; exact below_box _ _
  have x1 := Bx.new w #[.int .i64 1, .int .i64 1, .string ⟨#[]⟩, .slice none 0 0] 24
  rw [← e1] at x1
  have s1 : z1.heap.size = w.heap.size + 1 := by rw [e1]; simp
  rw [← e1]
  obtain ⟨z2, e2⟩ : ∃ z, z = z1.alloc (.cells #[.int .i64 1, .int .i64 1, .string ⟨#[]⟩, .slice none 0 0, .int .i64 1, .int .i64 2, .string ⟨#[]⟩, .slice none 0 0] 24) := ⟨_, rfl⟩
  have b2 : Below z1.heap.size z1 z2 := by rw [e2]; exact below_box _ _
  have x2 := Bx.new z1 #[.int .i64 1, .int .i64 1, .string ⟨#[]⟩, .slice none 0 0, .int .i64 1, .int .i64 2, .string ⟨#[]⟩, .slice none 0 0] 24
  rw [← e2] at x2
  rw [s1] at x2
  have s2 : z2.heap.size = w.heap.size + 1 + 1 := by rw [e2]; simp [s1]
  rw [← e2]
  obtain ⟨z3, e3⟩ : ∃ z, z = z2.alloc (.cells #[.int .i64 4, .int .i64 0, .string ⟨#[]⟩, .slice (some ⟨w.heap.size + 1, 0, none⟩) 2 2] 24) := ⟨_, rfl⟩
  have b3 : Below z2.heap.size z2 z3 := by rw [e3]; exact below_box _ _
  have x3 := Bx.new z2 #[.int .i64 4, .int .i64 0, .string ⟨#[]⟩, .slice (some ⟨w.heap.size + 1, 0, none⟩) 2 2] 24
  rw [← e3] at x3
  rw [s2] at x3
  have s3 : z3.heap.size = w.heap.size + 1 + 1 + 1 := by rw [e3]; simp [s2]
  rw [← e3]
  obtain ⟨z4, e4⟩ : ∃ z, z = z3.alloc (.cells #[.int .i64 2, .int .i64 0, .string ⟨#[97]⟩, .slice none 0 0] 24) := ⟨_, rfl⟩
  have b4 : Below z3.heap.size z3 z4 := by rw [e4]; exact below_box _ _
  have x4 := Bx.new z3 #[.int .i64 2, .int .i64 0, .string ⟨#[97]⟩, .slice none 0 0] 24
  rw [← e4] at x4
  rw [s3] at x4
  have s4 : z4.heap.size = w.heap.size + 1 + 1 + 1 + 1 := by rw [e4]; simp [s3]
  rw [← e4]
  obtain ⟨z5, e5⟩ : ∃ z, z = z4.alloc (.cells #[.int .i64 22, .int .i64 0, .string ⟨#[]⟩, .slice (some ⟨w.heap.size + 1 + 1 + 1, 0, none⟩) 1 1] 24) := ⟨_, rfl⟩
  have b5 : Below z4.heap.size z4 z5 := by rw [e5]; exact below_box _ _
  have x5 := Bx.new z4 #[.int .i64 22, .int .i64 0, .string ⟨#[]⟩, .slice (some ⟨w.heap.size + 1 + 1 + 1, 0, none⟩) 1 1] 24
  rw [← e5] at x5
  rw [s4] at x5
  have s5 : z5.heap.size = w.heap.size + 1 + 1 + 1 + 1 + 1 := by rw [e5]; simp [s4]
  rw [← e5]
  obtain ⟨z6, e6⟩ : ∃ z, z = z5.alloc (.cells #[.int .i64 25, .int .i64 0, .string ⟨#[]⟩, .slice none 0 0] 24) := ⟨_, rfl⟩
  have b6 : Below z5.heap.size z5 z6 := by rw [e6]; exact below_box _ _
  have x6 := Bx.new z5 #[.int .i64 25, .int .i64 0, .string ⟨#[]⟩, .slice none 0 0] 24
  rw [← e6] at x6
  rw [s5] at x6
  have s6 : z6.heap.size = w.heap.size + 1 + 1 + 1 + 1 + 1 + 1 := by rw [e6]; simp [s5]
  rw [← e6]
  obtain ⟨z7, e7⟩ : ∃ z, z = z6.alloc (.cells #[.int .i64 1, .int .i64 1, .string ⟨#[]⟩, .slice none 0 0, .int .i64 26, .int .i64 0, .string ⟨#[]⟩, .slice none 0 0] 24) := ⟨_, rfl⟩
  have b7 : Below z6.heap.size z6 z7 := by rw [e7]; exact below_box _ _
  have x7 := Bx.new z6 #[.int .i64 1, .int .i64 1, .string ⟨#[]⟩, .slice none 0 0, .int .i64 26, .int .i64 0, .string ⟨#[]⟩, .slice none 0 0] 24
  rw [← e7] at x7
  rw [s6] at x7
  have s7 : z7.heap.size = w.heap.size + 1 + 1 + 1 + 1 + 1 + 1 + 1 := by rw [e7]; simp [s6]
  rw [← e7]
  obtain ⟨z8, e8⟩ : ∃ z, z = z7.alloc (.cells #[.int .i64 1, .string ⟨#[120]⟩, .int .i64 0, .int .i64 4, .int .i64 0, .string ⟨#[]⟩, .slice (some ⟨w.heap.size + 1 + 1 + 1 + 1 + 1 + 1, 0, none⟩) 2 2, .int .i64 0, .int .i64 0, .string ⟨#[]⟩, .slice none 0 0, .slice none 0 0, .slice none 0 0, .int .i64 7, .string ⟨#[]⟩, .int .i64 0, .int .i64 3, .int .i64 0, .string ⟨#[120]⟩, .slice none 0 0, .int .i64 0, .int .i64 0, .string ⟨#[]⟩, .slice none 0 0, .slice none 0 0, .slice none 0 0] 35) := ⟨_, rfl⟩
  have b8 : Below z7.heap.size z7 z8 := by rw [e8]; exact below_box _ _
  have x8 := Bx.new z7 #[.int .i64 1, .string ⟨#[120]⟩, .int .i64 0, .int .i64 4, .int .i64 0, .string ⟨#[]⟩, .slice (some ⟨w.heap.size + 1 + 1 + 1 + 1 + 1 + 1, 0, none⟩) 2 2, .int .i64 0, .int .i64 0, .string ⟨#[]⟩, .slice none 0 0, .slice none 0 0, .slice none 0 0, .int .i64 7, .string ⟨#[]⟩, .int .i64 0, .int .i64 3, .int .i64 0, .string ⟨#[120]⟩, .slice none 0 0, .int .i64 0, .int .i64 0, .string ⟨#[]⟩, .slice none 0 0, .slice none 0 0, .slice none 0 0] 35
  rw [← e8] at x8
  rw [s7] at x8
  have s8 : z8.heap.size = w.heap.size + 1 + 1 + 1 + 1 + 1 + 1 + 1 + 1 := by rw [e8]; simp [s7]
  rw [← e8]
  obtain ⟨z9, e9⟩ : ∃ z, z = z8.alloc (.cells #[.string ⟨#[112]⟩, .slice none 0 0, .slice (some ⟨w.heap.size + 1 + 1 + 1 + 1 + 1 + 1 + 1, 0, none⟩) 2 2] 38) := ⟨_, rfl⟩
  have b9 : Below z8.heap.size z8 z9 := by rw [e9]; exact below_box _ _
  have x9 := Bx.new z8 #[.string ⟨#[112]⟩, .slice none 0 0, .slice (some ⟨w.heap.size + 1 + 1 + 1 + 1 + 1 + 1 + 1, 0, none⟩) 2 2] 38
  rw [← e9] at x9
  rw [s8] at x9
  have s9 : z9.heap.size = w.heap.size + 1 + 1 + 1 + 1 + 1 + 1 + 1 + 1 + 1 := by rw [e9]; simp [s8]
  rw [← e9]
  refine ⟨⟨((((((((x1.below b2).below b3).below b4).below b5).below b6).below b7).below b8).below b9), (((((((x2.below b3).below b4).below b5).below b6).below b7).below b8).below b9), ((((((x3.below b4).below b5).below b6).below b7).below b8).below b9), (((((x4.below b5).below b6).below b7).below b8).below b9), ((((x5.below b6).below b7).below b8).below b9), (((x6.below b7).below b8).below b9), ((x7.below b8).below b9), (x8.below b9), x9⟩, ?_⟩
  exact (below_2 (below_2 (below_2 (below_2 (below_2 (below_2 (below_2 (below_2 b1 b2) b3) b4) b5) b6) b7) b8) b9)
set_option maxHeartbeats 8000000 in
set_option maxRecDepth 100000 in
theorem examples_any (w : World) : Calls Try.prog 9 #[] w fun e' w' => e' = .returned (.bool true) ∧ Below w.heap.size w w' := by
  obtain ⟨hE, hB⟩ := ex_chain w
  obtain ⟨F, hF⟩ : ∃ F, (((((((((w.alloc (.cells #[.int .i64 1, .int .i64 1, .string ⟨#[]⟩, .slice none 0 0] 24)).alloc (.cells #[.int .i64 1, .int .i64 1, .string ⟨#[]⟩, .slice none 0 0, .int .i64 1, .int .i64 2, .string ⟨#[]⟩, .slice none 0 0] 24)).alloc (.cells #[.int .i64 4, .int .i64 0, .string ⟨#[]⟩, .slice (some ⟨w.heap.size + 1, 0, none⟩) 2 2] 24)).alloc (.cells #[.int .i64 2, .int .i64 0, .string ⟨#[97]⟩, .slice none 0 0] 24)).alloc (.cells #[.int .i64 22, .int .i64 0, .string ⟨#[]⟩, .slice (some ⟨w.heap.size + 1 + 1 + 1, 0, none⟩) 1 1] 24)).alloc (.cells #[.int .i64 25, .int .i64 0, .string ⟨#[]⟩, .slice none 0 0] 24)).alloc (.cells #[.int .i64 1, .int .i64 1, .string ⟨#[]⟩, .slice none 0 0, .int .i64 26, .int .i64 0, .string ⟨#[]⟩, .slice none 0 0] 24)).alloc (.cells #[.int .i64 1, .string ⟨#[120]⟩, .int .i64 0, .int .i64 4, .int .i64 0, .string ⟨#[]⟩, .slice (some ⟨w.heap.size + 1 + 1 + 1 + 1 + 1 + 1, 0, none⟩) 2 2, .int .i64 0, .int .i64 0, .string ⟨#[]⟩, .slice none 0 0, .slice none 0 0, .slice none 0 0, .int .i64 7, .string ⟨#[]⟩, .int .i64 0, .int .i64 3, .int .i64 0, .string ⟨#[120]⟩, .slice none 0 0, .int .i64 0, .int .i64 0, .string ⟨#[]⟩, .slice none 0 0, .slice none 0 0, .slice none 0 0] 35)).alloc (.cells #[.string ⟨#[112]⟩, .slice none 0 0, .slice (some ⟨w.heap.size + 1 + 1 + 1 + 1 + 1 + 1 + 1, 0, none⟩) 2 2] 38)) = F := ⟨_, rfl⟩
  rw [hF] at hE hB
  have HE := Lib.hid hE
  have HB := Lib.hid hB
  have HF := Lib.hid hF
  clear hE hB hF
  go_enter Try.func9, Try.ntmps9
  go_wp2_with fail
  rw [HF.out]
  refine (call_first HE.out).mono ?_; rintro e' w1 ⟨rfl, hb⟩
  have H1 := Lib.hid (HE.out.below hb)
  have B1 := Lib.hid (below_2 HB.out hb)
  clear hb HF
  have y0 := H1.out.c2.cell 0
  have y1 := H1.out.c2.cell 1
  have y2 := H1.out.c2.cell 2
  have y3 := H1.out.c2.cell 3
  simp only [List.getElem?_toArray, List.getElem?_cons_succ, List.getElem?_cons_zero] at y0 y1 y2 y3
  go_wp2_with fail
  refine (call_ps H1.out).mono ?_; rintro e' w2 ⟨rfl, hb⟩
  have H2 := Lib.hid (H1.out.below hb)
  have B2 := Lib.hid (below_2 B1.out hb)
  clear hb y0 y1 y2 y3
  have y0 := H2.out.c4.cell 0
  have y1 := H2.out.c4.cell 1
  have y2 := H2.out.c4.cell 2
  have y3 := H2.out.c4.cell 3
  simp only [List.getElem?_toArray, List.getElem?_cons_succ, List.getElem?_cons_zero] at y0 y1 y2 y3
  go_wp2_with fail
  refine (call_pg H2.out).mono ?_; rintro e' w3 ⟨rfl, hb⟩
  have H3 := Lib.hid (H2.out.below hb)
  have B3 := Lib.hid (below_2 B2.out hb)
  clear hb y0 y1 y2 y3
  have y0 := H3.out.c5.cell 0
  have y1 := H3.out.c5.cell 1
  have y2 := H3.out.c5.cell 2
  have y3 := H3.out.c5.cell 3
  simp only [List.getElem?_toArray, List.getElem?_cons_succ, List.getElem?_cons_zero] at y0 y1 y2 y3
  go_wp2_with fail
  refine (call_pn H3.out).mono ?_; rintro e' w4 ⟨rfl, hb⟩
  have H4 := Lib.hid (H3.out.below hb)
  have B4 := Lib.hid (below_2 B3.out hb)
  clear hb y0 y1 y2 y3
  have y0 := H4.out.c5.cell 0
  have y1 := H4.out.c5.cell 1
  have y2 := H4.out.c5.cell 2
  have y3 := H4.out.c5.cell 3
  simp only [List.getElem?_toArray, List.getElem?_cons_succ, List.getElem?_cons_zero] at y0 y1 y2 y3
  go_wp2_with fail
  refine (call_rn H4.out).mono ?_; rintro e' w5 ⟨rfl, hb⟩
  have H5 := Lib.hid (H4.out.below hb)
  have B5 := Lib.hid (below_2 B4.out hb)
  clear hb y0 y1 y2 y3
  have y0 := H5.out.c4.cell 0
  have y1 := H5.out.c4.cell 1
  have y2 := H5.out.c4.cell 2
  have y3 := H5.out.c4.cell 3
  simp only [List.getElem?_toArray, List.getElem?_cons_succ, List.getElem?_cons_zero] at y0 y1 y2 y3
  go_wp2_with fail
  refine (call_rg H5.out).mono ?_; rintro e' w6 ⟨rfl, hb⟩
  have H6 := Lib.hid (H5.out.below hb)
  have B6 := Lib.hid (below_2 B5.out hb)
  clear hb y0 y1 y2 y3
  go_wp2_with fail
  go_ret
  exact ⟨rfl, B6.out⟩
end Go.Proofs.Ytgjnddjpinhkgaa.N
namespace Go.Proofs.Ytgjnddjpinhkgaa.N
open Go.RowKit
open A (Ex exV exO exV_mk exO_mk okE Bx)
open L (below_2 below_box ret_bool)

theorem any_flat' (f : Int → Bool) (l : List Ex) : (l.flatMap ops).any f = l.any fun e => (ops e).any f := by
  induction l with
  | nil => rfl
  | cons e r ih => rw [List.flatMap_cons, List.any_append, List.any_cons, ih]
theorem pureE_mk (o n : Int) (s : ByteArray) (l : List Ex) : pureE (.mk o n s l) = ((!isR o && !isN o) && l.all pureE) := by
  unfold pureE
  rw [ops_mk, List.any_cons, any_flat']
  have : l.any (fun e => (ops e).any fun o => isN o || isR o) = !l.all fun e => !(ops e).any fun o => isN o || isR o := by
    induction l with
    | nil => rfl
    | cons e r ih => rw [List.any_cons, List.all_cons, ih, Bool.not_and, Bool.not_not]
  rw [this]
  cases isN o <;> cases isR o <;> simp
theorem readsE_mk (o n : Int) (s : ByteArray) (l : List Ex) : readsE (.mk o n s l) = (isR o || l.any readsE) := by
  unfold readsE
  rw [ops_mk, List.any_cons, any_flat']
theorem take_all {α : Type} (f : α → Bool) {l : List α} {k : Nat} (hk : k < l.length) : (l.take (k + 1)).all f = ((l.take k).all f && f l[k]) := by
  rw [List.take_succ_eq_append_getElem hk, List.all_append]; simp
theorem take_any {α : Type} (f : α → Bool) {l : List α} {k : Nat} (hk : k < l.length) : (l.take (k + 1)).any f = ((l.take k).any f || f l[k]) := by
  rw [List.take_succ_eq_append_getElem hk, List.any_append]; simp
theorem op_cases (o : Int) : o = 22 ∨ o = 23 ∨ o = 24 ∨ o = 25 ∨ o = 26 ∨ o = 27 ∨ (((o == 22) = false ∧ (o == 23) = false ∧ (o == 24) = false) ∧ ((o != 25) = true ∧ (o != 26) = true ∧ (o != 27) = true) ∧ isR o = false ∧ isN o = false) := by
  by_cases h : o = 22 ∨ o = 23 ∨ o = 24 ∨ o = 25 ∨ o = 26 ∨ o = 27
  · omega
  · refine Or.inr (Or.inr (Or.inr (Or.inr (Or.inr (Or.inr ⟨⟨beq_eq_false_iff_ne.2 (by omega), beq_eq_false_iff_ne.2 (by omega), beq_eq_false_iff_ne.2 (by omega)⟩, ⟨bne_iff_ne.2 (by omega), bne_iff_ne.2 (by omega), bne_iff_ne.2 (by omega)⟩, ?_, ?_⟩)))))
    · unfold isR; rw [decide_eq_false (by omega), decide_eq_false (by omega), decide_eq_false (by omega)]; rfl
    · unfold isN; rw [decide_eq_false (by omega), decide_eq_false (by omega), decide_eq_false (by omega)]; rfl
set_option maxHeartbeats 32000000 in
set_option maxRecDepth 100000 in
theorem lawParts_any (e : Ex) (a : Option Addr) (c : Nat) (hok : okE e) (w : World) (hK : A.Kids w a e.args) :
    Calls Try.prog 4 #[exV e a c] w fun e' w' => e' = .returned (.bool true) ∧ Below w.heap.size w w' := by
  obtain ⟨o, n, s, l⟩ := e
  have hK' : A.Kids w a l := hK
  have hb := below_box w (exO (.mk o n s l) a c)
  have hbx := Bx.new w #[.int .i64 o, .int .i64 n, .string s, .slice a l.length c] 24
  have hokl : ∀ x ∈ l, okE x := by
    rw [okE] at hok
    exact fun x hx => by
      obtain ⟨j, hj, rfl⟩ := List.getElem_of_mem hx
      exact A.okEs.get hok.2.2.2.2 j hj
  have hll : l.length ≤ 1000000000000000 := by rw [okE] at hok; exact hok.2.2.2.1
  have HPu := Lib.hid (fun (w' : World) (h : A.Kids w' a l) => oPure_any (.mk o n s l) a c hok w' h)
  have HRe := Lib.hid (fun (w' : World) (h : A.Kids w' a l) => oReads_any (.mk o n s l) a c hok w' h)
  have HP2 : Hid (∀ (k : Nat) (h : k < l.length) a2 c2 w', A.Kids w' a2 l[k].args → Calls Try.prog 5 #[exV l[k] a2 c2] w' fun e' w'' => e' = .returned (.bool (pureE l[k])) ∧ Below w'.heap.size w' w'') := fun k h a2 c2 w' h2 => oPure_any _ a2 c2 (hokl _ (List.getElem_mem h)) w' h2
  have HR2 : Hid (∀ (k : Nat) (h : k < l.length) a2 c2 w', A.Kids w' a2 l[k].args → Calls Try.prog 7 #[exV l[k] a2 c2] w' fun e' w'' => e' = .returned (.bool (readsE l[k])) ∧ Below w'.heap.size w' w'') := fun k h a2 c2 w' h2 => oReads_any _ a2 c2 (hokl _ (List.getElem_mem h)) w' h2
  rw [pureE_mk] at HPu
  rw [readsE_mk] at HRe
  simp only [exV_mk] at HPu HRe ⊢
  have HB := Lib.hid hb
  have HX := Lib.hid hbx
  have HK := Lib.hid (hK'.below hb)
  have HEx := Lib.hid examples_any
  simp only [exO_mk] at HX HB HK
  obtain ⟨g, hg⟩ : ∃ g, l.length = g := ⟨_, rfl⟩
  have HL := Lib.hid hg
  rw [hg] at hll HX HB HK HPu HRe ⊢
  have hcs := op_cases o
  obtain ⟨P0, hP0⟩ : ∃ b, (!isR o && !isN o) = b := ⟨_, rfl⟩
  obtain ⟨R0, hR0⟩ : ∃ b, isR o = b := ⟨_, rfl⟩
  rw [hP0] at HPu
  rw [hR0] at HRe
  have x0 := HX.out.cell 0
  have x1 := HX.out.cell 1
  have x2 := HX.out.cell 2
  have x3 := HX.out.cell 3
  obtain ⟨W1, hW1⟩ : ∃ W1, W1 = w.alloc (.cells #[.int .i64 o, .int .i64 n, .string s, .slice a g c] 24) := ⟨_, rfl⟩
  rw [← hW1] at HX HB HK
  have HW1 := Lib.hid hW1.symm
  clear hg hb hbx hokl hK hK' hok hW1
  obtain ⟨p0, r0, HP, HR, hcs⟩ : ∃ p0 r0, Hid (p0 = P0) ∧ Hid (r0 = R0) ∧ ((o = 22 ∧ p0 = false ∧ r0 = true) ∨ (o = 23 ∧ p0 = false ∧ r0 = true) ∨ (o = 24 ∧ p0 = false ∧ r0 = true) ∨ (o = 25 ∧ p0 = false ∧ r0 = false) ∨ (o = 26 ∧ p0 = false ∧ r0 = false) ∨ (o = 27 ∧ p0 = false ∧ r0 = false) ∨
      ((((o == 22) = false ∧ (o == 23) = false ∧ (o == 24) = false) ∧ ((o != 25) = true ∧ (o != 26) = true ∧ (o != 27) = true)) ∧ p0 = true ∧ r0 = false)) := by
    refine ⟨P0, R0, rfl, rfl, ?_⟩
    rw [← hP0, ← hR0]
    rcases hcs with rfl | rfl | rfl | rfl | rfl | rfl | ⟨h1, h2, h3, h4⟩
    · exact Or.inl ⟨rfl, rfl, rfl⟩
    · exact Or.inr (Or.inl ⟨rfl, rfl, rfl⟩)
    · exact Or.inr (Or.inr (Or.inl ⟨rfl, rfl, rfl⟩))
    · exact Or.inr (Or.inr (Or.inr (Or.inl ⟨rfl, rfl, rfl⟩)))
    · exact Or.inr (Or.inr (Or.inr (Or.inr (Or.inl ⟨rfl, rfl, rfl⟩))))
    · exact Or.inr (Or.inr (Or.inr (Or.inr (Or.inr (Or.inl ⟨rfl, rfl, rfl⟩)))))
    · rw [h3, h4]; exact Or.inr (Or.inr (Or.inr (Or.inr (Or.inr (Or.inr ⟨⟨h1, h2⟩, rfl, rfl⟩)))))
  clear hP0 hR0
  rcases hcs with ⟨rfl, rfl, rfl⟩ | ⟨rfl, rfl, rfl⟩ | ⟨rfl, rfl, rfl⟩ | ⟨rfl, rfl, rfl⟩ | ⟨rfl, rfl, rfl⟩ | ⟨rfl, rfl, rfl⟩ | ⟨⟨⟨b1, b2, b3⟩, b4, b5, b6⟩, rfl, rfl⟩
  all_goals
    have HS1 := Lib.hid (HP.out.trans (show P0 = (P0 && (l.take 0).all pureE) by simp))
    have HS2 := Lib.hid (HR.out.trans (show R0 = (R0 || (l.take 0).any readsE) by simp))
    go_enter Try.func4, Try.ntmps4
    go_wp2_with fail
    rw [HW1.out]
    clear x0 x1 x2 x3
    go_loopw [3, 4, 5] (fun s3 s4 s5 wr => ∃ (k : Nat) (pb rb : Bool), k ≤ g ∧ s5 = .int .i64 k ∧ s4 = .bool pb ∧ s3 = .bool rb ∧ Hid (pb = (P0 && (l.take k).all pureE)) ∧ Hid (rb = (R0 || (l.take k).any readsE)) ∧ Hid (Below W1.heap.size W1 wr)) (fun _ _ s5 _ => g - (intOf s5).toNat)
    case atStart => exact ⟨0, _, _, Nat.zero_le _, rfl, rfl, rfl, HS1.out, HS2.out, Below.refl _ _⟩
    case round =>
      obtain ⟨k, pb, rb, hk, rfl, rfl, rfl, HQ1, HQ2, HBr⟩ := hrel
      have z0 := (HX.out.below HBr.out).cell 0
      have z1 := (HX.out.below HBr.out).cell 1
      have z2 := (HX.out.below HBr.out).cell 2
      have z3 := (HX.out.below HBr.out).cell 3
      by_cases hlt : k < g
      · have hlx : k < l.length := by rw [HL.out]; exact hlt
        obtain ⟨b2, i2, rfl, hat⟩ := (HK.out.below HBr.out).open hlx
        obtain ⟨d0, d1, d2, a2, cc, d3, hk2⟩ := hat.open
        have HCP := Lib.hid (HP2.out k hlx a2 cc wr hk2)
        have HCR := Lib.hid (fun w' (hb' : Below wr.heap.size wr w') => HR2.out k hlx a2 cc w' (hk2.below hb'))
        have HT1 : Hid ((P0 && (l.take (k + 1)).all pureE) = (pb && pureE l[k])) := by show _ = _; rw [take_all pureE hlx, HQ1.out, Bool.and_assoc]
        have HT2 : Hid ((R0 || (l.take (k + 1)).any readsE) = (rb || readsE l[k])) := by show _ = _; rw [take_any readsE hlx, HQ2.out, Bool.or_assoc]
        have HATl := Lib.hid hat
        clear hat hk2
        unfold exV at HCP HCR
        generalize pureE l[k] = y1 at HCP HT1
        generalize readsE l[k] = y2 at HCR HT2
        generalize hm2 : l[k].args.length = m2 at d3 HCP HCR
        generalize ho2 : l[k].op = o2 at d0 HCP HCR
        generalize hn2 : l[k].n = n2 at d1 HCP HCR
        generalize hs2 : l[k].s = s2 at d2 HCP HCR
        have HD0 := Lib.hid d0
        have HD1 := Lib.hid d1
        have HD2 := Lib.hid d2
        have HD3 := Lib.hid d3
        clear hm2 ho2 hn2 hs2 HATl
        cases pb with
        | true =>
          go_wp2_with fail
          refine HCP.out.mono ?_; rintro e w2 ⟨rfl, hb2⟩
          have HB2' := Lib.hid hb2
          have HB2 := Lib.hid (below_2 HBr.out hb2)
          have HCR2 := Lib.hid (HCR.out _ hb2)
          have q3 := (HX.out.below HB2.out).cell 3
          have e0 := (hb2.cell (block_lt_of_cell HD0.out)).trans HD0.out
          have e1 := (hb2.cell (block_lt_of_cell HD1.out)).trans HD1.out
          have e2 := (hb2.cell (block_lt_of_cell HD2.out)).trans HD2.out
          have e3 := (hb2.cell (block_lt_of_cell HD3.out)).trans HD3.out
          clear hb2 z0 z1 z2 z3 d0 d1 d2 d3
          cases rb with
          | true =>
            go_wp2_with fail
            go_roundw
            case rel => exact ⟨k + 1, _, _, by omega, by go_num, rfl, rfl, HT1.out.symm, HT2.out.symm, HB2.out⟩
            case measure => simp [intOf]; omega
          | false =>
            go_wp2_with fail
            refine HCR2.out.mono ?_; rintro e w3 ⟨rfl, hb3⟩
            have HB3 := Lib.hid (below_2 HB2.out hb3)
            clear hb3 q3 e0 e1 e2 e3
            go_wp2_with fail
            go_roundw
            case rel => exact ⟨k + 1, _, _, by omega, by go_num, rfl, rfl, HT1.out.symm, HT2.out.symm, HB3.out⟩
            case measure => simp [intOf]; omega
        | false =>
          have HCR2 := Lib.hid (HCR.out _ (Below.refl _ _))
          cases rb with
          | true =>
            go_wp2_with fail
            go_roundw
            case rel => exact ⟨k + 1, _, _, by omega, by go_num, rfl, rfl, HT1.out.symm, HT2.out.symm, HBr.out⟩
            case measure => simp [intOf]; omega
          | false =>
            go_wp2_with fail
            refine HCR2.out.mono ?_; rintro e w3 ⟨rfl, hb3⟩
            have HB3 := Lib.hid (below_2 HBr.out hb3)
            clear hb3 z0 z1 z2 z3 d0 d1 d2 d3
            go_wp2_with fail
            go_roundw
            case rel => exact ⟨k + 1, _, _, by omega, by go_num, rfl, rfl, HT1.out.symm, HT2.out.symm, HB3.out⟩
            case measure => simp [intOf]; omega
      · have hq1 := HQ1.out
        have hq2 := HQ2.out
        rw [List.take_of_length_le (by have := HL.out; omega)] at hq1 hq2
        have HPf := Lib.hid (HPu.out _ (HK.out.below HBr.out))
        have HRf := Lib.hid (fun w' hb' => HRe.out w' (HK.out.below hb'))
        rw [← hq1] at HPf
        rw [← hq2] at HRf
        clear hq1 hq2
        go_wp2_with fail
        refine HPf.out.mono ?_; rintro e w2 ⟨rfl, hb2⟩
        have HB2 := Lib.hid (below_2 HBr.out hb2)
        have HR3 := Lib.hid (HRf.out _ HB2.out)
        have q0 := (HX.out.below HB2.out).cell 0
        have q1 := (HX.out.below HB2.out).cell 1
        have q2 := (HX.out.below HB2.out).cell 2
        have q3 := (HX.out.below HB2.out).cell 3
        clear hb2 z0 z1 z2 z3
        go_wp2_with fail
        refine HR3.out.mono ?_; rintro e w3 ⟨rfl, hb3⟩
        have HB3 := Lib.hid (below_2 HB2.out hb3)
        clear hb3 q0 q1 q2 q3
        go_wp2_with fail
        refine (HEx.out _).mono ?_; rintro e w4 ⟨rfl, hb4⟩
        have HB4 := Lib.hid (below_2 (below_2 HB.out HB3.out) hb4)
        clear hb4
        go_wp2_with fail
        go_ret
        exact ⟨rfl, HB4.out⟩
end Go.Proofs.Ytgjnddjpinhkgaa.N
