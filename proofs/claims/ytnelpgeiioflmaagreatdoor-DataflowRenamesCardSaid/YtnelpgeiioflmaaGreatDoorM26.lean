/-
  The law package of layer 14: name, text, get; a region's values with the blocks that they rest on; the examples' trees in memory.
  The law package of layer 14: get: contract.
  The law package of layer 14: the examples' trees in memory, and what the calls on them return.
-/
import Derived.Test.YtnelpgeiioflmaaGreatDoorM25
namespace Go.Proofs.YtnelpgeiioflmaaGreatDoor.F
open Go.RowKit
open L (Str isName prt size_len below_2 below_box ret_bool ret_int eql_eq bytes_eq)
open A (Ex St Pm Pr exV exO exV_mk Bx okE okEs okB okS StrsAt PmsAt PrIn OkP prV prO names cB ExAt ExsAt StAt StsAt StCells StKids)
open Y (chk Tb)

set_option maxHeartbeats 1000000 in
set_option maxRecDepth 100000 in
theorem ltext_any (s : ByteArray) (w : World) : Calls Tryz.prog 32 #[.string s] w fun e w' => e = .returned (.agg #[.int .i64 2, .int .i64 0, .string s, .slice none 0 0]) ∧ Below w.heap.size w w' := by
  have HB := Lib.hid (below_box w (.cells #[.int .i64 2, .int .i64 0, .string s, .slice none 0 0] 42))
  go_enter Tryz.func32, Tryz.ntmps32
  go_wp2_with fail
  refine bodyPost_ret (v := .agg #[.int .i64 2, .int .i64 0, .string s, .slice none 0 0]) (by simp [results, Tryz.results32, go_sem]) rfl ?_
  exact ⟨rfl, HB.out⟩
set_option maxHeartbeats 1000000 in
set_option maxRecDepth 100000 in
theorem lname_any (s : ByteArray) (w : World) : Calls Tryz.prog 30 #[.string s] w fun e w' => e = .returned (.agg #[.int .i64 3, .int .i64 0, .string s, .slice none 0 0]) ∧ Below w.heap.size w w' := by
  have HB := Lib.hid (below_box w (.cells #[.int .i64 3, .int .i64 0, .string s, .slice none 0 0] 42))
  go_enter Tryz.func30, Tryz.ntmps30
  go_wp2_with fail
  refine bodyPost_ret (v := .agg #[.int .i64 3, .int .i64 0, .string s, .slice none 0 0]) (by simp [results, Tryz.results30, go_sem]) rfl ?_
  exact ⟨rfl, HB.out⟩
theorem bx_off {w : World} {g : Nat} {cs : Array Value} {t : TypeId} (h : Bx w g cs t) {b i : Nat} (hne : g ≠ b) (u : Value) : Bx (w.setCell ⟨b, i, none⟩ u) g cs t :=
  h.keep (Below.heap_setCell _ _ _ _ hne)
theorem bx_ne {w : World} {b b' : Nat} {cs cs' : Array Value} {t t' : TypeId} (h : Bx w b cs t) (h' : Bx w b' cs' t') (hne : cs.size ≠ cs'.size) : b ≠ b' := fun e => by
  subst e
  have := h.symm.trans h'
  injection this with this
  injection this with this
  exact hne (by rw [this])
/-! values with the blocks that they rest on -/
def memL (ρ : Nat → Nat) (B : Nat) (w : World) : List (Nat × ((Nat → Nat) → Array Value) × TypeId) → Prop
  | [] => True
  | x :: r => (B ≤ ρ x.1 ∧ Bx w (ρ x.1) (x.2.1 ρ) x.2.2) ∧ memL ρ B w r
theorem memL.mono {ρ : Nat → Nat} {B : Nat} {w w' : World} (hb : Below w.heap.size w w') : ∀ {l}, memL ρ B w l → memL ρ B w' l
  | [], _ => trivial
  | _ :: _, h => ⟨⟨h.1.1, h.1.2.below hb⟩, memL.mono hb h.2⟩
structure MC where
  f : (Nat → Nat) → Value
  l : List (Nat × ((Nat → Nat) → Array Value) × TypeId)
def MC.holds (B : Nat) (c : MC) (v : Value) (w : World) : Prop := ∃ ρ : Nat → Nat, v = c.f ρ ∧ memL ρ B w c.l
def nthM : List MC → Nat → Option MC
  | [], _ => none
  | x :: _, 0 => some x
  | _ :: r, n + 1 => nthM r n
def MP (B : Nat) (l : List MC) (j : Nat) (v : Value) (w : World) : Prop := match nthM l j with
  | some c => c.holds B v w
  | none => True
theorem MP.mono {B : Nat} {l : List MC} : ∀ j v w w', MP B l j v w → Below w.heap.size w w' → MP B l j v w' := by
  intro j v w w' h hb
  unfold MP at h ⊢
  split at h
  · obtain ⟨ρ, h1, h2⟩ := h
    exact ⟨ρ, h1, h2.mono hb⟩
  · trivial
def rho (l : List Nat) : Nat → Nat := fun i => l.getD i 0
/-! trees in memory -/
def lf (o n : Int) (s : ByteArray) : Ex := .mk o n s []
theorem at_lf {F : World} {g i : Nat} {o n : Int} {s : ByteArray} (h0 : F.cell? ⟨g, i, none⟩ = some (.int .i64 o)) (h1 : F.cell? ⟨g, i + 1, none⟩ = some (.int .i64 n)) (h2 : F.cell? ⟨g, i + 2, none⟩ = some (.string s)) (h3 : F.cell? ⟨g, i + 3, none⟩ = some (.slice none 0 0)) : ExAt F (lf o n s) g i :=
  ⟨h0, h1, h2, none, 0, h3, Or.inl rfl⟩
theorem okE_lf (o n : Int) (s : ByteArray) (ho : -9223372036854775808 ≤ o ∧ o ≤ 9223372036854775807) (hn : -9223372036854775808 ≤ n ∧ n ≤ 9223372036854775807) (hs : s.size ≤ 1000000000000000) : okE (lf o n s) := by
  unfold lf
  rw [okE, okEs]
  exact ⟨ho, hn, hs, Nat.zero_le _, trivial⟩
end Go.Proofs.YtnelpgeiioflmaaGreatDoor.F
namespace Go.Proofs.YtnelpgeiioflmaaGreatDoor.F
open Go.RowKit
open L (Str isName prt size_len below_2 below_box ret_bool ret_int eql_eq bytes_eq)
open A (Bx)

set_option maxHeartbeats 4000000 in
set_option maxRecDepth 100000 in
theorem lget_any (o k0 : Int) (s : ByteArray) (w : World) : Calls Tryz.prog 31 #[.int .i64 o, .agg #[.int .i64 k0, .int .i64 0, .string s, .slice none 0 0]] w
    fun e w' => ∃ b, e = .returned (.agg #[.int .i64 o, .int .i64 0, .string ⟨#[]⟩, .slice (some ⟨b, 0, none⟩) 1 1]) ∧ w.heap.size ≤ b ∧ Bx w' b #[.int .i64 k0, .int .i64 0, .string s, .slice none 0 0] 42 ∧ Below w.heap.size w w' := by
  have h1 := below_box w (.cells #[.int .i64 k0, .int .i64 0, .string s, .slice none 0 0] 42)
  have h2 := below_box (w.alloc (.cells #[.int .i64 k0, .int .i64 0, .string s, .slice none 0 0] 42)) (.cells #[.int .i64 o, .int .i64 0, .string ⟨#[]⟩, .slice (some ⟨w.heap.size + 1 + 1, 0, none⟩) 1 1] 42)
  have h3 := below_box ((w.alloc (.cells #[.int .i64 k0, .int .i64 0, .string s, .slice none 0 0] 42)).alloc (.cells #[.int .i64 o, .int .i64 0, .string ⟨#[]⟩, .slice (some ⟨w.heap.size + 1 + 1, 0, none⟩) 1 1] 42)) (.cells #[.int .i64 k0, .int .i64 0, .string s, .slice none 0 0] 42)
  have hx := Bx.new ((w.alloc (.cells #[.int .i64 k0, .int .i64 0, .string s, .slice none 0 0] 42)).alloc (.cells #[.int .i64 o, .int .i64 0, .string ⟨#[]⟩, .slice (some ⟨w.heap.size + 1 + 1, 0, none⟩) 1 1] 42)) #[.int .i64 k0, .int .i64 0, .string s, .slice none 0 0] 42
  have hs : ((w.alloc (.cells #[.int .i64 k0, .int .i64 0, .string s, .slice none 0 0] 42)).alloc (.cells #[.int .i64 o, .int .i64 0, .string ⟨#[]⟩, .slice (some ⟨w.heap.size + 1 + 1, 0, none⟩) 1 1] 42)).heap.size = w.heap.size + 1 + 1 := by simp
  rw [hs] at hx
  have HX := Lib.hid hx
  have HB := Lib.hid (below_2 (below_2 h1 h2) h3)
  clear h1 h2 h3 hx hs
  go_enter Tryz.func31, Tryz.ntmps31
  go_wp2_with fail
  refine bodyPost_ret (v := .agg #[.int .i64 o, .int .i64 0, .string ⟨#[]⟩, .slice (some ⟨w.heap.size + 1 + 1, 0, none⟩) 1 1]) (by simp [results, Tryz.results31, go_sem]) rfl ?_
  exact ⟨w.heap.size + 1 + 1, rfl, by omega, HX.out, HB.out⟩
end Go.Proofs.YtnelpgeiioflmaaGreatDoor.F
namespace Go.Proofs.YtnelpgeiioflmaaGreatDoor.F
open Go.RowKit
open L (Str isName prt size_len below_2 below_box ret_bool ret_int eql_eq bytes_eq)
open A (Ex St Pm Pr exV exO exV_mk Bx okE okEs okB okS StrsAt PmsAt PrIn OkP prV prO names cB GivesN ExAt ExsAt StAt StsAt)
open Y (chk Tb)

def rowP (m1 g b : Nat) : Array Value := #[.int .i64 1, .string ⟨#[120]⟩, .int .i64 0, .int .i64 22, .int .i64 0, .string ⟨#[]⟩, .slice (some ⟨g, 0, none⟩) 1 1, .int .i64 0, .int .i64 0, .string ⟨#[]⟩, .slice none 0 0, .slice none 0 0, .slice none 0 0, .int .i64 1, .string ⟨#[121]⟩, .int .i64 0, .int .i64 1, .int .i64 1, .string ⟨#[]⟩, .slice none 0 0, .int .i64 0, .int .i64 0, .string ⟨#[]⟩, .slice none 0 0, .slice none 0 0, .slice none 0 0, .int .i64 1, .string ⟨#[122]⟩, .int .i64 0, .int .i64 1, .int .i64 1, .string ⟨#[]⟩, .slice none 0 0, .int .i64 0, .int .i64 0, .string ⟨#[]⟩, .slice none 0 0, .slice none 0 0, .slice none 0 0, .int .i64 5, .string ⟨#[]⟩, .int .i64 0, .int .i64 14, .int .i64 0, .string ⟨#[]⟩, .slice (some ⟨m1, 0, none⟩) 2 2, .int .i64 0, .int .i64 0, .string ⟨#[]⟩, .slice none 0 0, .slice (some ⟨b, 0, none⟩) 1 1, .slice none 0 0]
def rowQ (g : Nat) : Array Value := #[.int .i64 1, .string ⟨#[107]⟩, .int .i64 0, .int .i64 23, .int .i64 0, .string ⟨#[]⟩, .slice (some ⟨g, 0, none⟩) 1 1, .int .i64 0, .int .i64 0, .string ⟨#[]⟩, .slice none 0 0, .slice none 0 0, .slice none 0 0, .int .i64 3, .string ⟨#[]⟩, .int .i64 0, .int .i64 3, .int .i64 0, .string ⟨#[107]⟩, .slice none 0 0, .int .i64 1, .int .i64 1, .string ⟨#[]⟩, .slice none 0 0, .slice none 0 0, .slice none 0 0]
def rowC (g : Nat) : Array Value := #[.int .i64 1, .string ⟨#[120]⟩, .int .i64 0, .int .i64 22, .int .i64 0, .string ⟨#[]⟩, .slice (some ⟨g, 0, none⟩) 1 1, .int .i64 0, .int .i64 0, .string ⟨#[]⟩, .slice none 0 0, .slice none 0 0, .slice none 0 0, .int .i64 3, .string ⟨#[]⟩, .int .i64 0, .int .i64 3, .int .i64 0, .string ⟨#[98]⟩, .slice none 0 0, .int .i64 3, .int .i64 0, .string ⟨#[120]⟩, .slice none 0 0, .slice none 0 0, .slice none 0 0]
def noE : Ex := lf 0 0 ⟨#[]⟩
def oneE : Ex := lf 1 1 ⟨#[]⟩
def setY : St := .mk 2 ⟨#[121]⟩ 0 oneE noE [] []
def pP : Pr := ⟨⟨#[112]⟩, [], [.mk 1 ⟨#[120]⟩ 0 (.mk 22 0 ⟨#[]⟩ [lf 2 0 ⟨#[107]⟩]) noE [] [], .mk 1 ⟨#[121]⟩ 0 oneE noE [] [], .mk 1 ⟨#[122]⟩ 0 oneE noE [] [], .mk 5 ⟨#[]⟩ 0 (.mk 14 0 ⟨#[]⟩ [lf 3 0 ⟨#[120]⟩, oneE]) noE [setY] []]⟩
def pQ : Pr := ⟨⟨#[113]⟩, [], [.mk 1 ⟨#[107]⟩ 0 (.mk 23 0 ⟨#[]⟩ [lf 2 0 ⟨#[97]⟩]) noE [] [], .mk 3 ⟨#[]⟩ 0 (lf 3 0 ⟨#[107]⟩) oneE [] []]⟩
def pC : Pr := ⟨⟨#[99, 111, 112, 121]⟩, [⟨⟨#[97]⟩, 2⟩, ⟨⟨#[98]⟩, 2⟩], [.mk 1 ⟨#[120]⟩ 0 (.mk 22 0 ⟨#[]⟩ [lf 3 0 ⟨#[97]⟩]) noE [] [], .mk 3 ⟨#[]⟩ 0 (lf 3 0 ⟨#[98]⟩) (lf 3 0 ⟨#[120]⟩) [] []]⟩
theorem p_taint : taint pP = [⟨#[120]⟩, ⟨#[121]⟩] := by kernel_rfl
theorem p_ctrl : ctrlT pP = true := by kernel_rfl
theorem p_keys : keysT pP = false := by kernel_rfl
theorem q_keys : keysT pQ = true := by kernel_rfl
theorem q_indep : indep pQ = false := by kernel_rfl
theorem c_taint : taint pC = [⟨#[120]⟩] := by kernel_rfl
theorem c_indep : indep pC = true := by kernel_rfl
theorem c_ctrl : ctrlT pC = false := by kernel_rfl
theorem ok_p : OkP pP := ⟨by decide, by decide, fun j h => absurd h (Nat.not_lt_zero j), by decide, ⟨⟨by decide, by decide, by decide, ⟨by decide, by decide, by decide, by decide, ⟨(okE_lf _ _ _ (by decide) (by decide) (by decide)), trivial⟩⟩, (okE_lf _ _ _ (by decide) (by decide) (by decide)), by decide, trivial, by decide, trivial⟩, ⟨by decide, by decide, by decide, (okE_lf _ _ _ (by decide) (by decide) (by decide)), (okE_lf _ _ _ (by decide) (by decide) (by decide)), by decide, trivial, by decide, trivial⟩, ⟨by decide, by decide, by decide, (okE_lf _ _ _ (by decide) (by decide) (by decide)), (okE_lf _ _ _ (by decide) (by decide) (by decide)), by decide, trivial, by decide, trivial⟩, ⟨by decide, by decide, by decide, ⟨by decide, by decide, by decide, by decide, ⟨(okE_lf _ _ _ (by decide) (by decide) (by decide)), (okE_lf _ _ _ (by decide) (by decide) (by decide)), trivial⟩⟩, (okE_lf _ _ _ (by decide) (by decide) (by decide)), by decide, ⟨⟨by decide, by decide, by decide, (okE_lf _ _ _ (by decide) (by decide) (by decide)), (okE_lf _ _ _ (by decide) (by decide) (by decide)), by decide, trivial, by decide, trivial⟩, trivial⟩, by decide, trivial⟩, trivial⟩⟩
theorem ok_q : OkP pQ := ⟨by decide, by decide, fun j h => absurd h (Nat.not_lt_zero j), by decide, ⟨⟨by decide, by decide, by decide, ⟨by decide, by decide, by decide, by decide, ⟨(okE_lf _ _ _ (by decide) (by decide) (by decide)), trivial⟩⟩, (okE_lf _ _ _ (by decide) (by decide) (by decide)), by decide, trivial, by decide, trivial⟩, ⟨by decide, by decide, by decide, (okE_lf _ _ _ (by decide) (by decide) (by decide)), (okE_lf _ _ _ (by decide) (by decide) (by decide)), by decide, trivial, by decide, trivial⟩, trivial⟩⟩
theorem ok_c : OkP pC := by
  refine ⟨by decide, by decide, fun j h => ?_, by decide, ⟨⟨by decide, by decide, by decide, ⟨by decide, by decide, by decide, by decide, ⟨(okE_lf _ _ _ (by decide) (by decide) (by decide)), trivial⟩⟩, (okE_lf _ _ _ (by decide) (by decide) (by decide)), by decide, trivial, by decide, trivial⟩, ⟨by decide, by decide, by decide, (okE_lf _ _ _ (by decide) (by decide) (by decide)), (okE_lf _ _ _ (by decide) (by decide) (by decide)), by decide, trivial, by decide, trivial⟩, trivial⟩⟩
  match j, h with
  | 0, _ => exact (by decide : (1 : Nat) ≤ 1000000000000000)
  | 1, _ => exact (by decide : (1 : Nat) ≤ 1000000000000000)
  | j + 2, h => exact absurd h (by show ¬ (j + 2 < 2); omega)
theorem in_p {F : World} {m1 p1 p2 p3 : Nat} (x : Bx F p1 (rowP m1 p2 p3) 44) (y : Bx F p2 #[.int .i64 2, .int .i64 0, .string ⟨#[107]⟩, .slice none 0 0] 42) (z : Bx F p3 #[.int .i64 2, .string ⟨#[121]⟩, .int .i64 0, .int .i64 1, .int .i64 1, .string ⟨#[]⟩, .slice none 0 0, .int .i64 0, .int .i64 0, .string ⟨#[]⟩, .slice none 0 0, .slice none 0 0, .slice none 0 0] 44) (u : Bx F m1 #[.int .i64 3, .int .i64 0, .string ⟨#[120]⟩, .slice none 0 0, .int .i64 1, .int .i64 1, .string ⟨#[]⟩, .slice none 0 0] 42) : PrIn F pP none (some ⟨p1, 0, none⟩) :=
  ⟨Or.inl rfl, Or.inr ⟨_, 0, rfl, ⟨⟨x.cell 0, x.cell 1, x.cell 2, ⟨x.cell 3, x.cell 4, x.cell 5, _, _, x.cell 6, Or.inr ⟨_, 0, rfl, ⟨(at_lf (y.cell 0) (y.cell 1) (y.cell 2) (y.cell 3)), trivial⟩⟩⟩, (at_lf (x.cell 7) (x.cell 8) (x.cell 9) (x.cell 10)), ⟨_, _, x.cell 11, Or.inl rfl⟩, ⟨_, _, x.cell 12, Or.inl rfl⟩⟩, ⟨x.cell 13, x.cell 14, x.cell 15, (at_lf (x.cell 16) (x.cell 17) (x.cell 18) (x.cell 19)), (at_lf (x.cell 20) (x.cell 21) (x.cell 22) (x.cell 23)), ⟨_, _, x.cell 24, Or.inl rfl⟩, ⟨_, _, x.cell 25, Or.inl rfl⟩⟩, ⟨x.cell 26, x.cell 27, x.cell 28, (at_lf (x.cell 29) (x.cell 30) (x.cell 31) (x.cell 32)), (at_lf (x.cell 33) (x.cell 34) (x.cell 35) (x.cell 36)), ⟨_, _, x.cell 37, Or.inl rfl⟩, ⟨_, _, x.cell 38, Or.inl rfl⟩⟩, ⟨x.cell 39, x.cell 40, x.cell 41, ⟨x.cell 42, x.cell 43, x.cell 44, _, _, x.cell 45, Or.inr ⟨_, 0, rfl, ⟨(at_lf (u.cell 0) (u.cell 1) (u.cell 2) (u.cell 3)), (at_lf (u.cell 4) (u.cell 5) (u.cell 6) (u.cell 7)), trivial⟩⟩⟩, (at_lf (x.cell 46) (x.cell 47) (x.cell 48) (x.cell 49)), ⟨_, _, x.cell 50, Or.inr ⟨_, 0, rfl, ⟨⟨z.cell 0, z.cell 1, z.cell 2, (at_lf (z.cell 3) (z.cell 4) (z.cell 5) (z.cell 6)), (at_lf (z.cell 7) (z.cell 8) (z.cell 9) (z.cell 10)), ⟨_, _, z.cell 11, Or.inl rfl⟩, ⟨_, _, z.cell 12, Or.inl rfl⟩⟩, trivial⟩⟩⟩, ⟨_, _, x.cell 51, Or.inl rfl⟩⟩, trivial⟩⟩⟩
theorem in_q {F : World} {q1 q2 : Nat} (x : Bx F q1 (rowQ q2) 44) (y : Bx F q2 #[.int .i64 2, .int .i64 0, .string ⟨#[97]⟩, .slice none 0 0] 42) : PrIn F pQ none (some ⟨q1, 0, none⟩) :=
  ⟨Or.inl rfl, Or.inr ⟨_, 0, rfl, ⟨⟨x.cell 0, x.cell 1, x.cell 2, ⟨x.cell 3, x.cell 4, x.cell 5, _, _, x.cell 6, Or.inr ⟨_, 0, rfl, ⟨(at_lf (y.cell 0) (y.cell 1) (y.cell 2) (y.cell 3)), trivial⟩⟩⟩, (at_lf (x.cell 7) (x.cell 8) (x.cell 9) (x.cell 10)), ⟨_, _, x.cell 11, Or.inl rfl⟩, ⟨_, _, x.cell 12, Or.inl rfl⟩⟩, ⟨x.cell 13, x.cell 14, x.cell 15, (at_lf (x.cell 16) (x.cell 17) (x.cell 18) (x.cell 19)), (at_lf (x.cell 20) (x.cell 21) (x.cell 22) (x.cell 23)), ⟨_, _, x.cell 24, Or.inl rfl⟩, ⟨_, _, x.cell 25, Or.inl rfl⟩⟩, trivial⟩⟩⟩
theorem in_c {F : World} {c0 c1 c2 : Nat} (v : Bx F c0 #[.string ⟨#[97]⟩, .int .i64 2, .string ⟨#[98]⟩, .int .i64 2] 49) (x : Bx F c1 (rowC c2) 44) (y : Bx F c2 #[.int .i64 3, .int .i64 0, .string ⟨#[97]⟩, .slice none 0 0] 42) : PrIn F pC (some ⟨c0, 0, none⟩) (some ⟨c1, 0, none⟩) := by
  refine ⟨Or.inr ⟨_, 0, rfl, fun j h => ?_⟩, Or.inr ⟨_, 0, rfl, ⟨⟨x.cell 0, x.cell 1, x.cell 2, ⟨x.cell 3, x.cell 4, x.cell 5, _, _, x.cell 6, Or.inr ⟨_, 0, rfl, ⟨(at_lf (y.cell 0) (y.cell 1) (y.cell 2) (y.cell 3)), trivial⟩⟩⟩, (at_lf (x.cell 7) (x.cell 8) (x.cell 9) (x.cell 10)), ⟨_, _, x.cell 11, Or.inl rfl⟩, ⟨_, _, x.cell 12, Or.inl rfl⟩⟩, ⟨x.cell 13, x.cell 14, x.cell 15, (at_lf (x.cell 16) (x.cell 17) (x.cell 18) (x.cell 19)), (at_lf (x.cell 20) (x.cell 21) (x.cell 22) (x.cell 23)), ⟨_, _, x.cell 24, Or.inl rfl⟩, ⟨_, _, x.cell 25, Or.inl rfl⟩⟩, trivial⟩⟩⟩
  match j, h with
  | 0, _ => exact ⟨v.cell 0, v.cell 1⟩
  | 1, _ => exact ⟨v.cell 2, v.cell 3⟩
  | j + 2, h => exact absurd h (by show ¬ (j + 2 < 2); omega)
structure EV (F : World) (m1 b3 p1 p2 p3 b4 q1 q2 b5 c0 c1 c2 : Nat) : Prop where
  fm1 : Bx F m1 #[.int .i64 3, .int .i64 0, .string ⟨#[120]⟩, .slice none 0 0, .int .i64 1, .int .i64 1, .string ⟨#[]⟩, .slice none 0 0] 42
  fb3 : Bx F b3 #[.string ⟨#[112]⟩, .slice none 0 0, .slice (some ⟨p1, 0, none⟩) 4 4] 25
  fp1 : Bx F p1 (rowP m1 p2 p3) 44
  fp2 : Bx F p2 #[.int .i64 2, .int .i64 0, .string ⟨#[107]⟩, .slice none 0 0] 42
  fp3 : Bx F p3 #[.int .i64 2, .string ⟨#[121]⟩, .int .i64 0, .int .i64 1, .int .i64 1, .string ⟨#[]⟩, .slice none 0 0, .int .i64 0, .int .i64 0, .string ⟨#[]⟩, .slice none 0 0, .slice none 0 0, .slice none 0 0] 44
  fb4 : Bx F b4 #[.string ⟨#[113]⟩, .slice none 0 0, .slice (some ⟨q1, 0, none⟩) 2 2] 25
  fq1 : Bx F q1 (rowQ q2) 44
  fq2 : Bx F q2 #[.int .i64 2, .int .i64 0, .string ⟨#[97]⟩, .slice none 0 0] 42
  fb5 : Bx F b5 #[.string ⟨#[99, 111, 112, 121]⟩, .slice (some ⟨c0, 0, none⟩) 2 2, .slice (some ⟨c1, 0, none⟩) 2 2] 25
  fc0 : Bx F c0 #[.string ⟨#[97]⟩, .int .i64 2, .string ⟨#[98]⟩, .int .i64 2] 49
  fc1 : Bx F c1 (rowC c2) 44
  fc2 : Bx F c2 #[.int .i64 3, .int .i64 0, .string ⟨#[97]⟩, .slice none 0 0] 42
section
variable {F F' : World} {m1 b3 p1 p2 p3 b4 q1 q2 b5 c0 c1 c2 : Nat}
theorem EV.below (h : EV F m1 b3 p1 p2 p3 b4 q1 q2 b5 c0 c1 c2) (hb : Below F.heap.size F F') : EV F' m1 b3 p1 p2 p3 b4 q1 q2 b5 c0 c1 c2 :=
  ⟨h.fm1.below hb, h.fb3.below hb, h.fp1.below hb, h.fp2.below hb, h.fp3.below hb, h.fb4.below hb, h.fq1.below hb, h.fq2.below hb, h.fb5.below hb, h.fc0.below hb, h.fc1.below hb, h.fc2.below hb⟩
theorem c_ps : ∀ j (h : j < pC.params.length), pC.params[j].name.size ≤ 281474976710656 := fun j h => by
  match j, h with
  | 0, _ => exact (by decide : (1 : Nat) ≤ 281474976710656)
  | 1, _ => exact (by decide : (1 : Nat) ≤ 281474976710656)
  | j + 2, h => exact absurd h (by show ¬ (j + 2 < 2); omega)
theorem p_T (h : EV F m1 b3 p1 p2 p3 b4 q1 q2 b5 c0 c1 c2) (ht : Tb F) : Calls Tryz.prog 12 #[.agg #[.string ⟨#[112]⟩, .slice none 0 0, .slice (some ⟨p1, 0, none⟩) 4 4]] F (GivesN F [⟨#[120]⟩, ⟨#[121]⟩]) := by
  have := oTainted_any pP none (some ⟨p1, 0, none⟩) 0 4 ok_p (by decide) (by decide) (fun j h => absurd h (Nat.not_lt_zero j)) (by decide) F ht (in_p h.fp1 h.fp2 h.fp3 h.fm1)
  rw [p_taint] at this
  exact this
theorem p_C (h : EV F m1 b3 p1 p2 p3 b4 q1 q2 b5 c0 c1 c2) (ht : Tb F) : Calls Tryz.prog 16 #[.agg #[.string ⟨#[112]⟩, .slice none 0 0, .slice (some ⟨p1, 0, none⟩) 4 4]] F fun e' w' => e' = .returned (.bool true) ∧ Below F.heap.size F w' := by
  have := oCtrl_any pP none (some ⟨p1, 0, none⟩) 0 4 ok_p (by decide) (by decide) (fun j h => absurd h (Nat.not_lt_zero j)) (by decide) F ht (in_p h.fp1 h.fp2 h.fp3 h.fm1)
  rw [p_ctrl] at this
  exact this
theorem p_K (h : EV F m1 b3 p1 p2 p3 b4 q1 q2 b5 c0 c1 c2) (ht : Tb F) : Calls Tryz.prog 14 #[.agg #[.string ⟨#[112]⟩, .slice none 0 0, .slice (some ⟨p1, 0, none⟩) 4 4]] F fun e' w' => e' = .returned (.bool false) ∧ Below F.heap.size F w' := by
  have := oKeys_any pP none (some ⟨p1, 0, none⟩) 0 4 ok_p (by decide) (by decide) (fun j h => absurd h (Nat.not_lt_zero j)) (by decide) F ht (in_p h.fp1 h.fp2 h.fp3 h.fm1)
  rw [p_keys] at this
  exact this
theorem q_K (h : EV F m1 b3 p1 p2 p3 b4 q1 q2 b5 c0 c1 c2) (ht : Tb F) : Calls Tryz.prog 14 #[.agg #[.string ⟨#[113]⟩, .slice none 0 0, .slice (some ⟨q1, 0, none⟩) 2 2]] F fun e' w' => e' = .returned (.bool true) ∧ Below F.heap.size F w' := by
  have := oKeys_any pQ none (some ⟨q1, 0, none⟩) 0 2 ok_q (by decide) (by decide) (fun j h => absurd h (Nat.not_lt_zero j)) (by decide) F ht (in_q h.fq1 h.fq2)
  rw [q_keys] at this
  exact this
theorem q_I (h : EV F m1 b3 p1 p2 p3 b4 q1 q2 b5 c0 c1 c2) (ht : Tb F) : Calls Tryz.prog 18 #[.agg #[.string ⟨#[113]⟩, .slice none 0 0, .slice (some ⟨q1, 0, none⟩) 2 2]] F fun e' w' => e' = .returned (.bool false) ∧ Below F.heap.size F w' := by
  have := oIndep_any pQ none (some ⟨q1, 0, none⟩) 0 2 ok_q (by decide) (by decide) (fun j h => absurd h (Nat.not_lt_zero j)) (by decide) F ht (in_q h.fq1 h.fq2)
  rw [q_indep] at this
  exact this
theorem c_T (h : EV F m1 b3 p1 p2 p3 b4 q1 q2 b5 c0 c1 c2) (ht : Tb F) : Calls Tryz.prog 12 #[.agg #[.string ⟨#[99, 111, 112, 121]⟩, .slice (some ⟨c0, 0, none⟩) 2 2, .slice (some ⟨c1, 0, none⟩) 2 2]] F (GivesN F [⟨#[120]⟩]) := by
  have := oTainted_any pC (some ⟨c0, 0, none⟩) (some ⟨c1, 0, none⟩) 2 2 ok_c (by decide) (by decide) (c_ps) (by decide) F ht (in_c h.fc0 h.fc1 h.fc2)
  rw [c_taint] at this
  exact this
theorem c_I (h : EV F m1 b3 p1 p2 p3 b4 q1 q2 b5 c0 c1 c2) (ht : Tb F) : Calls Tryz.prog 18 #[.agg #[.string ⟨#[99, 111, 112, 121]⟩, .slice (some ⟨c0, 0, none⟩) 2 2, .slice (some ⟨c1, 0, none⟩) 2 2]] F fun e' w' => e' = .returned (.bool true) ∧ Below F.heap.size F w' := by
  have := oIndep_any pC (some ⟨c0, 0, none⟩) (some ⟨c1, 0, none⟩) 2 2 ok_c (by decide) (by decide) (c_ps) (by decide) F ht (in_c h.fc0 h.fc1 h.fc2)
  rw [c_indep] at this
  exact this
theorem c_C (h : EV F m1 b3 p1 p2 p3 b4 q1 q2 b5 c0 c1 c2) (ht : Tb F) : Calls Tryz.prog 16 #[.agg #[.string ⟨#[99, 111, 112, 121]⟩, .slice (some ⟨c0, 0, none⟩) 2 2, .slice (some ⟨c1, 0, none⟩) 2 2]] F fun e' w' => e' = .returned (.bool false) ∧ Below F.heap.size F w' := by
  have := oCtrl_any pC (some ⟨c0, 0, none⟩) (some ⟨c1, 0, none⟩) 2 2 ok_c (by decide) (by decide) (c_ps) (by decide) F ht (in_c h.fc0 h.fc1 h.fc2)
  rw [c_ctrl] at this
  exact this
end
end Go.Proofs.YtnelpgeiioflmaaGreatDoor.F
