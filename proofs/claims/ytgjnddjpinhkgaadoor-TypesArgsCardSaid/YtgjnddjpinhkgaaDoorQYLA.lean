/-
  The laws of layer 11: the law package's small functions, and what its examples have as answers.
-/
import Derived.Test.YtgjnddjpinhkgaaDoorM14
namespace Go.Proofs.YtgjnddjpinhkgaaDoor.Y
open Go.RowKit
open L (Str isName prt size_len below_2 below_box ret_bool ret_int eql_eq bytes_eq)
open A (Ex St Pm Pr V arity vE vEs absent exV exO exV_mk Bx okE okEs cE cEs PmsAt StrsAt PrIn OkP prV prO names valE ExsAt ExAt StsAt StAt Bodies)

set_option maxHeartbeats 1000000 in
set_option maxRecDepth 100000 in
theorem lone_any (w : World) : Calls Tryd.prog 32 #[] w fun e w' => e = .returned (.agg #[.int .i64 1, .int .i64 1, .string ⟨#[]⟩, .slice none 0 0]) ∧ Below w.heap.size w w' := by
  have HB := Lib.hid (below_box w (.cells #[.int .i64 1, .int .i64 1, .string ⟨#[]⟩, .slice none 0 0] 52))
  go_enter Tryd.func32, Tryd.ntmps32
  go_wp2_with fail
  refine bodyPost_ret (v := .agg #[.int .i64 1, .int .i64 1, .string ⟨#[]⟩, .slice none 0 0]) (by simp [results, Tryd.results32, go_sem]) rfl ?_
  exact ⟨rfl, HB.out⟩
set_option maxHeartbeats 1000000 in
set_option maxRecDepth 100000 in
theorem ltext_any (s : ByteArray) (w : World) : Calls Tryd.prog 33 #[.string s] w fun e w' => e = .returned (.agg #[.int .i64 2, .int .i64 0, .string s, .slice none 0 0]) ∧ Below w.heap.size w w' := by
  have HB := Lib.hid (below_box w (.cells #[.int .i64 2, .int .i64 0, .string s, .slice none 0 0] 52))
  go_enter Tryd.func33, Tryd.ntmps33
  go_wp2_with fail
  refine bodyPost_ret (v := .agg #[.int .i64 2, .int .i64 0, .string s, .slice none 0 0]) (by simp [results, Tryd.results33, go_sem]) rfl ?_
  exact ⟨rfl, HB.out⟩
set_option maxHeartbeats 1000000 in
set_option maxRecDepth 100000 in
theorem lname_any (s : ByteArray) (w : World) : Calls Tryd.prog 31 #[.string s] w fun e w' => e = .returned (.agg #[.int .i64 3, .int .i64 0, .string s, .slice none 0 0]) ∧ Below w.heap.size w w' := by
  have HB := Lib.hid (below_box w (.cells #[.int .i64 3, .int .i64 0, .string s, .slice none 0 0] 52))
  go_enter Tryd.func31, Tryd.ntmps31
  go_wp2_with fail
  refine bodyPost_ret (v := .agg #[.int .i64 3, .int .i64 0, .string s, .slice none 0 0]) (by simp [results, Tryd.results31, go_sem]) rfl ?_
  exact ⟨rfl, HB.out⟩
/-! ### the examples -/
def lf (o n : Int) (s : ByteArray) : Ex := .mk o n s []
def noE : Ex := lf 0 0 ⟨#[]⟩
def oneE : Ex := lf 1 1 ⟨#[]⟩
def xE : Ex := lf 3 0 ⟨#[120]⟩
def aT : Ex := lf 2 0 ⟨#[97]⟩
def hasE : Ex := .mk 24 0 ⟨#[]⟩ [lf 2 0 ⟨#[107]⟩]
def e1 : Ex := .mk 20 0 ⟨#[]⟩ [xE]
def e2 : Ex := .mk 4 0 ⟨#[]⟩ [oneE, aT]
def e3 : Ex := .mk 4 0 ⟨#[]⟩ [xE, aT]
def pP : Pr := ⟨⟨#[112]⟩, [], [.mk 5 ⟨#[]⟩ 0 hasE noE [.mk 1 ⟨#[120]⟩ 0 oneE noE [] []] [], .mk 7 ⟨#[]⟩ 0 xE noE [] []]⟩
def qP : Pr := ⟨⟨#[113]⟩, [], [.mk 6 ⟨#[105]⟩ 2 oneE oneE [.mk 2 ⟨#[105]⟩ 0 oneE noE [] []] []]⟩
def rP : Pr := ⟨⟨#[114]⟩, [⟨⟨#[97]⟩, 2⟩], [.mk 1 ⟨#[98]⟩ 0 hasE noE [] []]⟩
def x1 : Pm := ⟨⟨#[120]⟩, 1⟩
theorem of_e1 : ofE (look [x1]) e1 = (2, 0) := by kernel_rfl
theorem of_e2 : ofE (look []) e2 = (0, 10) := by kernel_rfl
theorem of_e3 : ofE (look []) e3 = (0, 11) := by kernel_rfl
theorem chk_p : chk pP = ([], 11) := by kernel_rfl
theorem chk_q : chk qP = ([], 7) := by kernel_rfl
theorem chk_r : chk rP = ([⟨⟨#[97]⟩, 2⟩, ⟨⟨#[98]⟩, 3⟩], 0) := by kernel_rfl
theorem arg_1 : argE rP [⟨2, 0, ⟨#[107]⟩⟩] = 0 := by kernel_rfl
theorem arg_2 : argE rP [] = 1 := by kernel_rfl
theorem arg_3 : argE rP [⟨1, 0, ⟨#[]⟩⟩] = 10 := by kernel_rfl
theorem okE_lf (o n : Int) (s : ByteArray) (ho : -9223372036854775808 ≤ o ∧ o ≤ 9223372036854775807) (hn : -9223372036854775808 ≤ n ∧ n ≤ 9223372036854775807) (hs : s.size ≤ 1000000000000000) : okE (lf o n s) := by
  unfold lf
  rw [okE, okEs]
  exact ⟨ho, hn, hs, Nat.zero_le _, trivial⟩
theorem ok_noE : okE noE := okE_lf _ _ _ (by decide) (by decide) (by decide)
theorem ok_oneE : okE oneE := okE_lf _ _ _ (by decide) (by decide) (by decide)
theorem ok_xE : okE xE := okE_lf _ _ _ (by decide) (by decide) (by decide)
theorem ok_aT : okE aT := okE_lf _ _ _ (by decide) (by decide) (by decide)
theorem ok_has : okE hasE := by
  unfold hasE
  rw [okE, okEs, okEs]
  exact ⟨by decide, by decide, by decide, by decide, okE_lf _ _ _ (by decide) (by decide) (by decide), trivial⟩
theorem ok_e1 : okE e1 := by
  unfold e1
  rw [okE, okEs, okEs]
  exact ⟨by decide, by decide, by decide, by decide, ok_xE, trivial⟩
theorem ok_e2 : okE e2 := by
  unfold e2
  rw [okE, okEs, okEs, okEs]
  exact ⟨by decide, by decide, by decide, by decide, ok_oneE, ok_aT, trivial⟩
theorem ok_e3 : okE e3 := by
  unfold e3
  rw [okE, okEs, okEs, okEs]
  exact ⟨by decide, by decide, by decide, by decide, ok_xE, ok_aT, trivial⟩
theorem okS_mk {o : Int} {nm : ByteArray} {mx : Int} {a b : Ex} {bd el : List St} (h0 : -9223372036854775808 ≤ o ∧ o ≤ 9223372036854775807) (h1 : nm.size ≤ 1000000000000000) (h2 : -9223372036854775808 ≤ mx ∧ mx ≤ 9223372036854775807) (h3 : okE a) (h4 : okE b) (h5 : bd.length ≤ 1000000000000000) (h6 : A.okB bd) (h7 : el.length ≤ 1000000000000000) (h8 : A.okB el) : A.okS (.mk o nm mx a b bd el) := by
  rw [A.okS]; exact ⟨h0, h1, h2, h3, h4, h5, h6, h7, h8⟩
theorem okB_nil : A.okB [] := by rw [A.okB]; trivial
theorem okB_one {s : St} (h : A.okS s) : A.okB [s] := by rw [A.okB, A.okB]; exact ⟨h, trivial⟩
theorem ok_pP : OkP pP := by
  refine ⟨by decide, by decide, fun j h => absurd h (Nat.not_lt_zero _), by decide, ?_⟩
  show A.okB [_, _]
  rw [A.okB]
  exact ⟨okS_mk (by decide) (by decide) (by decide) ok_has ok_noE (by decide) (okB_one (okS_mk (by decide) (by decide) (by decide) ok_oneE ok_noE (by decide) okB_nil (by decide) okB_nil)) (by decide) okB_nil,
    okB_one (okS_mk (by decide) (by decide) (by decide) ok_xE ok_noE (by decide) okB_nil (by decide) okB_nil)⟩
theorem ok_qP : OkP qP :=
  ⟨by decide, by decide, fun j h => absurd h (Nat.not_lt_zero _), by decide, okB_one (okS_mk (by decide) (by decide) (by decide) ok_oneE ok_oneE (by decide) (okB_one (okS_mk (by decide) (by decide) (by decide) ok_oneE ok_noE (by decide) okB_nil (by decide) okB_nil)) (by decide) okB_nil)⟩
theorem ok_rP : OkP rP := by
  refine ⟨by decide, by decide, fun j h => ?_, by decide, okB_one (okS_mk (by decide) (by decide) (by decide) ok_has ok_noE (by decide) okB_nil (by decide) okB_nil)⟩
  have hj : j < 1 := h
  have hj0 : j = 0 := by omega
  subst hj0
  show (⟨#[97]⟩ : ByteArray).size ≤ _
  decide
theorem sz_p : A.cB pP.body ≤ 900000 := by decide +kernel
theorem sz_q : A.cB qP.body ≤ 900000 := by decide +kernel
theorem sz_r : A.cB rP.body ≤ 900000 := by decide +kernel
theorem sz_e1 : 1 + cE e1 ≤ 1000000 := by decide +kernel
theorem sz_e2 : 1 + cE e2 ≤ 1000000 := by decide +kernel
theorem sz_e3 : 1 + cE e3 ≤ 1000000 := by decide +kernel
theorem ov_1 : OkV [x1] := OkV.mk (by decide) (fun q hq => by rw [List.mem_singleton.1 hq]; decide) (fun q hq => by rw [List.mem_singleton.1 hq]; decide)
theorem ov_0 : OkV [] := OkV.mk (by decide) (fun q hq => (nomatch hq)) (fun q hq => (nomatch hq))
/-! ### where they lie -/
theorem at_lf {F : World} {g i : Nat} {o n : Int} {s : ByteArray} (h0 : F.cell? ⟨g, i, none⟩ = some (.int .i64 o)) (h1 : F.cell? ⟨g, i + 1, none⟩ = some (.int .i64 n)) (h2 : F.cell? ⟨g, i + 2, none⟩ = some (.string s)) (h3 : F.cell? ⟨g, i + 3, none⟩ = some (.slice none 0 0)) : ExAt F (lf o n s) g i :=
  ⟨h0, h1, h2, none, 0, h3, Or.inl rfl⟩
theorem kids_l1 {F : World} {g : Nat} {o n : Int} {s : ByteArray} (h : Bx F g #[.int .i64 o, .int .i64 n, .string s, .slice none 0 0] 52) : A.Kids F (some ⟨g, 0, none⟩) [lf o n s] :=
  Or.inr ⟨g, 0, rfl, at_lf (h.cell 0) (h.cell 1) (h.cell 2) (h.cell 3), trivial⟩
theorem kids_l2 {F : World} {g : Nat} {o n o' n' : Int} {s s' : ByteArray} (h : Bx F g #[.int .i64 o, .int .i64 n, .string s, .slice none 0 0, .int .i64 o', .int .i64 n', .string s', .slice none 0 0] 52) : A.Kids F (some ⟨g, 0, none⟩) [lf o n s, lf o' n' s'] :=
  Or.inr ⟨g, 0, rfl, at_lf (h.cell 0) (h.cell 1) (h.cell 2) (h.cell 3), at_lf (h.cell 4) (h.cell 5) (h.cell 6) (h.cell 7), trivial⟩
end Go.Proofs.YtgjnddjpinhkgaaDoor.Y
