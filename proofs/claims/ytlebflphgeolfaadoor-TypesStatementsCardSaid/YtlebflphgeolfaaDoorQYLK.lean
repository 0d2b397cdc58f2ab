/-
  The laws of layer 11: the types of the statements of a procedure that passes the check.
-/
import Derived.Test.YtlebflphgeolfaaDoorM08
import Derived.Test.YtlebflphgeolfaaDoorDA
import Derived.Test.YtlebflphgeolfaaDoorQYLH
namespace Go.Proofs.YtlebflphgeolfaaDoor.Y
open Go.RowKit
open L (Str isName prt size_len below_2 below_box ret_bool ret_int eql_eq bytes_eq)
open A (Ex St Pm Pr V arity vE vEs absent exV exO exV_mk Bx okE okEs cE cEs PmsAt StrsAt PrIn OkP prV prO names valE ExsAt ExAt StsAt StAt Bodies RowK Own1 Stays okS okB cS cB preS preB preR preE walk VT vcs vs small)
open P (G Kd On off_of wp_region_G)

theorem vis_cells {w : World} {B q : Nat} {p : Option Addr} {l : List VT} (h : w.ownsRow B 61 20 (.slice p l.length q) l.length (vcs l)) {j : Nat} (hj : j < l.length) :
    ∃ g, p = some ⟨g, 0, none⟩ ∧ ∀ r, r < 20 → w.cell? ⟨g, j * 20 + r, none⟩ = (l[j]).cells[r]? := by
  rcases h.2 with ⟨hv, h0⟩ | ⟨g, cap, cur, hv, _⟩
  · omega
  · injection hv with h1 h2 h3
    subst h1
    refine ⟨g, rfl, fun r hr => ?_⟩
    have hlt : j * 20 + r < l.length * 20 := by omega
    rw [World.ownsRow.cellAt h (j * 20 + r) hlt]
    have : ∀ (l : List VT) (j : Nat) (hj : j < l.length), (vcs l)[j * 20 + r]? = (l[j]).cells[r]? := by
      intro l
      induction l with
      | nil => intro j hj; exact absurd hj (Nat.not_lt_zero _)
      | cons x l ih =>
        intro j hj
        unfold vcs at ih ⊢
        rw [List.flatMap_cons]
        cases j with
        | zero => rw [List.getElem?_append_left (by rw [A.VT.cells_len]; omega)]; simp
        | succ j =>
          rw [List.getElem?_append_right (by rw [A.VT.cells_len]; omega), A.VT.cells_len, show (j + 1) * 20 + r - 20 = j * 20 + r by omega]
          exact ih j (by simpa using hj)
    exact this l j hj
/-- a row of the walk: its statement (a node's row holds an empty one) -/
structure RowSt (g : Env) (w5 wr : World) (g3 k : Nat) (s : St) (a5 : Option Addr) (c5 : Nat) (a6 : Option Addr) (c6 : Nat) (a7 : Option Addr) (c7 : Nat) (a8 : Option Addr) (c8 : Nat) : Prop where
  e0 : wr.cell? ⟨g3, k * 20 + 1, none⟩ = some (.int .i64 s.op)
  e1 : wr.cell? ⟨g3, k * 20 + 1 + 1, none⟩ = some (.string s.name)
  e2 : wr.cell? ⟨g3, k * 20 + 1 + 2, none⟩ = some (.int .i64 s.mx)
  e3 : wr.cell? ⟨g3, k * 20 + 1 + 3, none⟩ = some (.int .i64 s.a.op)
  e4 : wr.cell? ⟨g3, k * 20 + 1 + 4, none⟩ = some (.int .i64 s.a.n)
  e5 : wr.cell? ⟨g3, k * 20 + 1 + 5, none⟩ = some (.string s.a.s)
  e6 : wr.cell? ⟨g3, k * 20 + 1 + 6, none⟩ = some (.slice a5 s.a.args.length c5)
  e7 : wr.cell? ⟨g3, k * 20 + 1 + 7, none⟩ = some (.int .i64 s.b.op)
  e8 : wr.cell? ⟨g3, k * 20 + 1 + 8, none⟩ = some (.int .i64 s.b.n)
  e9 : wr.cell? ⟨g3, k * 20 + 1 + 9, none⟩ = some (.string s.b.s)
  e10 : wr.cell? ⟨g3, k * 20 + 1 + 10, none⟩ = some (.slice a6 s.b.args.length c6)
  e11 : wr.cell? ⟨g3, k * 20 + 1 + 11, none⟩ = some (.slice a7 s.body.length c7)
  e12 : wr.cell? ⟨g3, k * 20 + 1 + 12, none⟩ = some (.slice a8 s.els.length c8)
  ka : A.Kids w5 a5 s.a.args
  kb : A.Kids w5 a6 s.b.args
  oa : okE s.a ∧ 1 + cE s.a ≤ 1000000
  ob : okE s.b ∧ 1 + cE s.b ≤ 1000000
  nz : s.name.size ≤ 1000000000000000
  lw : LwSt g s
theorem okE_0 : okE (.mk 0 0 ⟨#[]⟩ []) := okE_lf 0 0 ⟨#[]⟩ (by decide) (by decide) (by decide)
theorem row_st {p : Pr} (C : Chk p) (hok : OkP p) (hsz : cB p.body ≤ 900000) {w5 wr : World} {B q : Nat} {p4 : Option Addr} {l : List VT} (h : w5.ownsRow B 61 20 (.slice p4 l.length q) l.length (vcs l)) (hv : vs l = walk p)
    (hi : ∀ x ∈ l, x.In w5) (hb : Below w5.heap.size w5 wr) {k : Nat} (hk : k < l.length) :
    ∃ g3, p4 = some ⟨g3, 0, none⟩ ∧ ∃ s a5 c5 a6 c6 a7 c7 a8 c8, RowSt (look (chk p).1) w5 wr g3 k s a5 c5 a6 c6 a7 c7 a8 c8 := by
  obtain ⟨g3, rfl, hcell⟩ := vis_cells h hk
  refine ⟨g3, rfl, ?_⟩
  have hin := hi _ (List.getElem_mem hk)
  have hlw : l.length = (walk p).length := by rw [← hv]; exact (List.length_map _).symm
  have hvk : (l[k]).v ∈ walk p := by rw [← hv]; exact List.mem_map.2 ⟨_, List.getElem_mem hk, rfl⟩
  have hg3 : g3 < w5.heap.size := by
    have h0 := hcell 0 (by omega)
    cases hh : l[k] with
    | st s d a5 c5 a6 c6 a7 c7 a8 c8 => rw [hh] at h0; exact block_lt_of_cell (show w5.cell? ⟨g3, k * 20 + 0, none⟩ = some (.bool true) from h0)
    | ex e r a5 c5 => rw [hh] at h0; exact block_lt_of_cell (show w5.cell? ⟨g3, k * 20 + 0, none⟩ = some (.bool false) from h0)
  have hcr : ∀ r, r < 20 → wr.cell? ⟨g3, k * 20 + r, none⟩ = (l[k]).cells[r]? := fun r hr => (hb.cell (by exact hg3)).trans (hcell r hr)
  generalize l[k] = y at hcr hin hvk
  cases y with
  | st s d a5 c5 a6 c6 a7 c7 a8 c8 =>
    obtain ⟨k1, k2⟩ := ok_walk hok.body hvk
    obtain ⟨h1, h2⟩ := okS_ab k1
    obtain ⟨h3, h4⟩ := cS_ab s
    refine ⟨s, a5, c5, a6, c6, a7, c7, a8, c8, ⟨hcr 1 (by omega), hcr 2 (by omega), hcr 3 (by omega), hcr 4 (by omega), hcr 5 (by omega), hcr 6 (by omega), hcr 7 (by omega), hcr 8 (by omega), hcr 9 (by omega), hcr 10 (by omega), hcr 11 (by omega), hcr 12 (by omega), hcr 13 (by omega), hin.a, hin.b, ⟨h1, by omega⟩, ⟨h2, by omega⟩, ?_, lw_of C hvk⟩⟩
    obtain ⟨o, nm, mx, a, b, bd, el⟩ := s
    rw [okS] at k1
    exact k1.2.1
  | ex e r a5 c5 =>
    refine ⟨.mk 0 ⟨#[]⟩ 0 (.mk 0 0 ⟨#[]⟩ []) (.mk 0 0 ⟨#[]⟩ []) [] [], none, 0, none, 0, none, 0, none, 0, ⟨hcr 1 (by omega), hcr 2 (by omega), hcr 3 (by omega), hcr 4 (by omega), hcr 5 (by omega), hcr 6 (by omega), hcr 7 (by omega), hcr 8 (by omega), hcr 9 (by omega), hcr 10 (by omega), hcr 11 (by omega), hcr 12 (by omega), hcr 13 (by omega), Or.inl rfl, Or.inl rfl, ⟨okE_0, by decide +kernel⟩, ⟨okE_0, by decide +kernel⟩, by decide, ?_⟩⟩
    refine ⟨fun h => ?_, fun h => ?_, fun h => ?_, fun h => ?_, fun h => ?_, fun h => ?_⟩
    · rcases h with h | h <;> exact absurd h (by decide)
    all_goals exact absurd h (by decide)
end Go.Proofs.YtlebflphgeolfaaDoor.Y
