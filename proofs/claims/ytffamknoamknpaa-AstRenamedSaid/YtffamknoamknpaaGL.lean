/-
  The examples of the law package of layer 8: example and variable: contracts; what the specification says of them.
  The examples of the law package of layer 8: what example returns.
  The examples of the law package of layer 8: works returns true.
  The examples of the law package of layer 8: works returns true.
-/
import Derived.Test.YtffamknoamknpaaGI
import Derived.Test.YtffamknoamknpaaG9
import Derived.Deep.RegionLaw
import Derived.Deep.RegionWith
import Derived.Laws.NewBlocks
import Derived.Test.YtffamknoamknpaaGJ
import Derived.Test.YtffamknoamknpaaGX
import Derived.Test.YtffamknoamknpaaGS
import Derived.Test.YtffamknoamknpaaGK
namespace Go.Proofs.Ytffamknoamknpaa.A
open Go.RowKit
open L (Str isName prt size_len below_2 below_box ret_bool ret_int eql_eq bytes_eq)

def zE : Ex := .mk 0 0 ⟨#[]⟩ []
def vEx (s : ByteArray) : Ex := .mk 3 0 s []
def iEx (n : Int) : Ex := .mk 1 n ⟨#[]⟩ []
def exW (s : ByteArray) : Pr := ⟨⟨#[112]⟩, [⟨s, 1⟩], [.mk 7 ⟨#[]⟩ 0 (vEx s) zE [] [], .mk 3 ⟨#[]⟩ 0 (.mk 2 0 ⟨#[107]⟩ []) (.mk 4 0 ⟨#[]⟩ [iEx 1, vEx s]) [] []]⟩
def exP : Pr := exW ⟨#[110]⟩
def exQ : Pr := exW ⟨#[109]⟩
theorem ex_val : valE exP = 0 := by decide +kernel
theorem ex_ren : rename exP ⟨#[110]⟩ ⟨#[109]⟩ = (exQ, 0) := by
  have h1 : nam ⟨#[109]⟩ = true := by decide +kernel
  have h2 : (names exP).any (fun x => decide (x = ⟨#[110]⟩)) = true := by decide +kernel
  have h3 : occurs exP ⟨#[109]⟩ = false := by decide +kernel
  unfold rename
  rw [if_neg (fun h => h ex_val), h1, if_neg (by decide), h2, if_neg (by decide), h3, if_neg (by decide)]
  rfl
theorem ex_ren7 : rename exP ⟨#[110]⟩ ⟨#[105, 102]⟩ = (noPr, 7) := by
  have h1 : nam ⟨#[105, 102]⟩ = false := by decide +kernel
  unfold rename
  rw [if_neg (fun h => h ex_val), h1, if_pos rfl]
theorem ex_ren9 : rename exP ⟨#[120]⟩ ⟨#[109]⟩ = (noPr, 9) := by
  have h1 : nam ⟨#[109]⟩ = true := by decide +kernel
  have h2 : (names exP).any (fun x => decide (x = ⟨#[120]⟩)) = false := by decide +kernel
  unfold rename
  rw [if_neg (fun h => h ex_val), h1, if_neg (by decide), h2, if_pos rfl]
theorem ex_nodes : nodes exP = 7 := by decide +kernel
theorem ex_depth : depth exP = 1 := by decide +kernel
theorem ex_exprs : (exprs exP).length = 3 := by decide +kernel
theorem ex_names : names exP = [⟨#[110]⟩] := by decide +kernel
theorem ex_eq : eqP exP exP = true := (eqP_iff _ _).2 rfl
theorem ex_ne : eqP exP exQ = false := by decide +kernel
theorem ex_bad : vE (iEx (-1)) 1 = 1 := by decide +kernel
theorem ex_cB (s : ByteArray) (h : s.size < 64) : cB (exW s).body = 8 := by
  have h2 : s.size / 64 = 0 := by omega
  have h0 : (⟨#[]⟩ : ByteArray).size = 0 := rfl
  have h3 : (⟨#[107]⟩ : ByteArray).size = 1 := rfl
  simp [exW, vEx, zE, iEx, cB, cS, cE, cEs, h2, h0, h3]
theorem ex_okE (s : ByteArray) (h : s.size ≤ 200) : okB (exW s).body := by
  have h0 : (⟨#[]⟩ : ByteArray).size = 0 := rfl
  have h3 : (⟨#[107]⟩ : ByteArray).size = 1 := rfl
  simp [exW, vEx, zE, iEx, okB, okS, okE, okEs, h0, h3]
  omega
theorem ex_ok (s : ByteArray) (h : s.size ≤ 200) : OkP (exW s) := by
  refine ⟨by show (⟨#[112]⟩ : ByteArray).size ≤ _; decide, by show (1 : Nat) ≤ _; decide, fun j hj => ?_, by show (2 : Nat) ≤ _; decide, ex_okE s h⟩
  have hj0 : j = 0 := by have : j < 1 := hj; omega
  subst hj0
  show s.size ≤ _
  omega
theorem ex_ps (s : ByteArray) (h : s.size ≤ 200) : ∀ j (hj : j < (exW s).params.length), (exW s).params[j].name.size ≤ 281474976710656 := fun j hj => by
  have hj0 : j = 0 := by have : j < 1 := hj; omega
  subst hj0
  show s.size ≤ _
  omega
set_option maxRecDepth 100000 in
theorem variable_any (s : ByteArray) (w : World) : Calls Try.prog 67 #[.string s] w fun e w' => e = .returned (.agg #[.int .i64 3, .int .i64 0, .string s, .slice none 0 0]) ∧ Below w.heap.size w w' := by
  have hb := below_box w (.cells #[.int .i64 3, .int .i64 0, .string s, .slice none 0 0] 27)
  have HB := Lib.hid hb
  clear hb
  go_enter Try.func67, Try.ntmps67
  go_wp2_with fail
  refine bodyPost_ret (v := .agg #[.int .i64 3, .int .i64 0, .string s, .slice none 0 0]) (by simp [results, Try.results67, go_sem]) rfl ?_
  exact ⟨rfl, HB.out⟩
end Go.Proofs.Ytffamknoamknpaa.A
namespace Go.Proofs.Ytffamknoamknpaa.A
open Go.RowKit
open L (Str isName prt size_len below_2 below_box ret_bool ret_int eql_eq bytes_eq)
theorem ex_in {F : World} {P S A : Nat} (hP : Bx F P #[.string ⟨#[110]⟩, .int .i64 1] 52) (hS : Bx F S #[.int .i64 7, .string ⟨#[]⟩, .int .i64 0, .int .i64 3, .int .i64 0, .string ⟨#[110]⟩, .slice none 0 0, .int .i64 0, .int .i64 0, .string ⟨#[]⟩, .slice none 0 0, .slice none 0 0, .slice none 0 0, .int .i64 3, .string ⟨#[]⟩, .int .i64 0, .int .i64 2, .int .i64 0, .string ⟨#[107]⟩, .slice none 0 0, .int .i64 4, .int .i64 0, .string ⟨#[]⟩, .slice (some ⟨A, 0, none⟩) 2 2, .slice none 0 0, .slice none 0 0] 54) (hA : Bx F A #[.int .i64 1, .int .i64 1, .string ⟨#[]⟩, .slice none 0 0, .int .i64 3, .int .i64 0, .string ⟨#[110]⟩, .slice none 0 0] 27) : PrIn F exP (some ⟨P, 0, none⟩) (some ⟨S, 0, none⟩) := by
  refine ⟨Or.inr ⟨P, 0, rfl, fun j hj => ?_⟩, Or.inr ⟨S, 0, rfl, ?_⟩⟩
  · have hj0 : j = 0 := by have : j < 1 := hj; omega
    subst hj0
    exact ⟨hP.cell 0, hP.cell 1⟩
  · have hA1 : ExsAt F [iEx 1, vEx ⟨#[110]⟩] A 0 := by
      refine ⟨⟨hA.cell 0, hA.cell 1, hA.cell 2, none, 0, hA.cell 3, Or.inl rfl⟩, ⟨hA.cell 4, hA.cell 5, hA.cell 6, none, 0, hA.cell 7, Or.inl rfl⟩, trivial⟩
    exact ⟨⟨hS.cell 0, hS.cell 1, hS.cell 2, ⟨hS.cell 3, hS.cell 4, hS.cell 5, none, 0, hS.cell 6, Or.inl rfl⟩, ⟨hS.cell 7, hS.cell 8, hS.cell 9, none, 0, hS.cell 10, Or.inl rfl⟩, ⟨none, 0, hS.cell 11, Or.inl rfl⟩, ⟨none, 0, hS.cell 12, Or.inl rfl⟩⟩,
      ⟨hS.cell 13, hS.cell 14, hS.cell 15, ⟨hS.cell 16, hS.cell 17, hS.cell 18, none, 0, hS.cell 19, Or.inl rfl⟩, ⟨hS.cell 20, hS.cell 21, hS.cell 22, some ⟨A, 0, none⟩, 2, hS.cell 23, Or.inr ⟨A, 0, rfl, hA1⟩⟩, ⟨none, 0, hS.cell 24, Or.inl rfl⟩, ⟨none, 0, hS.cell 25, Or.inl rfl⟩⟩, trivial⟩
theorem ex_fin {w w7 : World} {P A : Nat} (hb : Below w.heap.size w w7) (hx : Bx w7 w.heap.size #[.string ⟨#[112]⟩, .slice (some ⟨P, 0, none⟩) 1 1, .slice (some ⟨w7.heap.size, 0, none⟩) 2 2] 35) (hP : Bx w7 P #[.string ⟨#[110]⟩, .int .i64 1] 52) (hA : Bx w7 A #[.int .i64 1, .int .i64 1, .string ⟨#[]⟩, .slice none 0 0, .int .i64 3, .int .i64 0, .string ⟨#[110]⟩, .slice none 0 0] 27) :
    (w7.alloc (.cells #[.int .i64 7, .string ⟨#[]⟩, .int .i64 0, .int .i64 3, .int .i64 0, .string ⟨#[110]⟩, .slice none 0 0, .int .i64 0, .int .i64 0, .string ⟨#[]⟩, .slice none 0 0, .slice none 0 0, .slice none 0 0, .int .i64 3, .string ⟨#[]⟩, .int .i64 0, .int .i64 2, .int .i64 0, .string ⟨#[107]⟩, .slice none 0 0, .int .i64 4, .int .i64 0, .string ⟨#[]⟩, .slice (some ⟨A, 0, none⟩) 2 2, .slice none 0 0, .slice none 0 0] 54)).cell? ⟨w.heap.size, 0, none⟩ = some (.string ⟨#[112]⟩) ∧ (w7.alloc (.cells #[.int .i64 7, .string ⟨#[]⟩, .int .i64 0, .int .i64 3, .int .i64 0, .string ⟨#[110]⟩, .slice none 0 0, .int .i64 0, .int .i64 0, .string ⟨#[]⟩, .slice none 0 0, .slice none 0 0, .slice none 0 0, .int .i64 3, .string ⟨#[]⟩, .int .i64 0, .int .i64 2, .int .i64 0, .string ⟨#[107]⟩, .slice none 0 0, .int .i64 4, .int .i64 0, .string ⟨#[]⟩, .slice (some ⟨A, 0, none⟩) 2 2, .slice none 0 0, .slice none 0 0] 54)).cell? ⟨w.heap.size, 1, none⟩ = some (.slice (some ⟨P, 0, none⟩) 1 1) ∧ (w7.alloc (.cells #[.int .i64 7, .string ⟨#[]⟩, .int .i64 0, .int .i64 3, .int .i64 0, .string ⟨#[110]⟩, .slice none 0 0, .int .i64 0, .int .i64 0, .string ⟨#[]⟩, .slice none 0 0, .slice none 0 0, .slice none 0 0, .int .i64 3, .string ⟨#[]⟩, .int .i64 0, .int .i64 2, .int .i64 0, .string ⟨#[107]⟩, .slice none 0 0, .int .i64 4, .int .i64 0, .string ⟨#[]⟩, .slice (some ⟨A, 0, none⟩) 2 2, .slice none 0 0, .slice none 0 0] 54)).cell? ⟨w.heap.size, 2, none⟩ = some (.slice (some ⟨w7.heap.size, 0, none⟩) 2 2) ∧
    PrIn (w7.alloc (.cells #[.int .i64 7, .string ⟨#[]⟩, .int .i64 0, .int .i64 3, .int .i64 0, .string ⟨#[110]⟩, .slice none 0 0, .int .i64 0, .int .i64 0, .string ⟨#[]⟩, .slice none 0 0, .slice none 0 0, .slice none 0 0, .int .i64 3, .string ⟨#[]⟩, .int .i64 0, .int .i64 2, .int .i64 0, .string ⟨#[107]⟩, .slice none 0 0, .int .i64 4, .int .i64 0, .string ⟨#[]⟩, .slice (some ⟨A, 0, none⟩) 2 2, .slice none 0 0, .slice none 0 0] 54)) exP (some ⟨P, 0, none⟩) (some ⟨w7.heap.size, 0, none⟩) ∧ Below w.heap.size w (w7.alloc (.cells #[.int .i64 7, .string ⟨#[]⟩, .int .i64 0, .int .i64 3, .int .i64 0, .string ⟨#[110]⟩, .slice none 0 0, .int .i64 0, .int .i64 0, .string ⟨#[]⟩, .slice none 0 0, .slice none 0 0, .slice none 0 0, .int .i64 3, .string ⟨#[]⟩, .int .i64 0, .int .i64 2, .int .i64 0, .string ⟨#[107]⟩, .slice none 0 0, .int .i64 4, .int .i64 0, .string ⟨#[]⟩, .slice (some ⟨A, 0, none⟩) 2 2, .slice none 0 0, .slice none 0 0] 54)) := by
  have hb2 := below_box w7 (.cells #[.int .i64 7, .string ⟨#[]⟩, .int .i64 0, .int .i64 3, .int .i64 0, .string ⟨#[110]⟩, .slice none 0 0, .int .i64 0, .int .i64 0, .string ⟨#[]⟩, .slice none 0 0, .slice none 0 0, .slice none 0 0, .int .i64 3, .string ⟨#[]⟩, .int .i64 0, .int .i64 2, .int .i64 0, .string ⟨#[107]⟩, .slice none 0 0, .int .i64 4, .int .i64 0, .string ⟨#[]⟩, .slice (some ⟨A, 0, none⟩) 2 2, .slice none 0 0, .slice none 0 0] 54)
  have hx2 := hx.below hb2
  exact ⟨hx2.cell 0, hx2.cell 1, hx2.cell 2, ex_in (hP.below hb2) (Bx.new _ _ _) (hA.below hb2), below_2 hb hb2⟩
set_option maxHeartbeats 4000000 in
set_option maxRecDepth 100000 in
theorem example_any (w : World) : Calls Try.prog 35 #[] w fun e w' => (∃ a1 a2, e = .returned (prV exP a1 1 a2 2) ∧ PrIn w' exP a1 a2) ∧ Below w.heap.size w w' := by
  have HV := Lib.hid (variable_any ⟨#[110]⟩)
  have hb1 := below_box w (.cells #[.string ⟨#[]⟩, .slice none 0 0, .slice none 0 0] 35)
  have hx1 := Bx.new w #[.string ⟨#[]⟩, .slice none 0 0, .slice none 0 0] 35
  have HB1 := Lib.hid hb1
  have HX1 := Lib.hid hx1
  clear hb1 hx1
  go_enter Try.func35, Try.ntmps35
  go_wp2_with fail
  refine (HV.out _).mono ?_; rintro e w2 ⟨rfl, hb2⟩
  have HB2 := Lib.hid hb2
  have HX2 := Lib.hid (HX1.out.below hb2)
  clear hb2
  go_wp2_with fail
  have hx3 := Bx.new w2 #[.int .i64 1, .int .i64 1, .string ⟨#[]⟩, .slice none 0 0, .int .i64 3, .int .i64 0, .string ⟨#[110]⟩, .slice none 0 0] 27
  have hx4 := Bx.new (w2.alloc (.cells #[.int .i64 1, .int .i64 1, .string ⟨#[]⟩, .slice none 0 0, .int .i64 3, .int .i64 0, .string ⟨#[110]⟩, .slice none 0 0] 27)) #[.int .i64 4, .int .i64 0, .string ⟨#[]⟩, .slice (some ⟨w2.heap.size, 0, none⟩) 2 2] 27
  have hb4 := below_2 (below_box w2 (.cells #[.int .i64 1, .int .i64 1, .string ⟨#[]⟩, .slice none 0 0, .int .i64 3, .int .i64 0, .string ⟨#[110]⟩, .slice none 0 0] 27)) (below_box (w2.alloc (.cells #[.int .i64 1, .int .i64 1, .string ⟨#[]⟩, .slice none 0 0, .int .i64 3, .int .i64 0, .string ⟨#[110]⟩, .slice none 0 0] 27)) (.cells #[.int .i64 4, .int .i64 0, .string ⟨#[]⟩, .slice (some ⟨w2.heap.size, 0, none⟩) 2 2] 27))
  have hx3' := hx3.below (below_box (w2.alloc (.cells #[.int .i64 1, .int .i64 1, .string ⟨#[]⟩, .slice none 0 0, .int .i64 3, .int .i64 0, .string ⟨#[110]⟩, .slice none 0 0] 27)) (.cells #[.int .i64 4, .int .i64 0, .string ⟨#[]⟩, .slice (some ⟨w2.heap.size, 0, none⟩) 2 2] 27))
  rw [show (w2.alloc (.cells #[.int .i64 1, .int .i64 1, .string ⟨#[]⟩, .slice none 0 0, .int .i64 3, .int .i64 0, .string ⟨#[110]⟩, .slice none 0 0] 27)).heap.size = w2.heap.size + 1 by simp] at hx4
  generalize (w2.alloc (.cells #[.int .i64 1, .int .i64 1, .string ⟨#[]⟩, .slice none 0 0, .int .i64 3, .int .i64 0, .string ⟨#[110]⟩, .slice none 0 0] 27)).alloc (.cells #[.int .i64 4, .int .i64 0, .string ⟨#[]⟩, .slice (some ⟨w2.heap.size, 0, none⟩) 2 2] 27) = w5 at *
  have hlw : w.heap.size < w2.heap.size := HX2.out.lt
  have HX3 := Lib.hid hx3'
  have HX4 := Lib.hid hx4
  have HX5 := Lib.hid (HX2.out.below hb4)
  have HB5 := Lib.hid (below_2 (below_2 HB1.out HB2.out) hb4)
  clear hx3 hx3' hx4 hb4
  have x0 := HX4.out.cell 0
  have x1 := HX4.out.cell 1
  have x2 := HX4.out.cell 2
  have x3 := HX4.out.cell 3
  simp at x0 x1 x2 x3
  have xlt : w2.heap.size + 1 < w5.heap.size := HX4.out.lt
  go_region_law (go_simp; go_at_call 67; refine (HV.out _).mono ?_; rintro e' w6 ⟨rfl, hb6⟩; have HB6 : Hid (Below w5.heap.size w5 w6) := (by first | exact below_2 (L.below_drew _) hb6 | exact below_2 (below_2 (L.below_drew _) (below_box _ _)) hb6); have HP6 := Lib.hid hb6; have hx6 := HX4.out.below HB6.out; have y0 := hx6.cell 0; have y1 := hx6.cell 1; have y2 := hx6.cell 2; have y3 := hx6.cell 3; have hz6 := HX5.out.below HB6.out; have z0 := hz6.cell 0; have z1 := hz6.cell 1; have z2 := hz6.cell 2; have zf0 := hz6.free 0; have zf1 := hz6.free 1; have zf2 := hz6.free 2; have zlt : w.heap.size < w6.heap.size := hz6.lt; have zle : w.heap.size ≤ w6.heap.size := Nat.le_of_lt zlt; have ylt : w2.heap.size + 1 < w6.heap.size := hx6.lt; have yle : w2.heap.size + 1 ≤ w6.heap.size := Nat.le_of_lt ylt; simp at y0 y1 y2 y3 z0 z1 z2; clear hx6 hz6)
  all_goals
    have hz6 := HX5.out.below HB6.out
    have hs6 := HX3.out.below HB6.out
    have hlt6 := HX5.out.lt
    have hls6 := HX3.out.lt
    have hzw := HB5.out.size
    have hzz6 := HB6.out.size
    clear y0 y1 y2 y3 z0 z1 z2 zf0 zf1 zf2 zlt zle ylt yle xlt x0 x1 x2 x3
    first
      | (have hp6 : Bx w6 w5.heap.size #[.string ⟨#[110]⟩, .int .i64 1] 52 := (Bx.new w5.drew #[.string ⟨#[110]⟩, .int .i64 1] 52).below HP6.out
         have hx7 := ((hz6.set 0 (u := .string ⟨#[112]⟩)).set 1 (u := .slice (some ⟨w5.heap.size, 0, none⟩) 1 1)).set 2 (u := .slice (some ⟨w6.heap.size, 0, none⟩) 2 2)
         simp only [List.setIfInBounds_toArray, List.set_cons_succ, List.set_cons_zero] at hx7
         have hb7 := (((below_2 HB5.out HB6.out).setCell (p := ⟨w.heap.size, 0, none⟩) (Nat.le_refl _) (.string ⟨#[112]⟩)).setCell (p := ⟨w.heap.size, 1, none⟩) (Nat.le_refl _) (.slice (some ⟨w5.heap.size, 0, none⟩) 1 1)).setCell (p := ⟨w.heap.size, 2, none⟩) (Nat.le_refl _) (.slice (some ⟨w6.heap.size, 0, none⟩) 2 2)
         have HF := Lib.hid (ex_fin (A := w2.heap.size) (P := w5.heap.size) hb7 (by simpa using hx7) (((hp6.keep (Below.heap_setCell _ _ _ _ (by show w5.heap.size ≠ w.heap.size; omega))).keep (Below.heap_setCell _ _ _ _ (by show w5.heap.size ≠ w.heap.size; omega))).keep (Below.heap_setCell _ _ _ _ (by show w5.heap.size ≠ w.heap.size; omega))) (((hs6.keep (Below.heap_setCell _ _ _ _ (by show w2.heap.size ≠ w.heap.size; omega))).keep (Below.heap_setCell _ _ _ _ (by show w2.heap.size ≠ w.heap.size; omega))).keep (Below.heap_setCell _ _ _ _ (by show w2.heap.size ≠ w.heap.size; omega))))
         simp only [World.size_setCell] at HF
         obtain ⟨q0, q1, q2, hin, hbf⟩ := HF.out
         have HR : Hid ((∃ a1 a2, Ending.returned (.agg #[.string ⟨#[112]⟩, .slice (some ⟨w5.heap.size, 0, none⟩) 1 1, .slice (some ⟨w6.heap.size, 0, none⟩) 2 2]) = .returned (prV exP a1 1 a2 2) ∧ PrIn _ exP a1 a2) ∧ Below w.heap.size w _) := ⟨⟨_, _, rfl, hin⟩, hbf⟩
         clear hin hbf hx7 hb7 hp6 hz6 hs6 HF
         go_wp2_with fail
         refine bodyPost_ret (v := .agg #[.string ⟨#[112]⟩, .slice (some ⟨w5.heap.size, 0, none⟩) 1 1, .slice (some ⟨w6.heap.size, 0, none⟩) 2 2]) (by simp [results, Try.results35, go_sem, q0, q1, q2]) rfl ?_
         exact HR.out)
      | (have hx7 := (((hz6.set 0 (u := .string ⟨#[112]⟩)).set 1 (u := .slice (some ⟨w6.heap.size, 0, none⟩) 1 1)).set 2 (u := .slice (some ⟨w6.heap.size + 1, 0, none⟩) 2 2)).below (below_box _ (.cells #[.string ⟨#[110]⟩, .int .i64 1] 52))
         simp only [List.setIfInBounds_toArray, List.set_cons_succ, List.set_cons_zero] at hx7
         have hb7 := below_2 ((((below_2 HB5.out HB6.out).setCell (p := ⟨w.heap.size, 0, none⟩) (Nat.le_refl _) (.string ⟨#[112]⟩)).setCell (p := ⟨w.heap.size, 1, none⟩) (Nat.le_refl _) (.slice (some ⟨w6.heap.size, 0, none⟩) 1 1)).setCell (p := ⟨w.heap.size, 2, none⟩) (Nat.le_refl _) (.slice (some ⟨w6.heap.size + 1, 0, none⟩) 2 2)) (below_box _ (.cells #[.string ⟨#[110]⟩, .int .i64 1] 52))
         have hp7 : Bx ((((w6.setCell ⟨w.heap.size, 0, none⟩ (.string ⟨#[112]⟩)).setCell ⟨w.heap.size, 1, none⟩ (.slice (some ⟨w6.heap.size, 0, none⟩) 1 1)).setCell ⟨w.heap.size, 2, none⟩ (.slice (some ⟨w6.heap.size + 1, 0, none⟩) 2 2)).alloc (.cells #[.string ⟨#[110]⟩, .int .i64 1] 52)) w6.heap.size #[.string ⟨#[110]⟩, .int .i64 1] 52 := by simpa using Bx.new (((w6.setCell ⟨w.heap.size, 0, none⟩ (.string ⟨#[112]⟩)).setCell ⟨w.heap.size, 1, none⟩ (.slice (some ⟨w6.heap.size, 0, none⟩) 1 1)).setCell ⟨w.heap.size, 2, none⟩ (.slice (some ⟨w6.heap.size + 1, 0, none⟩) 2 2)) #[.string ⟨#[110]⟩, .int .i64 1] 52
         have HF := Lib.hid (ex_fin (A := w2.heap.size) (P := w6.heap.size) hb7 (by simpa using hx7) hp7 ((((hs6.keep (Below.heap_setCell _ _ _ _ (by show w2.heap.size ≠ w.heap.size; omega))).keep (Below.heap_setCell _ _ _ _ (by show w2.heap.size ≠ w.heap.size; omega))).keep (Below.heap_setCell _ _ _ _ (by show w2.heap.size ≠ w.heap.size; omega))).below (below_box _ _)))
         simp only [World.size_setCell, World.size_alloc] at HF
         obtain ⟨q0, q1, q2, hin, hbf⟩ := HF.out
         have HR : Hid ((∃ a1 a2, Ending.returned (.agg #[.string ⟨#[112]⟩, .slice (some ⟨w6.heap.size, 0, none⟩) 1 1, .slice (some ⟨w6.heap.size + 1, 0, none⟩) 2 2]) = .returned (prV exP a1 1 a2 2) ∧ PrIn _ exP a1 a2) ∧ Below w.heap.size w _) := ⟨⟨_, _, rfl, hin⟩, hbf⟩
         clear hin hbf hx7 hb7 hp7 hz6 hs6 HF
         go_wp2_with fail
         refine bodyPost_ret (v := .agg #[.string ⟨#[112]⟩, .slice (some ⟨w6.heap.size, 0, none⟩) 1 1, .slice (some ⟨w6.heap.size + 1, 0, none⟩) 2 2]) (by simp [results, Try.results35, go_sem, q0, q1, q2]) rfl ?_
         exact HR.out)
      | (have hb8 := below_2 (below_box (((w6.setCell ⟨w.heap.size, 0, none⟩ (.string ⟨#[112]⟩)).setCell ⟨w.heap.size, 1, none⟩ (.slice (some ⟨w6.heap.size + 1, 0, none⟩) 1 1)).setCell ⟨w.heap.size, 2, none⟩ (.slice (some ⟨w6.heap.size, 0, none⟩) 2 2)) (.cells #[.int .i64 7, .string ⟨#[]⟩, .int .i64 0, .int .i64 3, .int .i64 0, .string ⟨#[110]⟩, .slice none 0 0, .int .i64 0, .int .i64 0, .string ⟨#[]⟩, .slice none 0 0, .slice none 0 0, .slice none 0 0, .int .i64 3, .string ⟨#[]⟩, .int .i64 0, .int .i64 2, .int .i64 0, .string ⟨#[107]⟩, .slice none 0 0, .int .i64 4, .int .i64 0, .string ⟨#[]⟩, .slice (some ⟨w2.heap.size, 0, none⟩) 2 2, .slice none 0 0, .slice none 0 0] 54)) (below_box _ (.cells #[.string ⟨#[110]⟩, .int .i64 1] 52))
         have hx7 := (((hz6.set 0 (u := .string ⟨#[112]⟩)).set 1 (u := .slice (some ⟨w6.heap.size + 1, 0, none⟩) 1 1)).set 2 (u := .slice (some ⟨w6.heap.size, 0, none⟩) 2 2)).below hb8
         simp only [List.setIfInBounds_toArray, List.set_cons_succ, List.set_cons_zero] at hx7
         have hb7 := below_2 ((((below_2 HB5.out HB6.out).setCell (p := ⟨w.heap.size, 0, none⟩) (Nat.le_refl _) (.string ⟨#[112]⟩)).setCell (p := ⟨w.heap.size, 1, none⟩) (Nat.le_refl _) (.slice (some ⟨w6.heap.size + 1, 0, none⟩) 1 1)).setCell (p := ⟨w.heap.size, 2, none⟩) (Nat.le_refl _) (.slice (some ⟨w6.heap.size, 0, none⟩) 2 2)) hb8
         have hS : Bx ((((w6.setCell ⟨w.heap.size, 0, none⟩ (.string ⟨#[112]⟩)).setCell ⟨w.heap.size, 1, none⟩ (.slice (some ⟨w6.heap.size + 1, 0, none⟩) 1 1)).setCell ⟨w.heap.size, 2, none⟩ (.slice (some ⟨w6.heap.size, 0, none⟩) 2 2)).alloc (.cells #[.int .i64 7, .string ⟨#[]⟩, .int .i64 0, .int .i64 3, .int .i64 0, .string ⟨#[110]⟩, .slice none 0 0, .int .i64 0, .int .i64 0, .string ⟨#[]⟩, .slice none 0 0, .slice none 0 0, .slice none 0 0, .int .i64 3, .string ⟨#[]⟩, .int .i64 0, .int .i64 2, .int .i64 0, .string ⟨#[107]⟩, .slice none 0 0, .int .i64 4, .int .i64 0, .string ⟨#[]⟩, .slice (some ⟨w2.heap.size, 0, none⟩) 2 2, .slice none 0 0, .slice none 0 0] 54)) w6.heap.size #[.int .i64 7, .string ⟨#[]⟩, .int .i64 0, .int .i64 3, .int .i64 0, .string ⟨#[110]⟩, .slice none 0 0, .int .i64 0, .int .i64 0, .string ⟨#[]⟩, .slice none 0 0, .slice none 0 0, .slice none 0 0, .int .i64 3, .string ⟨#[]⟩, .int .i64 0, .int .i64 2, .int .i64 0, .string ⟨#[107]⟩, .slice none 0 0, .int .i64 4, .int .i64 0, .string ⟨#[]⟩, .slice (some ⟨w2.heap.size, 0, none⟩) 2 2, .slice none 0 0, .slice none 0 0] 54 := by simpa using Bx.new (((w6.setCell ⟨w.heap.size, 0, none⟩ (.string ⟨#[112]⟩)).setCell ⟨w.heap.size, 1, none⟩ (.slice (some ⟨w6.heap.size + 1, 0, none⟩) 1 1)).setCell ⟨w.heap.size, 2, none⟩ (.slice (some ⟨w6.heap.size, 0, none⟩) 2 2)) #[.int .i64 7, .string ⟨#[]⟩, .int .i64 0, .int .i64 3, .int .i64 0, .string ⟨#[110]⟩, .slice none 0 0, .int .i64 0, .int .i64 0, .string ⟨#[]⟩, .slice none 0 0, .slice none 0 0, .slice none 0 0, .int .i64 3, .string ⟨#[]⟩, .int .i64 0, .int .i64 2, .int .i64 0, .string ⟨#[107]⟩, .slice none 0 0, .int .i64 4, .int .i64 0, .string ⟨#[]⟩, .slice (some ⟨w2.heap.size, 0, none⟩) 2 2, .slice none 0 0, .slice none 0 0] 54
         have hP : Bx (((((w6.setCell ⟨w.heap.size, 0, none⟩ (.string ⟨#[112]⟩)).setCell ⟨w.heap.size, 1, none⟩ (.slice (some ⟨w6.heap.size + 1, 0, none⟩) 1 1)).setCell ⟨w.heap.size, 2, none⟩ (.slice (some ⟨w6.heap.size, 0, none⟩) 2 2)).alloc (.cells #[.int .i64 7, .string ⟨#[]⟩, .int .i64 0, .int .i64 3, .int .i64 0, .string ⟨#[110]⟩, .slice none 0 0, .int .i64 0, .int .i64 0, .string ⟨#[]⟩, .slice none 0 0, .slice none 0 0, .slice none 0 0, .int .i64 3, .string ⟨#[]⟩, .int .i64 0, .int .i64 2, .int .i64 0, .string ⟨#[107]⟩, .slice none 0 0, .int .i64 4, .int .i64 0, .string ⟨#[]⟩, .slice (some ⟨w2.heap.size, 0, none⟩) 2 2, .slice none 0 0, .slice none 0 0] 54)).alloc (.cells #[.string ⟨#[110]⟩, .int .i64 1] 52)) (w6.heap.size + 1) #[.string ⟨#[110]⟩, .int .i64 1] 52 := by
           have h := Bx.new ((((w6.setCell ⟨w.heap.size, 0, none⟩ (.string ⟨#[112]⟩)).setCell ⟨w.heap.size, 1, none⟩ (.slice (some ⟨w6.heap.size + 1, 0, none⟩) 1 1)).setCell ⟨w.heap.size, 2, none⟩ (.slice (some ⟨w6.heap.size, 0, none⟩) 2 2)).alloc (.cells #[.int .i64 7, .string ⟨#[]⟩, .int .i64 0, .int .i64 3, .int .i64 0, .string ⟨#[110]⟩, .slice none 0 0, .int .i64 0, .int .i64 0, .string ⟨#[]⟩, .slice none 0 0, .slice none 0 0, .slice none 0 0, .int .i64 3, .string ⟨#[]⟩, .int .i64 0, .int .i64 2, .int .i64 0, .string ⟨#[107]⟩, .slice none 0 0, .int .i64 4, .int .i64 0, .string ⟨#[]⟩, .slice (some ⟨w2.heap.size, 0, none⟩) 2 2, .slice none 0 0, .slice none 0 0] 54)) #[.string ⟨#[110]⟩, .int .i64 1] 52
           simp only [World.size_setCell, World.size_alloc] at h
           exact h
         have hin := ex_in (A := w2.heap.size) hP (hS.below (below_box _ _)) ((((hs6.keep (Below.heap_setCell _ _ _ _ (by show w2.heap.size ≠ w.heap.size; omega))).keep (Below.heap_setCell _ _ _ _ (by show w2.heap.size ≠ w.heap.size; omega))).keep (Below.heap_setCell _ _ _ _ (by show w2.heap.size ≠ w.heap.size; omega))).below hb8)
         have q0 := hx7.cell 0
         have q1 := hx7.cell 1
         have q2 := hx7.cell 2
         simp only [List.getElem?_toArray, List.getElem?_cons_zero, List.getElem?_cons_succ] at q0 q1 q2
         have HR : Hid ((∃ a1 a2, Ending.returned (.agg #[.string ⟨#[112]⟩, .slice (some ⟨w6.heap.size + 1, 0, none⟩) 1 1, .slice (some ⟨w6.heap.size, 0, none⟩) 2 2]) = .returned (prV exP a1 1 a2 2) ∧ PrIn _ exP a1 a2) ∧ Below w.heap.size w _) := ⟨⟨_, _, rfl, hin⟩, hb7⟩
         clear hin hb8 hx7 hb7 hS hP hz6 hs6
         go_wp2_with fail
         refine bodyPost_ret (v := .agg #[.string ⟨#[112]⟩, .slice (some ⟨w6.heap.size + 1, 0, none⟩) 1 1, .slice (some ⟨w6.heap.size, 0, none⟩) 2 2]) (by simp [results, Try.results35, go_sem, q0, q1, q2]) rfl ?_
         exact HR.out)
end Go.Proofs.Ytffamknoamknpaa.A
namespace Go.Proofs.Ytffamknoamknpaa.A
open Go.RowKit
open L (Str isName prt size_len below_2 below_box ret_bool ret_int eql_eq bytes_eq)

theorem prV_exW (s : ByteArray) (a1 : Option Addr) (c1 : Nat) (a2 : Option Addr) (c2 : Nat) : prV (exW s) a1 c1 a2 c2 = .agg #[.string ⟨#[112]⟩, .slice a1 1 c1, .slice a2 2 c2] := rfl
theorem prV_noPr (a1 : Option Addr) (c1 : Nat) (a2 : Option Addr) (c2 : Nat) : prV noPr a1 c1 a2 c2 = .agg #[.string ⟨#[]⟩, .slice a1 0 c1, .slice a2 0 c2] := rfl
theorem ex_c : cB exP.body ≤ 900000 := by rw [exP, ex_cB _ (by decide)]; decide
/-- what the examples call, as they call it -/
structure ExCalls : Prop where
  arity : ∀ w, Calls Try.prog 11 #[.int .i64 4] w fun e w' => e = .returned (.int .i64 2) ∧ w' = w
  valid : ∀ w, Calls Try.prog 15 #[.agg #[.int .i64 1, .int .i64 (-1), .string ⟨#[]⟩, .slice none 0 0]] w fun e w' => e = .returned (.int .i64 1) ∧ Below w.heap.size w w'
  validate : ∀ a1 a2 w, PrIn w exP a1 a2 → Calls Try.prog 18 #[.agg #[.string ⟨#[112]⟩, .slice a1 1 1, .slice a2 2 2]] w fun e w' => e = .returned (.int .i64 0) ∧ Below w.heap.size w w'
  nodes : ∀ a1 a2 w, PrIn w exP a1 a2 → Calls Try.prog 22 #[.agg #[.string ⟨#[112]⟩, .slice a1 1 1, .slice a2 2 2]] w fun e w' => e = .returned (.int .i64 7) ∧ Below w.heap.size w w'
  depth : ∀ a1 a2 w, PrIn w exP a1 a2 → Calls Try.prog 24 #[.agg #[.string ⟨#[112]⟩, .slice a1 1 1, .slice a2 2 2]] w fun e w' => e = .returned (.int .i64 1) ∧ Below w.heap.size w w'
  exprs : ∀ a1 a2 w, PrIn w exP a1 a2 → Calls Try.prog 20 #[.agg #[.string ⟨#[112]⟩, .slice a1 1 1, .slice a2 2 2]] w fun e w' => (∃ p q, e = .returned (.slice p 3 q)) ∧ Below w.heap.size w w'
  names : ∀ a1 a2 w, PrIn w exP a1 a2 → Calls Try.prog 27 #[.agg #[.string ⟨#[112]⟩, .slice a1 1 1, .slice a2 2 2]] w fun e w' => (∃ b i q, e = .returned (.slice (some ⟨b, i, none⟩) 1 q) ∧ w'.cell? ⟨b, i, none⟩ = some (.string ⟨#[110]⟩)) ∧ Below w.heap.size w w'
  ren0 : ∀ a1 a2 w, PrIn w exP a1 a2 → Calls Try.prog 32 #[.agg #[.string ⟨#[112]⟩, .slice a1 1 1, .slice a2 2 2], .string ⟨#[110]⟩, .string ⟨#[109]⟩] w fun e w' => (∃ p1 q1 p2 q2, e = .returned (.tuple #[.agg #[.string ⟨#[112]⟩, .slice p1 1 q1, .slice p2 2 q2], .int .i64 0]) ∧ PrIn w' exQ p1 p2) ∧ Below w.heap.size w w'
  ren7 : ∀ a1 a2 w, PrIn w exP a1 a2 → Calls Try.prog 32 #[.agg #[.string ⟨#[112]⟩, .slice a1 1 1, .slice a2 2 2], .string ⟨#[110]⟩, .string ⟨#[105, 102]⟩] w fun e w' => (∃ p1 q1 p2 q2, e = .returned (.tuple #[.agg #[.string ⟨#[]⟩, .slice p1 0 q1, .slice p2 0 q2], .int .i64 7])) ∧ Below w.heap.size w w'
  ren9 : ∀ a1 a2 w, PrIn w exP a1 a2 → Calls Try.prog 32 #[.agg #[.string ⟨#[112]⟩, .slice a1 1 1, .slice a2 2 2], .string ⟨#[120]⟩, .string ⟨#[109]⟩] w fun e w' => (∃ p1 q1 p2 q2, e = .returned (.tuple #[.agg #[.string ⟨#[]⟩, .slice p1 0 q1, .slice p2 0 q2], .int .i64 9])) ∧ Below w.heap.size w w'
  eq : ∀ a1 a2 b1 b2 w, PrIn w exP a1 a2 → PrIn w exP b1 b2 → Calls Try.prog 30 #[.agg #[.string ⟨#[112]⟩, .slice a1 1 1, .slice a2 2 2], .agg #[.string ⟨#[112]⟩, .slice b1 1 1, .slice b2 2 2]] w fun e w' => e = .returned (.bool true) ∧ Below w.heap.size w w'
  ne : ∀ a1 a2 b1 b2 q1 q2 w, PrIn w exP a1 a2 → PrIn w exQ b1 b2 → Calls Try.prog 30 #[.agg #[.string ⟨#[112]⟩, .slice a1 1 1, .slice a2 2 2], .agg #[.string ⟨#[112]⟩, .slice b1 1 q1, .slice b2 2 q2]] w fun e w' => e = .returned (.bool false) ∧ Below w.heap.size w w'
/-- what the program's function Exprs must return -/
def OExprs : Prop := ∀ (p : Pr) (a1 a2 : Option Addr) (c1 c2 : Nat), OkP p → cB p.body ≤ 900000 → ∀ w : World, PrIn w p a1 a2 → Calls Try.prog 20 #[prV p a1 c1 a2 c2] w fun e' w' => GivesXs w (exprs p) e' w'
theorem ex_calls (HE : OExprs) : ExCalls where
  arity := fun w => oarity_any 4 w
  valid := fun w => by
    have h := ovalidExpr_any (iEx (-1)) none 0 (by have h0 : (⟨#[]⟩ : ByteArray).size = 0 := rfl; simp [iEx, okE, okEs, h0]) (by have h0 : (⟨#[]⟩ : ByteArray).size = 0 := rfl; simp [iEx, cE, cEs, h0]) w (Or.inl rfl)
    rw [ex_bad] at h
    exact h
  validate := fun a1 a2 w h => by
    have := ovalidate_any exP a1 a2 1 2 (ex_ok _ (by decide)) ex_c (Nat.le_refl _) w h
    rw [ex_val] at this
    exact this
  nodes := fun a1 a2 w h => by
    have := onodes_any exP a1 a2 1 2 (ex_okE _ (by decide)) (by show (2 : Nat) ≤ _; decide) ex_c w h.body
    rw [ex_nodes] at this
    exact this
  depth := fun a1 a2 w h => by
    have := odepth_any exP a1 a2 1 2 (ex_okE _ (by decide)) (by show (2 : Nat) ≤ _; decide) ex_c w h.body
    rw [ex_depth] at this
    exact this
  exprs := fun a1 a2 w h => by
    have := HE exP a1 a2 1 2 (ex_ok _ (by decide)) ex_c w h
    refine this.mono fun e w' ⟨p, q, h1, _, h2⟩ => ⟨⟨p, q, ?_⟩, h2⟩
    rw [h1, ex_exprs]
  names := fun a1 a2 w h => by
    have := onames_any exP a1 a2 1 2 (ex_ok _ (by decide)) ex_c (by show (1 : Nat) ≤ _; decide) (ex_ps _ (by decide)) w h
    rw [ex_names] at this
    refine this.mono fun e w' ⟨p, q, h1, _, h3, h2⟩ => ⟨?_, h2⟩
    obtain ⟨b, i, rfl, hc⟩ := h3.open (k := 0) (by decide)
    exact ⟨b, i, q, h1, hc 0 (by decide)⟩
  ren0 := fun a1 a2 w h => by
    have := orename_any exP a1 a2 1 2 ⟨#[110]⟩ ⟨#[109]⟩ (ex_ok _ (by decide)) ex_c (by show (1 : Nat) ≤ _; decide) (Nat.le_refl _) (by show (1 : Nat) ≤ _; decide) (by show (1 : Nat) ≤ _; decide) (ex_ps _ (by decide)) w h
    rw [ex_ren] at this
    exact this.mono fun e w' ⟨p1, q1, p2, q2, h1, h2, _, h4⟩ => ⟨⟨p1, q1, p2, q2, h1, h2⟩, h4⟩
  ren7 := fun a1 a2 w h => by
    have := orename_any exP a1 a2 1 2 ⟨#[110]⟩ ⟨#[105, 102]⟩ (ex_ok _ (by decide)) ex_c (by show (1 : Nat) ≤ _; decide) (Nat.le_refl _) (by show (1 : Nat) ≤ _; decide) (by show (2 : Nat) ≤ _; decide) (ex_ps _ (by decide)) w h
    rw [ex_ren7] at this
    exact this.mono fun e w' ⟨p1, q1, p2, q2, h1, h2, _, h4⟩ => ⟨⟨p1, q1, p2, q2, h1⟩, h4⟩
  ren9 := fun a1 a2 w h => by
    have := orename_any exP a1 a2 1 2 ⟨#[120]⟩ ⟨#[109]⟩ (ex_ok _ (by decide)) ex_c (by show (1 : Nat) ≤ _; decide) (Nat.le_refl _) (by show (1 : Nat) ≤ _; decide) (by show (1 : Nat) ≤ _; decide) (ex_ps _ (by decide)) w h
    rw [ex_ren9] at this
    exact this.mono fun e w' ⟨p1, q1, p2, q2, h1, h2, _, h4⟩ => ⟨⟨p1, q1, p2, q2, h1⟩, h4⟩
  eq := fun a1 a2 b1 b2 w h h2 => by
    have := oequal_any exP exP a1 a2 b1 b2 1 2 1 2 (ex_ok _ (by decide)) (ex_ok _ (by decide)) w h h2
    rw [ex_eq] at this
    exact this
  ne := fun a1 a2 b1 b2 q1 q2 w h h2 => by
    have := oequal_any exP exQ a1 a2 b1 b2 1 2 q1 q2 (ex_ok _ (by decide)) (ex_ok _ (by decide)) w h h2
    rw [ex_ne] at this
    exact this
end Go.Proofs.Ytffamknoamknpaa.A
namespace Go.Proofs.Ytffamknoamknpaa.A
open Go.RowKit
open L (Str isName prt size_len below_2 below_box ret_bool ret_int eql_eq bytes_eq)

set_option maxHeartbeats 16000000 in
set_option maxRecDepth 100000 in
theorem works_any (X : ExCalls) (w : World) : Calls Try.prog 13 #[] w fun e w' => e = .returned (.bool true) ∧ Below w.heap.size w w' := by
  have HEx := Lib.hid example_any
  have HC := Lib.hid X
  clear X
  go_enter Try.func13, Try.ntmps13
  go_wp2_with fail
  refine (HEx.out _).mono ?_; rintro e w1 ⟨⟨a1, a2, he, hp1⟩, hb1⟩
  unfold exP at he
  rw [prV_exW] at he
  subst he
  have hbx := below_box w1 (.cells #[.string ⟨#[112]⟩, .slice a1 1 1, .slice a2 2 2] 35)
  have HP1 := Lib.hid (PrIn.below hp1 hbx)
  have HB1 := Lib.hid (below_2 hb1 hbx)
  have HX1 := Lib.hid (Bx.new w1 #[.string ⟨#[112]⟩, .slice a1 1 1, .slice a2 2 2] 35)
  clear hbx hp1 hb1
  go_wp2_with fail
  refine (HC.out.ren0 a1 a2 _ HP1.out).mono ?_; rintro e w2 ⟨⟨p1, q1, p2, q2, rfl, hq⟩, hb2⟩
  obtain ⟨mb, mi, rfl, hmc⟩ := hq.params.open (k := 0) (by decide)
  obtain ⟨sb, si, rfl, hst⟩ := hq.body.open (k := 0) (by decide)
  have hm0 : w2.cell? ⟨mb, mi, none⟩ = some (.string ⟨#[109]⟩) := (hmc 0 (by decide)).1
  obtain ⟨_, _, _, _, _, _, _, _, hstc, _⟩ := hst.open
  have hs5 : w2.cell? ⟨sb, si + 3 + 2, none⟩ = some (.string ⟨#[109]⟩) := hstc.k5
  have hbx := below_box w2 (.cells #[.string ⟨#[112]⟩, .slice (some ⟨mb, mi, none⟩) 1 q1, .slice (some ⟨sb, si, none⟩) 2 q2] 35)
  have hbc := below_2 hb2 hbx
  have HX2 := Lib.hid (HX1.out.below hbc)
  have HP2 := Lib.hid (HP1.out.below hbc)
  have HB2 := Lib.hid (below_2 HB1.out hbc)
  have HQ2 := Lib.hid (PrIn.below hq hbx)
  have HY2 := Lib.hid (Bx.new w2 #[.string ⟨#[112]⟩, .slice (some ⟨mb, mi, none⟩) 1 q1, .slice (some ⟨sb, si, none⟩) 2 q2] 35)
  have HM2 := Lib.hid ((hbx.cell (block_lt_of_cell hm0)).trans hm0)
  have HS2 := Lib.hid ((hbx.cell (block_lt_of_cell hs5)).trans hs5)
  have j0 := HX2.out.cell 0
  have j1 := HX2.out.cell 1
  have j2 := HX2.out.cell 2
  simp at j0 j1 j2
  clear hbx hq hb2 hbc hmc hst hm0 hs5 hstc
  go_wp2_with fail
  refine (HC.out.ren7 a1 a2 _ HP2.out).mono ?_; rintro e w3 ⟨⟨g1, h1, g2, h2, rfl⟩, hb3⟩
  have hbc := below_2 hb3 (below_box w3 (.cells #[.string ⟨#[]⟩, .slice g1 0 h1, .slice g2 0 h2] 35))
  have HX3 := Lib.hid (HX2.out.below hbc)
  have HP3 := Lib.hid (HP2.out.below hbc)
  have HB3 := Lib.hid (below_2 HB2.out hbc)
  have HQ3 := Lib.hid (HQ2.out.below hbc)
  have HY3 := Lib.hid (HY2.out.below hbc)
  have HM3 := Lib.hid ((hbc.cell (block_lt_of_cell HM2.out)).trans HM2.out)
  have HS3 := Lib.hid ((hbc.cell (block_lt_of_cell HS2.out)).trans HS2.out)
  have j0 := HX3.out.cell 0
  have j1 := HX3.out.cell 1
  have j2 := HX3.out.cell 2
  simp at j0 j1 j2
  clear hb3 hbc
  go_wp2_with fail
  refine (HC.out.ren9 a1 a2 _ HP3.out).mono ?_; rintro e w4 ⟨⟨g3, h3, g4, h4, rfl⟩, hb4⟩
  have hbc := below_2 hb4 (below_box w4 (.cells #[.string ⟨#[]⟩, .slice g3 0 h3, .slice g4 0 h4] 35))
  have HX4 := Lib.hid (HX3.out.below hbc)
  have HP4 := Lib.hid (HP3.out.below hbc)
  have HB4 := Lib.hid (below_2 HB3.out hbc)
  have HQ4 := Lib.hid (HQ3.out.below hbc)
  have HY4 := Lib.hid (HY3.out.below hbc)
  have HM4 := Lib.hid ((hbc.cell (block_lt_of_cell HM3.out)).trans HM3.out)
  have HS4 := Lib.hid ((hbc.cell (block_lt_of_cell HS3.out)).trans HS3.out)
  have j0 := HX4.out.cell 0
  have j1 := HX4.out.cell 1
  have j2 := HX4.out.cell 2
  have y0 := HY4.out.cell 0
  have y1 := HY4.out.cell 1
  have y2 := HY4.out.cell 2
  have m0 := HM4.out
  have s5 := HS4.out
  simp at j0 j1 j2 y0 y1 y2
  clear hb4 hbc
  go_wp2_with fail
  refine (HC.out.names a1 a2 _ HP4.out).mono ?_; rintro e w5 ⟨⟨nb, ni, nq, rfl, hn⟩, hb5⟩
  have hbc := below_2 hb5 (L.below_drew w5)
  have HX5 := Lib.hid (HX4.out.below hbc)
  have HP5 := Lib.hid (HP4.out.below hbc)
  have HB5 := Lib.hid (below_2 HB4.out hbc)
  have HQ5 := Lib.hid (HQ4.out.below hbc)
  have HY5 := Lib.hid (HY4.out.below hbc)
  have HN5 := Lib.hid (((L.below_drew w5).cell (block_lt_of_cell hn)).trans hn)
  have hS5 : w5.drew.cell? ⟨w1.heap.size, 0, none⟩ = some (.string ⟨#[112]⟩) ∧ w5.drew.cell? ⟨w1.heap.size, 1, none⟩ = some (.slice a1 1 1) ∧ w5.drew.cell? ⟨w1.heap.size, 2, none⟩ = some (.slice a2 2 2) ∧ w5.drew.cell? ⟨w2.heap.size, 0, none⟩ = some (.string ⟨#[112]⟩) ∧ w5.drew.cell? ⟨w2.heap.size, 1, none⟩ = some (.slice (some ⟨mb, mi, none⟩) 1 q1) ∧ w5.drew.cell? ⟨w2.heap.size, 2, none⟩ = some (.slice (some ⟨sb, si, none⟩) 2 q2) ∧ w5.drew.cell? ⟨nb, ni, none⟩ = some (.string ⟨#[110]⟩) := ⟨HX5.out.cell 0, HX5.out.cell 1, HX5.out.cell 2, HY5.out.cell 0, HY5.out.cell 1, HY5.out.cell 2, HN5.out⟩
  clear hb5 hbc hn y0 y1 y2 m0 s5 j0 j1 j2 HS4 HM4 HS3 HM3 HS2 HM2 HX2 HX3 HX4 HY2 HY3 HY4 HQ2 HQ3 HQ4 HP1 HP2 HP3 HP4 HB1 HB2 HB3 HB4 HX1
  go_wp2_with fail
  go_region_held3 (fun w' => w'.cell? ⟨w1.heap.size, 0, none⟩ = some (.string ⟨#[112]⟩) ∧ w'.cell? ⟨w1.heap.size, 1, none⟩ = some (.slice a1 1 1) ∧ w'.cell? ⟨w1.heap.size, 2, none⟩ = some (.slice a2 2 2) ∧ w'.cell? ⟨w2.heap.size, 0, none⟩ = some (.string ⟨#[112]⟩) ∧ w'.cell? ⟨w2.heap.size, 1, none⟩ = some (.slice (some ⟨mb, mi, none⟩) 1 q1) ∧ w'.cell? ⟨w2.heap.size, 2, none⟩ = some (.slice (some ⟨sb, si, none⟩) 2 q2) ∧ w'.cell? ⟨nb, ni, none⟩ = some (.string ⟨#[110]⟩)) (with_reducible (first | exact hS5 | exact hS6 | exact hS7 | exact hS8 | exact hS9 | exact hS10 | exact hS11 | exact hS12 | exact hS13))
    (first
      | (go_at_call 11; (with_reducible refine (HC.out.arity _).mono ?_); rintro e' w9 ⟨rfl, hww⟩; obtain rfl := hww.symm)
      | (go_at_call 15; (with_reducible refine (HC.out.valid _).mono ?_); rintro e' w6 ⟨rfl, hb⟩; have HX6 := Lib.hid (HX5.out.below hb); have HP6 := Lib.hid (HP5.out.below hb); have HB6 := Lib.hid (below_2 HB5.out hb); have HY6 := Lib.hid (HY5.out.below hb); have HQ6 := Lib.hid (HQ5.out.below hb); have HN6 : Hid (w6.cell? ⟨nb, ni, none⟩ = some (.string ⟨#[110]⟩)) := (hb.cell (block_lt_of_cell HN5.out)).trans HN5.out; have hS6 : w6.cell? ⟨w1.heap.size, 0, none⟩ = some (.string ⟨#[112]⟩) ∧ w6.cell? ⟨w1.heap.size, 1, none⟩ = some (.slice a1 1 1) ∧ w6.cell? ⟨w1.heap.size, 2, none⟩ = some (.slice a2 2 2) ∧ w6.cell? ⟨w2.heap.size, 0, none⟩ = some (.string ⟨#[112]⟩) ∧ w6.cell? ⟨w2.heap.size, 1, none⟩ = some (.slice (some ⟨mb, mi, none⟩) 1 q1) ∧ w6.cell? ⟨w2.heap.size, 2, none⟩ = some (.slice (some ⟨sb, si, none⟩) 2 q2) ∧ w6.cell? ⟨nb, ni, none⟩ = some (.string ⟨#[110]⟩) := ⟨HX6.out.cell 0, HX6.out.cell 1, HX6.out.cell 2, HY6.out.cell 0, HY6.out.cell 1, HY6.out.cell 2, HN6.out⟩; clear hS5 HX5 HP5 HB5 HY5 HQ5 HN5; clear hb)
      | (go_at_call 18; (with_reducible refine (HC.out.validate a1 a2 _ HP6.out).mono ?_); rintro e' w7 ⟨rfl, hb⟩; have HX7 := Lib.hid (HX6.out.below hb); have HP7 := Lib.hid (HP6.out.below hb); have HB7 := Lib.hid (below_2 HB6.out hb); have HY7 := Lib.hid (HY6.out.below hb); have HQ7 := Lib.hid (HQ6.out.below hb); have HN7 : Hid (w7.cell? ⟨nb, ni, none⟩ = some (.string ⟨#[110]⟩)) := (hb.cell (block_lt_of_cell HN6.out)).trans HN6.out; have hS7 : w7.cell? ⟨w1.heap.size, 0, none⟩ = some (.string ⟨#[112]⟩) ∧ w7.cell? ⟨w1.heap.size, 1, none⟩ = some (.slice a1 1 1) ∧ w7.cell? ⟨w1.heap.size, 2, none⟩ = some (.slice a2 2 2) ∧ w7.cell? ⟨w2.heap.size, 0, none⟩ = some (.string ⟨#[112]⟩) ∧ w7.cell? ⟨w2.heap.size, 1, none⟩ = some (.slice (some ⟨mb, mi, none⟩) 1 q1) ∧ w7.cell? ⟨w2.heap.size, 2, none⟩ = some (.slice (some ⟨sb, si, none⟩) 2 q2) ∧ w7.cell? ⟨nb, ni, none⟩ = some (.string ⟨#[110]⟩) := ⟨HX7.out.cell 0, HX7.out.cell 1, HX7.out.cell 2, HY7.out.cell 0, HY7.out.cell 1, HY7.out.cell 2, HN7.out⟩; clear hS6 HX6 HP6 HB6 HY6 HQ6 HN6; clear hb)
      | (go_at_call 22; (with_reducible refine (HC.out.nodes a1 a2 _ HP7.out).mono ?_); rintro e' w8 ⟨rfl, hb⟩; have HX8 := Lib.hid (HX7.out.below hb); have HP8 := Lib.hid (HP7.out.below hb); have HB8 := Lib.hid (below_2 HB7.out hb); have HY8 := Lib.hid (HY7.out.below hb); have HQ8 := Lib.hid (HQ7.out.below hb); have HN8 : Hid (w8.cell? ⟨nb, ni, none⟩ = some (.string ⟨#[110]⟩)) := (hb.cell (block_lt_of_cell HN7.out)).trans HN7.out; have hS8 : w8.cell? ⟨w1.heap.size, 0, none⟩ = some (.string ⟨#[112]⟩) ∧ w8.cell? ⟨w1.heap.size, 1, none⟩ = some (.slice a1 1 1) ∧ w8.cell? ⟨w1.heap.size, 2, none⟩ = some (.slice a2 2 2) ∧ w8.cell? ⟨w2.heap.size, 0, none⟩ = some (.string ⟨#[112]⟩) ∧ w8.cell? ⟨w2.heap.size, 1, none⟩ = some (.slice (some ⟨mb, mi, none⟩) 1 q1) ∧ w8.cell? ⟨w2.heap.size, 2, none⟩ = some (.slice (some ⟨sb, si, none⟩) 2 q2) ∧ w8.cell? ⟨nb, ni, none⟩ = some (.string ⟨#[110]⟩) := ⟨HX8.out.cell 0, HX8.out.cell 1, HX8.out.cell 2, HY8.out.cell 0, HY8.out.cell 1, HY8.out.cell 2, HN8.out⟩; clear hS7 HX7 HP7 HB7 HY7 HQ7 HN7; clear hb)
      | (go_at_call 24; (with_reducible refine (HC.out.depth a1 a2 _ HP8.out).mono ?_); rintro e' w9 ⟨rfl, hb⟩; have HX9 := Lib.hid (HX8.out.below hb); have HP9 := Lib.hid (HP8.out.below hb); have HB9 := Lib.hid (below_2 HB8.out hb); have HY9 := Lib.hid (HY8.out.below hb); have HQ9 := Lib.hid (HQ8.out.below hb); have HN9 : Hid (w9.cell? ⟨nb, ni, none⟩ = some (.string ⟨#[110]⟩)) := (hb.cell (block_lt_of_cell HN8.out)).trans HN8.out; have hS9 : w9.cell? ⟨w1.heap.size, 0, none⟩ = some (.string ⟨#[112]⟩) ∧ w9.cell? ⟨w1.heap.size, 1, none⟩ = some (.slice a1 1 1) ∧ w9.cell? ⟨w1.heap.size, 2, none⟩ = some (.slice a2 2 2) ∧ w9.cell? ⟨w2.heap.size, 0, none⟩ = some (.string ⟨#[112]⟩) ∧ w9.cell? ⟨w2.heap.size, 1, none⟩ = some (.slice (some ⟨mb, mi, none⟩) 1 q1) ∧ w9.cell? ⟨w2.heap.size, 2, none⟩ = some (.slice (some ⟨sb, si, none⟩) 2 q2) ∧ w9.cell? ⟨nb, ni, none⟩ = some (.string ⟨#[110]⟩) := ⟨HX9.out.cell 0, HX9.out.cell 1, HX9.out.cell 2, HY9.out.cell 0, HY9.out.cell 1, HY9.out.cell 2, HN9.out⟩; clear hS8 HX8 HP8 HB8 HY8 HQ8 HN8; clear hb)
      | (go_at_call 20; (with_reducible refine (HC.out.exprs a1 a2 _ HP9.out).mono ?_); rintro e' w10 ⟨⟨xp, xq, rfl⟩, hb⟩; have HX10 := Lib.hid (HX9.out.below hb); have HP10 := Lib.hid (HP9.out.below hb); have HB10 := Lib.hid (below_2 HB9.out hb); have HY10 := Lib.hid (HY9.out.below hb); have HQ10 := Lib.hid (HQ9.out.below hb); have HN10 : Hid (w10.cell? ⟨nb, ni, none⟩ = some (.string ⟨#[110]⟩)) := (hb.cell (block_lt_of_cell HN9.out)).trans HN9.out; have hS10 : w10.cell? ⟨w1.heap.size, 0, none⟩ = some (.string ⟨#[112]⟩) ∧ w10.cell? ⟨w1.heap.size, 1, none⟩ = some (.slice a1 1 1) ∧ w10.cell? ⟨w1.heap.size, 2, none⟩ = some (.slice a2 2 2) ∧ w10.cell? ⟨w2.heap.size, 0, none⟩ = some (.string ⟨#[112]⟩) ∧ w10.cell? ⟨w2.heap.size, 1, none⟩ = some (.slice (some ⟨mb, mi, none⟩) 1 q1) ∧ w10.cell? ⟨w2.heap.size, 2, none⟩ = some (.slice (some ⟨sb, si, none⟩) 2 q2) ∧ w10.cell? ⟨nb, ni, none⟩ = some (.string ⟨#[110]⟩) := ⟨HX10.out.cell 0, HX10.out.cell 1, HX10.out.cell 2, HY10.out.cell 0, HY10.out.cell 1, HY10.out.cell 2, HN10.out⟩; clear hS9 HX9 HP9 HB9 HY9 HQ9 HN9; clear hb)
      | (go_at_call 35; (with_reducible refine (HEx.out _).mono ?_); rintro e' w11 ⟨⟨b1, b2, he, hpe⟩, hb⟩; unfold exP at he; rw [prV_exW] at he; subst he; have HPE := Lib.hid hpe; clear hpe; have HX11 := Lib.hid (HX10.out.below hb); have HP11 := Lib.hid (HP10.out.below hb); have HB11 := Lib.hid (below_2 HB10.out hb); have HY11 := Lib.hid (HY10.out.below hb); have HQ11 := Lib.hid (HQ10.out.below hb); have HN11 : Hid (w11.cell? ⟨nb, ni, none⟩ = some (.string ⟨#[110]⟩)) := (hb.cell (block_lt_of_cell HN10.out)).trans HN10.out; have hS11 : w11.cell? ⟨w1.heap.size, 0, none⟩ = some (.string ⟨#[112]⟩) ∧ w11.cell? ⟨w1.heap.size, 1, none⟩ = some (.slice a1 1 1) ∧ w11.cell? ⟨w1.heap.size, 2, none⟩ = some (.slice a2 2 2) ∧ w11.cell? ⟨w2.heap.size, 0, none⟩ = some (.string ⟨#[112]⟩) ∧ w11.cell? ⟨w2.heap.size, 1, none⟩ = some (.slice (some ⟨mb, mi, none⟩) 1 q1) ∧ w11.cell? ⟨w2.heap.size, 2, none⟩ = some (.slice (some ⟨sb, si, none⟩) 2 q2) ∧ w11.cell? ⟨nb, ni, none⟩ = some (.string ⟨#[110]⟩) := ⟨HX11.out.cell 0, HX11.out.cell 1, HX11.out.cell 2, HY11.out.cell 0, HY11.out.cell 1, HY11.out.cell 2, HN11.out⟩; clear hS10 HX10 HP10 HB10 HY10 HQ10 HN10; clear hb)
      | (go_at_call 30; (with_reducible refine (HC.out.eq a1 a2 b1 b2 _ HP11.out HPE.out).mono ?_); rintro e' w12 ⟨rfl, hb⟩; have HX12 := Lib.hid (HX11.out.below hb); have HP12 := Lib.hid (HP11.out.below hb); have HB12 := Lib.hid (below_2 HB11.out hb); have HY12 := Lib.hid (HY11.out.below hb); have HQ12 := Lib.hid (HQ11.out.below hb); have HN12 : Hid (w12.cell? ⟨nb, ni, none⟩ = some (.string ⟨#[110]⟩)) := (hb.cell (block_lt_of_cell HN11.out)).trans HN11.out; have hS12 : w12.cell? ⟨w1.heap.size, 0, none⟩ = some (.string ⟨#[112]⟩) ∧ w12.cell? ⟨w1.heap.size, 1, none⟩ = some (.slice a1 1 1) ∧ w12.cell? ⟨w1.heap.size, 2, none⟩ = some (.slice a2 2 2) ∧ w12.cell? ⟨w2.heap.size, 0, none⟩ = some (.string ⟨#[112]⟩) ∧ w12.cell? ⟨w2.heap.size, 1, none⟩ = some (.slice (some ⟨mb, mi, none⟩) 1 q1) ∧ w12.cell? ⟨w2.heap.size, 2, none⟩ = some (.slice (some ⟨sb, si, none⟩) 2 q2) ∧ w12.cell? ⟨nb, ni, none⟩ = some (.string ⟨#[110]⟩) := ⟨HX12.out.cell 0, HX12.out.cell 1, HX12.out.cell 2, HY12.out.cell 0, HY12.out.cell 1, HY12.out.cell 2, HN12.out⟩; clear hS11 HX11 HP11 HB11 HY11 HQ11 HN11; clear hb)
      | (go_at_call 30; (with_reducible refine (HC.out.ne a1 a2 (some ⟨mb, mi, none⟩) (some ⟨sb, si, none⟩) q1 q2 _ HP12.out HQ12.out).mono ?_); rintro e' w13 ⟨rfl, hb⟩; have HX13 := Lib.hid (HX12.out.below hb); have HP13 := Lib.hid (HP12.out.below hb); have HB13 := Lib.hid (below_2 HB12.out hb); have HY13 := Lib.hid (HY12.out.below hb); have HQ13 := Lib.hid (HQ12.out.below hb); have HN13 : Hid (w13.cell? ⟨nb, ni, none⟩ = some (.string ⟨#[110]⟩)) := (hb.cell (block_lt_of_cell HN12.out)).trans HN12.out; have hS13 : w13.cell? ⟨w1.heap.size, 0, none⟩ = some (.string ⟨#[112]⟩) ∧ w13.cell? ⟨w1.heap.size, 1, none⟩ = some (.slice a1 1 1) ∧ w13.cell? ⟨w1.heap.size, 2, none⟩ = some (.slice a2 2 2) ∧ w13.cell? ⟨w2.heap.size, 0, none⟩ = some (.string ⟨#[112]⟩) ∧ w13.cell? ⟨w2.heap.size, 1, none⟩ = some (.slice (some ⟨mb, mi, none⟩) 1 q1) ∧ w13.cell? ⟨w2.heap.size, 2, none⟩ = some (.slice (some ⟨sb, si, none⟩) 2 q2) ∧ w13.cell? ⟨nb, ni, none⟩ = some (.string ⟨#[110]⟩) := ⟨HX13.out.cell 0, HX13.out.cell 1, HX13.out.cell 2, HY13.out.cell 0, HY13.out.cell 1, HY13.out.cell 2, HN13.out⟩; clear hS12 HX12 HP12 HB12 HY12 HQ12 HN12; clear hb))
  all_goals
    go_wp2_with fail
    go_ret
    exact ⟨rfl, HB13.out⟩
end Go.Proofs.Ytffamknoamknpaa.A
