/-
  The laws of layer 11: the law package's examples.
-/
import Derived.Test.YtkjefigebdbkaaaDoorN19
import Derived.Test.YtkjefigebdbkaaaDoorN20
import Derived.Test.YtkjefigebdbkaaaDoorTYLC
namespace Go.Proofs.YtkjefigebdbkaaaDoor.Y
open Go.RowKit
open L (Str isName prt size_len below_2 below_box ret_bool ret_int eql_eq bytes_eq)
open A (Ex St Pm Pr V arity vE vEs absent exV exO exV_mk Bx okE okEs cE cEs PmsAt StrsAt PrIn OkP prV prO names valE ExsAt ExAt StsAt StAt Bodies)
open P (G Kd On off_of wp_region_G)

theorem call_1 {w : World} (ht : Tb w) : Calls Tryd.prog 19 #[.agg #[.int .i64 20, .int .i64 0, .string ⟨#[]⟩, .slice (some ⟨w.heap.size, 0, none⟩) 1 1], .slice (some ⟨w.heap.size + 1, 0, none⟩) 1 1] ((w.alloc (.cells #[.int .i64 3, .int .i64 0, .string ⟨#[120]⟩, .slice none 0 0] 46)).alloc (.cells #[.string ⟨#[120]⟩, .int .i64 1] 51))
    fun e' w' => e' = .returned (.tuple #[.int .i64 2, .int .i64 0]) ∧ Below w.heap.size w w' := by
  have hb1 := below_box w (.cells #[.int .i64 3, .int .i64 0, .string ⟨#[120]⟩, .slice none 0 0] 46)
  have hx1 := Bx.new w #[.int .i64 3, .int .i64 0, .string ⟨#[120]⟩, .slice none 0 0] 46
  have hb2 := below_box (w.alloc (.cells #[.int .i64 3, .int .i64 0, .string ⟨#[120]⟩, .slice none 0 0] 46)) (.cells #[.string ⟨#[120]⟩, .int .i64 1] 51)
  have hx2 := Bx.new (w.alloc (.cells #[.int .i64 3, .int .i64 0, .string ⟨#[120]⟩, .slice none 0 0] 46)) #[.string ⟨#[120]⟩, .int .i64 1] 51
  have z1 : (w.alloc (.cells #[.int .i64 3, .int .i64 0, .string ⟨#[120]⟩, .slice none 0 0] 46)).heap.size = w.heap.size + 1 := by simp
  rw [z1] at hx2
  have := oOf_any e1 (some ⟨w.heap.size, 0, none⟩) 1 [x1] (some ⟨w.heap.size + 1, 0, none⟩) 1 ok_e1 sz_e1 ov_1 _ ((ht.below hb1).below hb2) (kids_l1 (hx1.below hb2)) (Or.inr ⟨_, 0, rfl, fun j hj => by
    have hj0 : j = 0 := by have : j < 1 := hj; omega
    subst hj0
    exact ⟨hx2.cell 0, hx2.cell 1⟩⟩)
  rw [of_e1] at this
  exact this.mono fun e' w' h => ⟨h.1, below_2 (below_2 hb1 hb2) h.2⟩
theorem call_2 {w : World} (ht : Tb w) : Calls Tryd.prog 19 #[.agg #[.int .i64 4, .int .i64 0, .string ⟨#[]⟩, .slice (some ⟨w.heap.size, 0, none⟩) 2 2], .slice none 0 0] (w.alloc (.cells #[.int .i64 1, .int .i64 1, .string ⟨#[]⟩, .slice none 0 0, .int .i64 2, .int .i64 0, .string ⟨#[97]⟩, .slice none 0 0] 46))
    fun e' w' => e' = .returned (.tuple #[.int .i64 0, .int .i64 10]) ∧ Below w.heap.size w w' := by
  have hb1 := below_box w (.cells #[.int .i64 1, .int .i64 1, .string ⟨#[]⟩, .slice none 0 0, .int .i64 2, .int .i64 0, .string ⟨#[97]⟩, .slice none 0 0] 46)
  have hx1 := Bx.new w #[.int .i64 1, .int .i64 1, .string ⟨#[]⟩, .slice none 0 0, .int .i64 2, .int .i64 0, .string ⟨#[97]⟩, .slice none 0 0] 46
  have := oOf_any e2 (some ⟨w.heap.size, 0, none⟩) 2 [] none 0 ok_e2 sz_e2 ov_0 _ (ht.below hb1) (kids_l2 hx1) (Or.inl rfl)
  rw [of_e2] at this
  exact this.mono fun e' w' h => ⟨h.1, below_2 hb1 h.2⟩
theorem call_3 {w : World} (ht : Tb w) : Calls Tryd.prog 19 #[.agg #[.int .i64 4, .int .i64 0, .string ⟨#[]⟩, .slice (some ⟨w.heap.size, 0, none⟩) 2 2], .slice none 0 0] (w.alloc (.cells #[.int .i64 3, .int .i64 0, .string ⟨#[120]⟩, .slice none 0 0, .int .i64 2, .int .i64 0, .string ⟨#[97]⟩, .slice none 0 0] 46))
    fun e' w' => e' = .returned (.tuple #[.int .i64 0, .int .i64 11]) ∧ Below w.heap.size w w' := by
  have hb1 := below_box w (.cells #[.int .i64 3, .int .i64 0, .string ⟨#[120]⟩, .slice none 0 0, .int .i64 2, .int .i64 0, .string ⟨#[97]⟩, .slice none 0 0] 46)
  have hx1 := Bx.new w #[.int .i64 3, .int .i64 0, .string ⟨#[120]⟩, .slice none 0 0, .int .i64 2, .int .i64 0, .string ⟨#[97]⟩, .slice none 0 0] 46
  have := oOf_any e3 (some ⟨w.heap.size, 0, none⟩) 2 [] none 0 ok_e3 sz_e3 ov_0 _ (ht.below hb1) (kids_l2 hx1) (Or.inl rfl)
  rw [of_e3] at this
  exact this.mono fun e' w' h => ⟨h.1, below_2 hb1 h.2⟩
theorem st_at {F : World} {g i : Nat} {o mx : Int} {nm : ByteArray} {a b : Ex} {bd el : List St} {a5 a6 : Option Addr} {c5 c6 : Nat} (h0 : F.cell? ⟨g, i, none⟩ = some (.int .i64 o)) (h1 : F.cell? ⟨g, i + 1, none⟩ = some (.string nm)) (h2 : F.cell? ⟨g, i + 2, none⟩ = some (.int .i64 mx))
    (h3 : ExAt F a g (i + 3)) (h4 : ExAt F b g (i + 7)) (h5 : F.cell? ⟨g, i + 11, none⟩ = some (.slice a5 bd.length c5)) (k5 : Bodies F a5 bd) (h6 : F.cell? ⟨g, i + 12, none⟩ = some (.slice a6 el.length c6)) (k6 : Bodies F a6 el) : StAt F (.mk o nm mx a b bd el) g i := by
  rw [StAt]
  exact ⟨h0, h1, h2, h3, h4, ⟨a5, c5, h5, k5⟩, ⟨a6, c6, h6, k6⟩⟩
theorem bodies_1 {F : World} {g : Nat} {s : St} (h : StAt F s g 0) : Bodies F (some ⟨g, 0, none⟩) [s] := Or.inr ⟨g, 0, rfl, by rw [StsAt, StsAt]; exact ⟨h, trivial⟩⟩
theorem has_at {F : World} {g i hh : Nat} (h0 : F.cell? ⟨g, i, none⟩ = some (.int .i64 24)) (h1 : F.cell? ⟨g, i + 1, none⟩ = some (.int .i64 0)) (h2 : F.cell? ⟨g, i + 2, none⟩ = some (.string ⟨#[]⟩)) (h3 : F.cell? ⟨g, i + 3, none⟩ = some (.slice (some ⟨hh, 0, none⟩) 1 1))
    (hk : Bx F hh #[.int .i64 2, .int .i64 0, .string ⟨#[107]⟩, .slice none 0 0] 46) : ExAt F hasE g i := by
  unfold hasE
  rw [ExAt]
  exact ⟨h0, h1, h2, _, _, h3, kids_l1 hk⟩
theorem in_p {F : World} {g7 g3 h : Nat} (h7 : Bx F g7 #[.int .i64 5, .string ⟨#[]⟩, .int .i64 0, .int .i64 24, .int .i64 0, .string ⟨#[]⟩, .slice (some ⟨h, 0, none⟩) 1 1, .int .i64 0, .int .i64 0, .string ⟨#[]⟩, .slice none 0 0, .slice (some ⟨g3, 0, none⟩) 1 1, .slice none 0 0, .int .i64 7, .string ⟨#[]⟩, .int .i64 0, .int .i64 3, .int .i64 0, .string ⟨#[120]⟩, .slice none 0 0, .int .i64 0, .int .i64 0, .string ⟨#[]⟩, .slice none 0 0, .slice none 0 0, .slice none 0 0] 48) (h3 : Bx F g3 #[.int .i64 1, .string ⟨#[120]⟩, .int .i64 0, .int .i64 1, .int .i64 1, .string ⟨#[]⟩, .slice none 0 0, .int .i64 0, .int .i64 0, .string ⟨#[]⟩, .slice none 0 0, .slice none 0 0, .slice none 0 0] 48) (hk : Bx F h #[.int .i64 2, .int .i64 0, .string ⟨#[107]⟩, .slice none 0 0] 46) : PrIn F pP none (some ⟨g7, 0, none⟩) := by
  refine ⟨Or.inl rfl, Or.inr ⟨g7, 0, rfl, ?_⟩⟩
  show StsAt F [_, _] g7 0
  rw [StsAt, StsAt, StsAt]
  exact ⟨st_at (h7.cell 0) (h7.cell 1) (h7.cell 2) (has_at (h7.cell 3) (h7.cell 4) (h7.cell 5) (h7.cell 6) hk) (at_lf (h7.cell 7) (h7.cell 8) (h7.cell 9) (h7.cell 10)) (h7.cell 11)
      (bodies_1 (st_at (h3.cell 0) (h3.cell 1) (h3.cell 2) (at_lf (h3.cell 3) (h3.cell 4) (h3.cell 5) (h3.cell 6)) (at_lf (h3.cell 7) (h3.cell 8) (h3.cell 9) (h3.cell 10)) (h3.cell 11) (Or.inl rfl) (h3.cell 12) (Or.inl rfl))) (h7.cell 12) (Or.inl rfl),
    st_at (h7.cell 13) (h7.cell 14) (h7.cell 15) (at_lf (h7.cell 16) (h7.cell 17) (h7.cell 18) (h7.cell 19)) (at_lf (h7.cell 20) (h7.cell 21) (h7.cell 22) (h7.cell 23)) (h7.cell 24) (Or.inl rfl) (h7.cell 25) (Or.inl rfl), trivial⟩
theorem in_q {F : World} {g1 g0 : Nat} (h1 : Bx F g1 #[.int .i64 6, .string ⟨#[105]⟩, .int .i64 2, .int .i64 1, .int .i64 1, .string ⟨#[]⟩, .slice none 0 0, .int .i64 1, .int .i64 1, .string ⟨#[]⟩, .slice none 0 0, .slice (some ⟨g0, 0, none⟩) 1 1, .slice none 0 0] 48) (h0 : Bx F g0 #[.int .i64 2, .string ⟨#[105]⟩, .int .i64 0, .int .i64 1, .int .i64 1, .string ⟨#[]⟩, .slice none 0 0, .int .i64 0, .int .i64 0, .string ⟨#[]⟩, .slice none 0 0, .slice none 0 0, .slice none 0 0] 48) : PrIn F qP none (some ⟨g1, 0, none⟩) := by
  refine ⟨Or.inl rfl, bodies_1 (st_at (h1.cell 0) (h1.cell 1) (h1.cell 2) (at_lf (h1.cell 3) (h1.cell 4) (h1.cell 5) (h1.cell 6)) (at_lf (h1.cell 7) (h1.cell 8) (h1.cell 9) (h1.cell 10)) (h1.cell 11)
      (bodies_1 (st_at (h0.cell 0) (h0.cell 1) (h0.cell 2) (at_lf (h0.cell 3) (h0.cell 4) (h0.cell 5) (h0.cell 6)) (at_lf (h0.cell 7) (h0.cell 8) (h0.cell 9) (h0.cell 10)) (h0.cell 11) (Or.inl rfl) (h0.cell 12) (Or.inl rfl))) (h1.cell 12) (Or.inl rfl))⟩
theorem in_r {F : World} {gp gb h : Nat} (hp : Bx F gp #[.string ⟨#[97]⟩, .int .i64 2] 51) (hb : Bx F gb #[.int .i64 1, .string ⟨#[98]⟩, .int .i64 0, .int .i64 24, .int .i64 0, .string ⟨#[]⟩, .slice (some ⟨h, 0, none⟩) 1 1, .int .i64 0, .int .i64 0, .string ⟨#[]⟩, .slice none 0 0, .slice none 0 0, .slice none 0 0] 48) (hk : Bx F h #[.int .i64 2, .int .i64 0, .string ⟨#[107]⟩, .slice none 0 0] 46) : PrIn F rP (some ⟨gp, 0, none⟩) (some ⟨gb, 0, none⟩) := by
  refine ⟨Or.inr ⟨gp, 0, rfl, fun j hj => ?_⟩, bodies_1 (st_at (hb.cell 0) (hb.cell 1) (hb.cell 2) (has_at (hb.cell 3) (hb.cell 4) (hb.cell 5) (hb.cell 6) hk) (at_lf (hb.cell 7) (hb.cell 8) (hb.cell 9) (hb.cell 10)) (hb.cell 11) (Or.inl rfl) (hb.cell 12) (Or.inl rfl))⟩
  have hj0 : j = 0 := by have : j < 1 := hj; omega
  subst hj0
  exact ⟨hp.cell 0, hp.cell 1⟩
/-! ### all that the examples have laid down -/
structure RB (F : World) (h g9 g7 g3 n : Nat) : Prop where
  tb : Tb F
  hk : Bx F (h) #[.int .i64 2, .int .i64 0, .string ⟨#[107]⟩, .slice none 0 0] 46
  p9 : Bx F (g9) #[.string ⟨#[112]⟩, .slice none 0 0, .slice (some ⟨g7, 0, none⟩) 2 2] 25
  p7 : Bx F (g7) #[.int .i64 5, .string ⟨#[]⟩, .int .i64 0, .int .i64 24, .int .i64 0, .string ⟨#[]⟩, .slice (some ⟨h, 0, none⟩) 1 1, .int .i64 0, .int .i64 0, .string ⟨#[]⟩, .slice none 0 0, .slice (some ⟨g3, 0, none⟩) 1 1, .slice none 0 0, .int .i64 7, .string ⟨#[]⟩, .int .i64 0, .int .i64 3, .int .i64 0, .string ⟨#[120]⟩, .slice none 0 0, .int .i64 0, .int .i64 0, .string ⟨#[]⟩, .slice none 0 0, .slice none 0 0, .slice none 0 0] 48
  p3 : Bx F (g3) #[.int .i64 1, .string ⟨#[120]⟩, .int .i64 0, .int .i64 1, .int .i64 1, .string ⟨#[]⟩, .slice none 0 0, .int .i64 0, .int .i64 0, .string ⟨#[]⟩, .slice none 0 0, .slice none 0 0, .slice none 0 0] 48
  s : Bx F (n) #[.int .i64 2, .string ⟨#[105]⟩, .int .i64 0, .int .i64 1, .int .i64 1, .string ⟨#[]⟩, .slice none 0 0, .int .i64 0, .int .i64 0, .string ⟨#[]⟩, .slice none 0 0, .slice none 0 0, .slice none 0 0] 48
  f : Bx F (n + 1) #[.int .i64 6, .string ⟨#[105]⟩, .int .i64 2, .int .i64 1, .int .i64 1, .string ⟨#[]⟩, .slice none 0 0, .int .i64 1, .int .i64 1, .string ⟨#[]⟩, .slice none 0 0, .slice (some ⟨n, 0, none⟩) 1 1, .slice none 0 0] 48
  q : Bx F (n + 1 + 1) #[.string ⟨#[113]⟩, .slice none 0 0, .slice (some ⟨n + 1, 0, none⟩) 1 1] 25
  pm : Bx F (n + 1 + 1 + 1) #[.string ⟨#[97]⟩, .int .i64 2] 51
  b : Bx F (n + 1 + 1 + 1 + 1) #[.int .i64 1, .string ⟨#[98]⟩, .int .i64 0, .int .i64 24, .int .i64 0, .string ⟨#[]⟩, .slice (some ⟨h, 0, none⟩) 1 1, .int .i64 0, .int .i64 0, .string ⟨#[]⟩, .slice none 0 0, .slice none 0 0, .slice none 0 0] 48
  r : Bx F (n + 1 + 1 + 1 + 1 + 1) #[.string ⟨#[114]⟩, .slice (some ⟨n + 1 + 1 + 1, 0, none⟩) 1 1, .slice (some ⟨n + 1 + 1 + 1 + 1, 0, none⟩) 1 1] 25
theorem RB.below {F F' : World} {h g9 g7 g3 n : Nat} (H : RB F h g9 g7 g3 n) (hb : Below F.heap.size F F') : RB F' h g9 g7 g3 n :=
  ⟨H.tb.below hb, H.hk.below hb, H.p9.below hb, H.p7.below hb, H.p3.below hb, H.s.below hb, H.f.below hb, H.q.below hb, H.pm.below hb, H.b.below hb, H.r.below hb⟩
theorem r_names : ∀ j (h : j < rP.params.length), rP.params[j].name.size ≤ 281474976710656 := fun j h => by
    have hj : j < 1 := h
    have hj0 : j = 0 := by omega
    subst hj0
    show (⟨#[97]⟩ : ByteArray).size ≤ _
    decide
theorem check_p {F : World} {h g9 g7 g3 n : Nat} (H : RB F h g9 g7 g3 n) : Calls Tryd.prog 23 #[.agg #[.string ⟨#[112]⟩, .slice none 0 0, .slice (some ⟨g7, 0, none⟩) 2 2]] F fun e w' => e = .returned (.int .i64 11) ∧ Below F.heap.size F w' := by
  have := oCheck_any pP (none) (some ⟨g7, 0, none⟩) 0 2 ok_pP sz_p (by decide) (fun j h => absurd h (Nat.not_lt_zero _)) (by decide) F H.tb (in_p H.p7 H.p3 H.hk)
  rw [chk_p] at this
  exact this
theorem check_q {F : World} {h g9 g7 g3 n : Nat} (H : RB F h g9 g7 g3 n) : Calls Tryd.prog 23 #[.agg #[.string ⟨#[113]⟩, .slice none 0 0, .slice (some ⟨n + 1, 0, none⟩) 1 1]] F fun e w' => e = .returned (.int .i64 7) ∧ Below F.heap.size F w' := by
  have := oCheck_any qP (none) (some ⟨n + 1, 0, none⟩) 0 1 ok_qP sz_q (by decide) (fun j h => absurd h (Nat.not_lt_zero _)) (by decide) F H.tb (in_q H.f H.s)
  rw [chk_q] at this
  exact this
theorem check_r {F : World} {h g9 g7 g3 n : Nat} (H : RB F h g9 g7 g3 n) : Calls Tryd.prog 23 #[.agg #[.string ⟨#[114]⟩, .slice (some ⟨n + 1 + 1 + 1, 0, none⟩) 1 1, .slice (some ⟨n + 1 + 1 + 1 + 1, 0, none⟩) 1 1]] F fun e w' => e = .returned (.int .i64 0) ∧ Below F.heap.size F w' := by
  have := oCheck_any rP (some ⟨n + 1 + 1 + 1, 0, none⟩) (some ⟨n + 1 + 1 + 1 + 1, 0, none⟩) 1 1 ok_rP sz_r (by decide) r_names (by decide) F H.tb (in_r H.pm H.b H.hk)
  rw [chk_r] at this
  exact this
theorem vars_r {F : World} {h g9 g7 g3 n : Nat} (H : RB F h g9 g7 g3 n) : Calls Tryd.prog 10 #[.agg #[.string ⟨#[114]⟩, .slice (some ⟨n + 1 + 1 + 1, 0, none⟩) 1 1, .slice (some ⟨n + 1 + 1 + 1 + 1, 0, none⟩) 1 1]] F (GivesV F [⟨⟨#[97]⟩, 2⟩, ⟨⟨#[98]⟩, 3⟩]) := by
  have := oVars_any rP (some ⟨n + 1 + 1 + 1, 0, none⟩) (some ⟨n + 1 + 1 + 1 + 1, 0, none⟩) 1 1 ok_rP sz_r (by decide) r_names (by decide) F H.tb (in_r H.pm H.b H.hk)
  rw [chk_r] at this
  exact this
theorem args_1 {F : World} {h g9 g7 g3 n : Nat} (H0 : RB F h g9 g7 g3 n) : Calls Tryd.prog 24 #[.agg #[.string ⟨#[114]⟩, .slice (some ⟨n + 1 + 1 + 1, 0, none⟩) 1 1, .slice (some ⟨n + 1 + 1 + 1 + 1, 0, none⟩) 1 1], .slice (some ⟨F.heap.size, 0, none⟩) 1 1] (F.alloc (.cells #[.int .i64 2, .int .i64 0, .string ⟨#[107]⟩] 59)) fun e w' => e = .returned (.int .i64 0) ∧ Below F.heap.size F w' := by
  have hb := below_box F (.cells #[.int .i64 2, .int .i64 0, .string ⟨#[107]⟩] 59)
  have hx := Bx.new F #[.int .i64 2, .int .i64 0, .string ⟨#[107]⟩] 59
  have H := H0.below hb
  have := oArgs_any rP (some ⟨n + 1 + 1 + 1, 0, none⟩) (some ⟨n + 1 + 1 + 1 + 1, 0, none⟩) 1 1 ok_rP sz_r (by decide) r_names (by decide) [⟨2, 0, ⟨#[107]⟩⟩] (some ⟨F.heap.size, 0, none⟩) 1 (by decide) (fun v hv => by rw [List.mem_singleton.1 hv]; decide) (F.alloc (.cells #[.int .i64 2, .int .i64 0, .string ⟨#[107]⟩] 59)) H.tb (in_r H.pm H.b H.hk) (Or.inr ⟨_, 0, rfl, fun j hj => by
    have hj' : j < 1 := hj
    have hj0 : j = 0 := by omega
    subst hj0
    exact ⟨hx.cell 0, hx.cell 1, hx.cell 2⟩⟩)
  rw [arg_1] at this
  exact this.mono fun e' w' h => ⟨h.1, below_2 hb h.2⟩
theorem args_2 {F : World} {h g9 g7 g3 n : Nat} (H0 : RB F h g9 g7 g3 n) : Calls Tryd.prog 24 #[.agg #[.string ⟨#[114]⟩, .slice (some ⟨n + 1 + 1 + 1, 0, none⟩) 1 1, .slice (some ⟨n + 1 + 1 + 1 + 1, 0, none⟩) 1 1], .slice none 0 0] F fun e w' => e = .returned (.int .i64 1) ∧ Below F.heap.size F w' := by
  have := oArgs_any rP (some ⟨n + 1 + 1 + 1, 0, none⟩) (some ⟨n + 1 + 1 + 1 + 1, 0, none⟩) 1 1 ok_rP sz_r (by decide) r_names (by decide) [] none 0 (by decide) (fun v hv => (nomatch hv)) F H0.tb (in_r H0.pm H0.b H0.hk) (Or.inl rfl)
  rw [arg_2] at this
  exact this
theorem args_3 {F : World} {h g9 g7 g3 n : Nat} (H0 : RB F h g9 g7 g3 n) : Calls Tryd.prog 24 #[.agg #[.string ⟨#[114]⟩, .slice (some ⟨n + 1 + 1 + 1, 0, none⟩) 1 1, .slice (some ⟨n + 1 + 1 + 1 + 1, 0, none⟩) 1 1], .slice (some ⟨F.heap.size, 0, none⟩) 1 1] (F.alloc (.cells #[.int .i64 1, .int .i64 0, .string ⟨#[]⟩] 59)) fun e w' => e = .returned (.int .i64 10) ∧ Below F.heap.size F w' := by
  have hb := below_box F (.cells #[.int .i64 1, .int .i64 0, .string ⟨#[]⟩] 59)
  have hx := Bx.new F #[.int .i64 1, .int .i64 0, .string ⟨#[]⟩] 59
  have H := H0.below hb
  have := oArgs_any rP (some ⟨n + 1 + 1 + 1, 0, none⟩) (some ⟨n + 1 + 1 + 1 + 1, 0, none⟩) 1 1 ok_rP sz_r (by decide) r_names (by decide) [⟨1, 0, ⟨#[]⟩⟩] (some ⟨F.heap.size, 0, none⟩) 1 (by decide) (fun v hv => by rw [List.mem_singleton.1 hv]; decide) (F.alloc (.cells #[.int .i64 1, .int .i64 0, .string ⟨#[]⟩] 59)) H.tb (in_r H.pm H.b H.hk) (Or.inr ⟨_, 0, rfl, fun j hj => by
    have hj' : j < 1 := hj
    have hj0 : j = 0 := by omega
    subst hj0
    exact ⟨hx.cell 0, hx.cell 1, hx.cell 2⟩⟩)
  rw [arg_3] at this
  exact this.mono fun e' w' h => ⟨h.1, below_2 hb h.2⟩
theorem chain {w : World} {h g9 g7 g3 : Nat} (ht : Tb w) (hk : Bx w h #[.int .i64 2, .int .i64 0, .string ⟨#[107]⟩, .slice none 0 0] 46) (h9 : Bx w g9 #[.string ⟨#[112]⟩, .slice none 0 0, .slice (some ⟨g7, 0, none⟩) 2 2] 25) (h7 : Bx w g7 #[.int .i64 5, .string ⟨#[]⟩, .int .i64 0, .int .i64 24, .int .i64 0, .string ⟨#[]⟩, .slice (some ⟨h, 0, none⟩) 1 1, .int .i64 0, .int .i64 0, .string ⟨#[]⟩, .slice none 0 0, .slice (some ⟨g3, 0, none⟩) 1 1, .slice none 0 0, .int .i64 7, .string ⟨#[]⟩, .int .i64 0, .int .i64 3, .int .i64 0, .string ⟨#[120]⟩, .slice none 0 0, .int .i64 0, .int .i64 0, .string ⟨#[]⟩, .slice none 0 0, .slice none 0 0, .slice none 0 0] 48) (h3 : Bx w g3 #[.int .i64 1, .string ⟨#[120]⟩, .int .i64 0, .int .i64 1, .int .i64 1, .string ⟨#[]⟩, .slice none 0 0, .int .i64 0, .int .i64 0, .string ⟨#[]⟩, .slice none 0 0, .slice none 0 0, .slice none 0 0] 48) : RB ((((((w.alloc (.cells #[.int .i64 2, .string ⟨#[105]⟩, .int .i64 0, .int .i64 1, .int .i64 1, .string ⟨#[]⟩, .slice none 0 0, .int .i64 0, .int .i64 0, .string ⟨#[]⟩, .slice none 0 0, .slice none 0 0, .slice none 0 0] 48)).alloc (.cells #[.int .i64 6, .string ⟨#[105]⟩, .int .i64 2, .int .i64 1, .int .i64 1, .string ⟨#[]⟩, .slice none 0 0, .int .i64 1, .int .i64 1, .string ⟨#[]⟩, .slice none 0 0, .slice (some ⟨w.heap.size, 0, none⟩) 1 1, .slice none 0 0] 48)).alloc (.cells #[.string ⟨#[113]⟩, .slice none 0 0, .slice (some ⟨w.heap.size + 1, 0, none⟩) 1 1] 25)).alloc (.cells #[.string ⟨#[97]⟩, .int .i64 2] 51)).alloc (.cells #[.int .i64 1, .string ⟨#[98]⟩, .int .i64 0, .int .i64 24, .int .i64 0, .string ⟨#[]⟩, .slice (some ⟨h, 0, none⟩) 1 1, .int .i64 0, .int .i64 0, .string ⟨#[]⟩, .slice none 0 0, .slice none 0 0, .slice none 0 0] 48)).alloc (.cells #[.string ⟨#[114]⟩, .slice (some ⟨w.heap.size + 1 + 1 + 1, 0, none⟩) 1 1, .slice (some ⟨w.heap.size + 1 + 1 + 1 + 1, 0, none⟩) 1 1] 25)) h g9 g7 g3 w.heap.size ∧ Below w.heap.size w ((((((w.alloc (.cells #[.int .i64 2, .string ⟨#[105]⟩, .int .i64 0, .int .i64 1, .int .i64 1, .string ⟨#[]⟩, .slice none 0 0, .int .i64 0, .int .i64 0, .string ⟨#[]⟩, .slice none 0 0, .slice none 0 0, .slice none 0 0] 48)).alloc (.cells #[.int .i64 6, .string ⟨#[105]⟩, .int .i64 2, .int .i64 1, .int .i64 1, .string ⟨#[]⟩, .slice none 0 0, .int .i64 1, .int .i64 1, .string ⟨#[]⟩, .slice none 0 0, .slice (some ⟨w.heap.size, 0, none⟩) 1 1, .slice none 0 0] 48)).alloc (.cells #[.string ⟨#[113]⟩, .slice none 0 0, .slice (some ⟨w.heap.size + 1, 0, none⟩) 1 1] 25)).alloc (.cells #[.string ⟨#[97]⟩, .int .i64 2] 51)).alloc (.cells #[.int .i64 1, .string ⟨#[98]⟩, .int .i64 0, .int .i64 24, .int .i64 0, .string ⟨#[]⟩, .slice (some ⟨h, 0, none⟩) 1 1, .int .i64 0, .int .i64 0, .string ⟨#[]⟩, .slice none 0 0, .slice none 0 0, .slice none 0 0] 48)).alloc (.cells #[.string ⟨#[114]⟩, .slice (some ⟨w.heap.size + 1 + 1 + 1, 0, none⟩) 1 1, .slice (some ⟨w.heap.size + 1 + 1 + 1 + 1, 0, none⟩) 1 1] 25)) := by
  obtain ⟨z1, e1⟩ : ∃ z, z = (w.alloc (.cells #[.int .i64 2, .string ⟨#[105]⟩, .int .i64 0, .int .i64 1, .int .i64 1, .string ⟨#[]⟩, .slice none 0 0, .int .i64 0, .int .i64 0, .string ⟨#[]⟩, .slice none 0 0, .slice none 0 0, .slice none 0 0] 48)) := ⟨_, rfl⟩
  have b1 : Below w.heap.size w z1 := by rw [e1]; exact below_box _ _
  have x1 : Bx z1 (w.heap.size) #[.int .i64 2, .string ⟨#[105]⟩, .int .i64 0, .int .i64 1, .int .i64 1, .string ⟨#[]⟩, .slice none 0 0, .int .i64 0, .int .i64 0, .string ⟨#[]⟩, .slice none 0 0, .slice none 0 0, .slice none 0 0] 48 := by rw [e1]; have := Bx.new w #[.int .i64 2, .string ⟨#[105]⟩, .int .i64 0, .int .i64 1, .int .i64 1, .string ⟨#[]⟩, .slice none 0 0, .int .i64 0, .int .i64 0, .string ⟨#[]⟩, .slice none 0 0, .slice none 0 0, .slice none 0 0] 48; exact this
  have s1 : z1.heap.size = w.heap.size + 1 := by rw [e1]; simp
  obtain ⟨z2, e2⟩ : ∃ z, z = (z1.alloc (.cells #[.int .i64 6, .string ⟨#[105]⟩, .int .i64 2, .int .i64 1, .int .i64 1, .string ⟨#[]⟩, .slice none 0 0, .int .i64 1, .int .i64 1, .string ⟨#[]⟩, .slice none 0 0, .slice (some ⟨w.heap.size, 0, none⟩) 1 1, .slice none 0 0] 48)) := ⟨_, rfl⟩
  have b2 : Below z1.heap.size z1 z2 := by rw [e2]; exact below_box _ _
  have x2 : Bx z2 (w.heap.size + 1) #[.int .i64 6, .string ⟨#[105]⟩, .int .i64 2, .int .i64 1, .int .i64 1, .string ⟨#[]⟩, .slice none 0 0, .int .i64 1, .int .i64 1, .string ⟨#[]⟩, .slice none 0 0, .slice (some ⟨w.heap.size, 0, none⟩) 1 1, .slice none 0 0] 48 := by rw [e2]; have := Bx.new z1 #[.int .i64 6, .string ⟨#[105]⟩, .int .i64 2, .int .i64 1, .int .i64 1, .string ⟨#[]⟩, .slice none 0 0, .int .i64 1, .int .i64 1, .string ⟨#[]⟩, .slice none 0 0, .slice (some ⟨w.heap.size, 0, none⟩) 1 1, .slice none 0 0] 48; rw [s1] at this; exact this
  have s2 : z2.heap.size = w.heap.size + 1 + 1 := by rw [e2]; simp [s1]
  obtain ⟨z3, e3⟩ : ∃ z, z = (z2.alloc (.cells #[.string ⟨#[113]⟩, .slice none 0 0, .slice (some ⟨w.heap.size + 1, 0, none⟩) 1 1] 25)) := ⟨_, rfl⟩
  have b3 : Below z2.heap.size z2 z3 := by rw [e3]; exact below_box _ _
  have x3 : Bx z3 (w.heap.size + 1 + 1) #[.string ⟨#[113]⟩, .slice none 0 0, .slice (some ⟨w.heap.size + 1, 0, none⟩) 1 1] 25 := by rw [e3]; have := Bx.new z2 #[.string ⟨#[113]⟩, .slice none 0 0, .slice (some ⟨w.heap.size + 1, 0, none⟩) 1 1] 25; rw [s2] at this; exact this
  have s3 : z3.heap.size = w.heap.size + 1 + 1 + 1 := by rw [e3]; simp [s2]
  obtain ⟨z4, e4⟩ : ∃ z, z = (z3.alloc (.cells #[.string ⟨#[97]⟩, .int .i64 2] 51)) := ⟨_, rfl⟩
  have b4 : Below z3.heap.size z3 z4 := by rw [e4]; exact below_box _ _
  have x4 : Bx z4 (w.heap.size + 1 + 1 + 1) #[.string ⟨#[97]⟩, .int .i64 2] 51 := by rw [e4]; have := Bx.new z3 #[.string ⟨#[97]⟩, .int .i64 2] 51; rw [s3] at this; exact this
  have s4 : z4.heap.size = w.heap.size + 1 + 1 + 1 + 1 := by rw [e4]; simp [s3]
  obtain ⟨z5, e5⟩ : ∃ z, z = (z4.alloc (.cells #[.int .i64 1, .string ⟨#[98]⟩, .int .i64 0, .int .i64 24, .int .i64 0, .string ⟨#[]⟩, .slice (some ⟨h, 0, none⟩) 1 1, .int .i64 0, .int .i64 0, .string ⟨#[]⟩, .slice none 0 0, .slice none 0 0, .slice none 0 0] 48)) := ⟨_, rfl⟩
  have b5 : Below z4.heap.size z4 z5 := by rw [e5]; exact below_box _ _
  have x5 : Bx z5 (w.heap.size + 1 + 1 + 1 + 1) #[.int .i64 1, .string ⟨#[98]⟩, .int .i64 0, .int .i64 24, .int .i64 0, .string ⟨#[]⟩, .slice (some ⟨h, 0, none⟩) 1 1, .int .i64 0, .int .i64 0, .string ⟨#[]⟩, .slice none 0 0, .slice none 0 0, .slice none 0 0] 48 := by rw [e5]; have := Bx.new z4 #[.int .i64 1, .string ⟨#[98]⟩, .int .i64 0, .int .i64 24, .int .i64 0, .string ⟨#[]⟩, .slice (some ⟨h, 0, none⟩) 1 1, .int .i64 0, .int .i64 0, .string ⟨#[]⟩, .slice none 0 0, .slice none 0 0, .slice none 0 0] 48; rw [s4] at this; exact this
  have s5 : z5.heap.size = w.heap.size + 1 + 1 + 1 + 1 + 1 := by rw [e5]; simp [s4]
  obtain ⟨z6, e6⟩ : ∃ z, z = (z5.alloc (.cells #[.string ⟨#[114]⟩, .slice (some ⟨w.heap.size + 1 + 1 + 1, 0, none⟩) 1 1, .slice (some ⟨w.heap.size + 1 + 1 + 1 + 1, 0, none⟩) 1 1] 25)) := ⟨_, rfl⟩
  have b6 : Below z5.heap.size z5 z6 := by rw [e6]; exact below_box _ _
  have x6 : Bx z6 (w.heap.size + 1 + 1 + 1 + 1 + 1) #[.string ⟨#[114]⟩, .slice (some ⟨w.heap.size + 1 + 1 + 1, 0, none⟩) 1 1, .slice (some ⟨w.heap.size + 1 + 1 + 1 + 1, 0, none⟩) 1 1] 25 := by rw [e6]; have := Bx.new z5 #[.string ⟨#[114]⟩, .slice (some ⟨w.heap.size + 1 + 1 + 1, 0, none⟩) 1 1, .slice (some ⟨w.heap.size + 1 + 1 + 1 + 1, 0, none⟩) 1 1] 25; rw [s5] at this; exact this
  have s6 : z6.heap.size = w.heap.size + 1 + 1 + 1 + 1 + 1 + 1 := by rw [e6]; simp [s5]
  rw [← e1, ← e2, ← e3, ← e4, ← e5, ← e6]
  have c5 := b6
  have c4 : Below z4.heap.size z4 z6 := below_2 b5 c5
  have c3 : Below z3.heap.size z3 z6 := below_2 b4 c4
  have c2 : Below z2.heap.size z2 z6 := below_2 b3 c3
  have c1 : Below z1.heap.size z1 z6 := below_2 b2 c2
  have c0 : Below w.heap.size w z6 := below_2 b1 c1
  exact ⟨⟨ht.below c0, hk.below c0, h9.below c0, h7.below c0, h3.below c0, x1.below c1, x2.below c2, x3.below c3, x4.below c4, x5.below c5, x6⟩, c0⟩
end Go.Proofs.YtkjefigebdbkaaaDoor.Y
