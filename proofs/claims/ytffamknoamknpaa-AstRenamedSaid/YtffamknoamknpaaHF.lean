/-
  Laws of layer 8: AstValidates: a walk.
  Plain mathematics of layer 8: what a renamed procedure fits; what the laws on Rename ask of it.
  Laws of layer 8: AstRenamed, AstRenames: walks.
  Laws of layer 8: AstRenames: a walk.
-/
import Derived.Test.YtffamknoamknpaaGM
import Derived.Test.YtffamknoamknpaaHE
import Derived.Test.YtffamknoamknpaaAFacts
import Derived.Test.YtffamknoamknpaaGJ
namespace Go.Proofs.Ytffamknoamknpaa.A
open Go.RowKit
open L (Str isName prt size_len below_2 below_box ret_bool ret_int eql_eq bytes_eq)

set_option maxHeartbeats 4000000 in
set_option maxRecDepth 100000 in
theorem validates_walk (HWk : Works) (p : Pr) (a1 a2 : Option Addr) (c1 c2 : Nat) (hok : OkP p) (hc1 : p.params.length ≤ c1) (w : World) (hK : PrIn w p a1 a2) :
    Calls Try.prog 5 #[prV p a1 c1 a2 c2] w fun e' w' => e' = .returned (.bool true) ∧ Below w.heap.size w w' := by
  have hw := below_box w (prO p a1 c1 a2 c2)
  have hx := Bx.new w #[.string p.name, .slice a1 p.params.length c1, .slice a2 p.body.length c2] 35
  have HS := Lib.hid (rsmall_any p a1 c1 a2 c2 1600 (by omega) hok _ (hK.below hw))
  have HSM : Hid (small p 1600 = true → SmP p 1600) := fun h => ⟨(small_ok h).1, (small_ok h).2.1, (small_ok h).2.2.1, (small_ok h).2.2.2⟩
  have HV : Hid (SmP p 1600 → ∀ w', PrIn w' p a1 a2 → Calls Try.prog 18 #[prV p a1 c1 a2 c2] w' fun e' w'' => e' = .returned (.int .i64 (valE p)) ∧ Below w'.heap.size w' w'') := fun h w' hk => ovalidate_any p a1 a2 c1 c2 hok (by have := h.body; omega) hc1 w' hk
  have HR : Hid (SmP p 1600 → ∀ w', PrIn w' p a1 a2 → Calls Try.prog 19 #[prV p a1 c1 a2 c2] w' fun e' w'' => e' = .returned (.int .i64 (valE p)) ∧ Below w'.heap.size w' w'') := fun h w' hk => rvalidate_any rstmt p a1 a2 c1 c2 hok (by have := h.body; omega) w' hk
  have HW := Lib.hid HWk
  have HK0 := Lib.hid (hK.below hw)
  have HB0 := Lib.hid hw
  have HX0 := Lib.hid hx
  clear HWk hok hK hw hx hc1
  generalize small p 1600 = sm at *
  generalize valE p = ve at *
  unfold prV at *
  unfold prO at *
  obtain ⟨m1, hm1⟩ : ∃ m, p.params.length = m := ⟨_, rfl⟩
  obtain ⟨m2, hm2⟩ : ∃ m, p.body.length = m := ⟨_, rfl⟩
  obtain ⟨n1, hn1⟩ : ∃ m, p.name = m := ⟨_, rfl⟩
  simp only [hm1, hm2, hn1, show ((1600 : Nat) : Int) = 1600 from rfl] at HS HV HR HX0 HB0 HK0 ⊢
  clear hm1 hm2 hn1
  cases sm
  · go_enter Try.func5, Try.ntmps5
    go_wp2_with fail
    refine HS.out.mono ?_; rintro e1 w1 ⟨rfl, hb1⟩
    have HB1 := Lib.hid (below_2 HB0.out hb1)
    clear hb1
    go_wp2_with fail
    refine (HW.out _).mono ?_; rintro e2 w2 ⟨rfl, hb2⟩
    go_wp2_with fail
    go_ret
    exact ⟨rfl, below_2 HB1.out hb2⟩
  · have HS3 := Lib.hid (HSM.out (by trivial))
    clear HSM
    go_enter Try.func5, Try.ntmps5
    go_wp2_with fail
    refine HS.out.mono ?_; rintro e1 w1 ⟨rfl, hb1⟩
    have HX1 := HX0.out.below hb1
    have x0 := HX1.cell 0
    have x1 := HX1.cell 1
    have x2 := HX1.cell 2
    simp at x0 x1 x2
    have HB1 := Lib.hid (below_2 HB0.out hb1)
    have HK1 := HK0.out.below hb1
    have C1 := Lib.hid (fun d os => Calls.regrown_of (w := w1) (d := d) (os := os) (HV.out HS3.out _ (HK1.below (below_regrown w1 d os))))
    have C2 := Lib.hid (fun d os => Calls.regrown_of (w := w1) (d := d) (os := os) (HR.out HS3.out _ (HK1.below (below_regrown w1 d os))))
    have C3 := Lib.hid (fun d os => Calls.regrown_of (w := w1) (d := d) (os := os) (HW.out _))
    have r0 := fun d os => cell_regrown x0 d os
    have r1 := fun d os => cell_regrown x1 d os
    have r2 := fun d os => cell_regrown x2 d os
    clear HX1 hb1 HK1
    go_wp2_with fail
    refine wp_region_quiet_below (by kernel_rfl) (by kernel_rfl) ?_
    repeat (go_big_quiet_step (first | with_reducible exact C1.out _ _ | with_reducible exact C2.out _ _ | with_reducible exact C3.out _ _))
    refine wpQuiet_nil ?_
    intro _ hw'
    obtain ⟨⟨dq, osq⟩, hw''⟩ := hw'
    subst hw''
    go_wp2_with fail
    go_ret
    exact ⟨rfl, below_2 HB1.out (below_regrown _ _ _)⟩
end Go.Proofs.Ytffamknoamknpaa.A
namespace Go.Proofs.Ytffamknoamknpaa.A
open L (Str isName prt size_len)

theorem swap_size (f t x : ByteArray) (n : Nat) (h : x.size ≤ n) (ht : t.size ≤ n) : (swap f t x).size ≤ n := by
  unfold swap
  split
  · exact ht
  · exact h
theorem swap_64 (f t x : ByteArray) (ht : t.size ≤ 200) : (swap f t x).size / 64 ≤ x.size / 64 + 3 := by
  unfold swap
  split
  · omega
  · omega
mutual
theorem okE_ren {f t : ByteArray} (ht : t.size ≤ 1000000000000000) : ∀ e : Ex, okE e → okE (renE f t e)
  | .mk o n s l, h => by
    rw [okE] at h
    rw [renE, okE]
    refine ⟨h.1, h.2.1, ?_, by rw [renEs_len]; exact h.2.2.2.1, okEs_ren ht l h.2.2.2.2⟩
    split
    · exact swap_size f t s _ h.2.2.1 ht
    · exact h.2.2.1
theorem okEs_ren {f t : ByteArray} (ht : t.size ≤ 1000000000000000) : ∀ l : List Ex, okEs l → okEs (renEs f t l)
  | [], _ => by rw [renEs, okEs]; trivial
  | e :: r, h => by
    rw [okEs] at h
    rw [renEs, okEs]
    exact ⟨okE_ren ht e h.1, okEs_ren ht r h.2⟩
end
mutual
theorem okS_ren {f t : ByteArray} (ht : t.size ≤ 1000000000000000) : ∀ s : St, okS s → okS (renS f t s)
  | .mk o nm mx a b bd el, h => by
    rw [okS] at h
    obtain ⟨h1, h2, h3, h4, h5, h6, h7, h8, h9⟩ := h
    rw [renS, okS]
    exact ⟨h1, swap_size f t nm _ h2 ht, h3, okE_ren ht a h4, okE_ren ht b h5, by rw [renB_len]; exact h6, okB_ren ht bd h7, by rw [renB_len]; exact h8, okB_ren ht el h9⟩
theorem okB_ren {f t : ByteArray} (ht : t.size ≤ 1000000000000000) : ∀ l : List St, okB l → okB (renB f t l)
  | [], _ => by rw [renB, okB]; trivial
  | s :: r, h => by
    rw [okB] at h
    rw [renB, okB]
    exact ⟨okS_ren ht s h.1, okB_ren ht r h.2⟩
end
mutual
theorem cE_ren {f t : ByteArray} (ht : t.size ≤ 200) : ∀ e : Ex, cE (renE f t e) ≤ 4 * cE e
  | .mk o n s l => by
    rw [renE, cE, cE]
    have h1 := cEs_ren (f := f) ht l
    have h2 := swap_64 f t s ht
    split <;> omega
theorem cEs_ren {f t : ByteArray} (ht : t.size ≤ 200) : ∀ l : List Ex, cEs (renEs f t l) ≤ 4 * cEs l
  | [] => by rw [renEs, cEs]; omega
  | e :: r => by
    have h1 := cE_ren (f := f) ht e
    have h2 := cEs_ren (f := f) ht r
    rw [renEs, cEs, cEs]
    omega
end
mutual
theorem cS_ren {f t : ByteArray} (ht : t.size ≤ 200) : ∀ s : St, cS (renS f t s) ≤ 4 * cS s
  | .mk o nm mx a b bd el => by
    have h0 := swap_64 f t nm ht
    have h1 := cE_ren (f := f) ht a
    have h2 := cE_ren (f := f) ht b
    have h3 := cB_ren (f := f) ht bd
    have h4 := cB_ren (f := f) ht el
    rw [renS, cS, cS]
    omega
theorem cB_ren {f t : ByteArray} (ht : t.size ≤ 200) : ∀ l : List St, cB (renB f t l) ≤ 4 * cB l
  | [] => by rw [renB, cB]; omega
  | s :: r => by
    have h1 := cS_ren (f := f) ht s
    have h2 := cB_ren (f := f) ht r
    rw [renB, cB, cB]
    omega
end
/-- what the contracts ask of a procedure -/
structure Pp (p : Pr) : Prop where
  ok : OkP p
  sz : cB p.body ≤ 900000
  pl : p.params.length ≤ 1000
  nm : p.name.size ≤ 281474976710656
  ps : ∀ j (h : j < p.params.length), p.params[j].name.size ≤ 281474976710656
theorem pp_small {p : Pr} (hok : OkP p) (h : SmP p 600) : Pp p :=
  ⟨hok, by have := h.body; omega, by have := h.params; omega, by have := h.name; omega, fun j hj => by have := h.each j hj; omega⟩
theorem pp_no : Pp noPr := by
  have h0 : (⟨#[]⟩ : ByteArray).size = 0 := rfl
  refine ⟨⟨by show (⟨#[]⟩ : ByteArray).size ≤ _; omega, Nat.zero_le _, (fun j hj => by cases hj), Nat.zero_le _, ?_⟩, ?_, Nat.zero_le _, by show (⟨#[]⟩ : ByteArray).size ≤ _; omega, (fun j hj => by cases hj)⟩
  · show okB []
    rw [okB]; trivial
  · show cB [] ≤ _
    rw [cB]; omega
theorem pp_ren {p : Pr} {f t : ByteArray} (hok : OkP p) (h : SmP p 600) (ht : t.size ≤ 200) : Pp (ren f t p) := by
  have hl : (ren f t p).params.length = p.params.length := by unfold ren; simp
  have hn : ∀ j (hj : j < (ren f t p).params.length), (ren f t p).params[j].name.size ≤ 200 := fun j hj => by
    have hj2 : j < p.params.length := by omega
    have e : (ren f t p).params[j].name = swap f t p.params[j].name := by simp only [ren, List.getElem_map]
    rw [e]
    exact swap_size f t _ 200 (h.each j hj2) ht
  have hc : cB (ren f t p).body ≤ 4 * cB p.body := cB_ren ht p.body
  have hb := h.body
  have hnm := h.name
  refine ⟨⟨hok.name, by rw [hl]; exact hok.params, fun j hj => by have := hn j hj; omega, by show (renB f t p.body).length ≤ _; rw [renB_len]; exact hok.bodyLen, okB_ren (by omega) p.body hok.body⟩, by omega, by rw [hl]; have := h.params; omega, by show p.name.size ≤ _; omega, fun j hj => by have := hn j hj; omega⟩
theorem pp_rename {p : Pr} {f t : ByteArray} (hok : OkP p) (h : SmP p 600) (ht : t.size ≤ 200) : Pp (rename p f t).1 := by
  unfold rename
  split
  · exact pp_no
  · split
    · exact pp_no
    · split
      · exact pp_no
      · split
        · exact pp_no
        · exact pp_ren hok h ht
end Go.Proofs.Ytffamknoamknpaa.A
namespace Go.Proofs.Ytffamknoamknpaa.A
open Go.RowKit
open L (Str isName prt size_len below_2 below_box ret_bool ret_int eql_eq bytes_eq)

/-- what the reference's Rename returns -/
def RRename : Prop := ∀ (p : Pr) (a1 a2 : Option Addr) (c1 c2 : Nat) (f t : ByteArray), OkP p → cB p.body ≤ 900000 → p.params.length ≤ 1000 → t.size ≤ 281474976710656 → ∀ w : World, PrIn w p a1 a2 →
    Calls Try.prog 33 #[prV p a1 c1 a2 c2, .string f, .string t] w fun e' w' => GivesRn w (rename p f t) e' w'
theorem oren_of {p : Pr} (H : Pp p) (a1 a2 : Option Addr) (c1 c2 : Nat) (f t : ByteArray) (hc : p.params.length ≤ c1) (ht : t.size ≤ 200) (w : World) (hK : PrIn w p a1 a2) :
    Calls Try.prog 32 #[prV p a1 c1 a2 c2, .string f, .string t] w fun e' w' => GivesRn w (rename p f t) e' w' :=
  orename_any p a1 a2 c1 c2 f t H.ok H.sz H.pl hc H.nm (by omega) H.ps w hK
set_option maxHeartbeats 8000000 in
set_option maxRecDepth 100000 in
theorem renamed_walk (HWk : Works) (HRR : RRename) (p : Pr) (a1 a2 : Option Addr) (c1 c2 : Nat) (f t : ByteArray) (hok : OkP p) (hc1 : p.params.length ≤ c1) (hf9 : f.size ≤ 1000000000000000) (ht9 : t.size ≤ 1000000000000000) (w : World) (hK : PrIn w p a1 a2) :
    Calls Try.prog 8 #[prV p a1 c1 a2 c2, .string f, .string t] w fun e' w' => e' = .returned (.bool true) ∧ Below w.heap.size w w' := by
  have hw := below_box w (prO p a1 c1 a2 c2)
  have hx := Bx.new w #[.string p.name, .slice a1 p.params.length c1, .slice a2 p.body.length c2] 35
  have HS := Lib.hid (rsmall_any p a1 c1 a2 c2 600 (by omega) hok _ (hK.below hw))
  have HSM : Hid (small p 600 = true → SmP p 600) := fun h => ⟨(small_ok h).1, (small_ok h).2.1, (small_ok h).2.2.1, (small_ok h).2.2.2⟩
  have HRn : Hid (SmP p 600 → t.size ≤ 200 → ∀ w', PrIn w' p a1 a2 → Calls Try.prog 32 #[prV p a1 c1 a2 c2, .string f, .string t] w' fun e' w'' => GivesRn w' (rename p f t) e' w'') := fun h h2 w' hk => oren_of (pp_small hok h) a1 a2 c1 c2 f t hc1 h2 w' hk
  have HW := Lib.hid HWk
  have HK0 := Lib.hid (hK.below hw)
  have HB0 := Lib.hid hw
  have HX0 := Lib.hid hx
  have HRf : Hid (SmP p 600 → t.size ≤ 200 → ∀ w', PrIn w' p a1 a2 → Calls Try.prog 33 #[prV p a1 c1 a2 c2, .string f, .string t] w' fun e' w'' => GivesRn w' (rename p f t) e' w'') := fun h h2 w' hk => HRR p a1 a2 c1 c2 f t hok (by have := h.body; omega) (by have := h.params; omega) (by omega) w' hk
  have HEq : Hid (∀ (q : Pr) (b1 b2 d1 d2 : Option Addr) (x1 x2 y1 y2 : Nat) (w' : World), Pp q → PrIn w' q b1 b2 → PrIn w' q d1 d2 → Calls Try.prog 31 #[prV q b1 x1 b2 x2, prV q d1 y1 d2 y2] w' fun e' w'' => e' = .returned (.bool true) ∧ Below w'.heap.size w' w'') := fun q b1 b2 d1 d2 x1 x2 y1 y2 w' h h1 h2 => by
    have := requal_any q q b1 b2 d1 d2 x1 x2 y1 y2 h.ok h.ok w' h1 h2
    rwa [eqP_self] at this
  have HPp : Hid (SmP p 600 → t.size ≤ 200 → Pp (rename p f t).1) := fun h h2 => pp_rename hok h h2
  clear HWk HRR hok hK hw hx hc1
  generalize rename p f t = r at *
  obtain ⟨x, z⟩ := r
  generalize small p 600 = sm at *
  unfold prV at HS HRn HRf ⊢
  unfold prO at *
  obtain ⟨m1, hm1⟩ : ∃ m, p.params.length = m := ⟨_, rfl⟩
  obtain ⟨m2, hm2⟩ : ∃ m, p.body.length = m := ⟨_, rfl⟩
  obtain ⟨n1, hn1⟩ : ∃ m, p.name = m := ⟨_, rfl⟩
  simp only [hm1, hm2, hn1, show ((600 : Nat) : Int) = 600 from rfl] at HS HRn HRf HX0 HB0 HK0 ⊢
  clear hm1 hm2 hn1
  have hfw : ∀ n : Nat, decide (200 < (n : Int)) = decide (200 < n) := fun n => decide_eq_decide.2 (by omega)
  clear hfw
  cases sm
  · go_enter Try.func8, Try.ntmps8
    go_wp2_with fail
    refine HS.out.mono ?_; rintro e1 w1 ⟨rfl, hb1⟩
    have HB1 := Lib.hid (below_2 HB0.out hb1)
    clear hb1
    go_wp2_with fail
    refine (HW.out _).mono ?_; rintro e2 w2 ⟨rfl, hb2⟩
    go_wp2_with fail
    go_ret
    exact ⟨rfl, below_2 HB1.out hb2⟩
  · by_cases hfl : ¬ f.size ≤ 200
    · have b1 : decide (200 < (f.size : Int)) = true := decide_eq_true (by omega)
      clear hfl
      go_enter Try.func8, Try.ntmps8
      go_wp2_with fail
      refine HS.out.mono ?_; rintro e1 w1 ⟨rfl, hb1⟩
      have HB1 := Lib.hid (below_2 HB0.out hb1)
      clear hb1
      go_wp2_with fail
      refine (HW.out _).mono ?_; rintro e2 w2 ⟨rfl, hb2⟩
      go_wp2_with fail
      go_ret
      exact ⟨rfl, below_2 HB1.out hb2⟩
    have b1 : decide (200 < (f.size : Int)) = false := decide_eq_false (by omega)
    have hfl := Decidable.not_not.1 hfl
    by_cases htl : ¬ t.size ≤ 200
    · have b2 : decide (200 < (t.size : Int)) = true := decide_eq_true (by omega)
      clear htl
      go_enter Try.func8, Try.ntmps8
      go_wp2_with fail
      refine HS.out.mono ?_; rintro e1 w1 ⟨rfl, hb1⟩
      have HB1 := Lib.hid (below_2 HB0.out hb1)
      clear hb1
      go_wp2_with fail
      refine (HW.out _).mono ?_; rintro e2 w2 ⟨rfl, hb2⟩
      go_wp2_with fail
      go_ret
      exact ⟨rfl, below_2 HB1.out hb2⟩
    · have b2 : decide (200 < (t.size : Int)) = false := decide_eq_false (by omega)
      have htl := Decidable.not_not.1 htl
      go_enter Try.func8, Try.ntmps8
      go_wp2_with fail
      refine HS.out.mono ?_; rintro e1 w1 ⟨rfl, hb1⟩
      have HBw0 := Lib.hid (below_2 HB0.out hb1)
      have HBw1 := Lib.hid hb1
      have HKw1 := Lib.hid (HK0.out.below hb1)
      clear hb1
      have HS3 := Lib.hid (HSM.out (by trivial))
      have HX3 := Lib.hid (HPp.out HS3.out htl)
      have hX1 := HX0.out.below HBw1.out
      have x0 := hX1.cell 0
      have x1 := hX1.cell 1
      have x2 := hX1.cell 2
      simp at x0 x1 x2
      have HXw1 := Lib.hid hX1
      clear HSM HPp hX1
      go_wp2_with fail
      refine (HRn.out HS3.out htl _ HKw1.out).mono ?_; rintro e2 w2 ⟨p1, q1, p2, q2, he, hq, _, hb2⟩
      unfold prV at he
      subst he
      have hbx := below_box w2 (.cells #[.string x.name, .slice p1 x.params.length q1, .slice p2 x.body.length q2] 35)
      have hbc := below_2 hb2 hbx
      have HY := Lib.hid (Bx.new w2 #[.string x.name, .slice p1 x.params.length q1, .slice p2 x.body.length q2] 35)
      have HQ := Lib.hid (hq.below hbx)
      have HBw2 := Lib.hid (below_2 HBw0.out hbc)
      have HKw2 := Lib.hid (HKw1.out.below hbc)
      have hX2 := HXw1.out.below hbc
      have x0 := hX2.cell 0
      have x1 := hX2.cell 1
      have x2 := hX2.cell 2
      simp at x0 x1 x2
      clear hb2 hq hbx hbc hX2
      go_wp2_with fail
      refine (HRf.out HS3.out htl _ HKw2.out).mono ?_; rintro e3 w3 ⟨p3, q3, p4, q4, he, hq, _, hb3⟩
      unfold prV at he
      subst he
      have hbx := below_box w3 (.cells #[.string x.name, .slice p3 x.params.length q3, .slice p4 x.body.length q4] 35)
      have hbc := below_2 hb3 hbx
      have hY3 := HY.out.below hbc
      have y0 := hY3.cell 0
      have y1 := hY3.cell 1
      have y2 := hY3.cell 2
      simp at y0 y1 y2
      have HEc := Lib.hid (HEq.out x p1 p2 p3 p4 q1 q2 q3 q4 _ HX3.out (HQ.out.below hbc) (hq.below hbx))
      unfold prV at HEc
      have HBw3 := Lib.hid (below_2 HBw2.out hbc)
      clear hb3 hq hbx hbc hY3 x0 x1 x2
      go_wp2_with fail
      refine HEc.out.mono ?_; rintro e4 w4 ⟨rfl, hb4⟩
      have HBw4 := Lib.hid (below_2 HBw3.out hb4)
      clear hb4
      go_wp2_with fail
      refine (HW.out _).mono ?_; rintro e5 w5 ⟨rfl, hb5⟩
      go_wp2_with fail
      go_ret
      exact ⟨rfl, below_2 HBw4.out hb5⟩
end Go.Proofs.Ytffamknoamknpaa.A
namespace Go.Proofs.Ytffamknoamknpaa.A
open Go.RowKit
open L (Str isName prt size_len below_2 below_box ret_bool ret_int eql_eq bytes_eq)

set_option maxHeartbeats 8000000 in
set_option maxRecDepth 100000 in
theorem renames_walk (HWk : Works) (p : Pr) (a1 a2 : Option Addr) (c1 c2 : Nat) (f t : ByteArray) (hok : OkP p) (hc1 : p.params.length ≤ c1) (hf9 : f.size ≤ 1000000000000000) (ht9 : t.size ≤ 1000000000000000) (w : World) (hK : PrIn w p a1 a2) :
    Calls Try.prog 9 #[prV p a1 c1 a2 c2, .string f, .string t] w fun e' w' => e' = .returned (.bool true) ∧ Below w.heap.size w w' := by
  have hw := below_box w (prO p a1 c1 a2 c2)
  have hx := Bx.new w #[.string p.name, .slice a1 p.params.length c1, .slice a2 p.body.length c2] 35
  have HS := Lib.hid (rsmall_any p a1 c1 a2 c2 600 (by omega) hok _ (hK.below hw))
  have HSM : Hid (small p 600 = true → SmP p 600) := fun h => ⟨(small_ok h).1, (small_ok h).2.1, (small_ok h).2.2.1, (small_ok h).2.2.2⟩
  have HRn : Hid (SmP p 600 → t.size ≤ 200 → ∀ w', PrIn w' p a1 a2 → Calls Try.prog 32 #[prV p a1 c1 a2 c2, .string f, .string t] w' fun e' w'' => GivesRn w' (rename p f t) e' w'') := fun h h2 w' hk => oren_of (pp_small hok h) a1 a2 c1 c2 f t hc1 h2 w' hk
  have HW := Lib.hid HWk
  have HK0 := Lib.hid (hK.below hw)
  have HB0 := Lib.hid hw
  have HX0 := Lib.hid hx
  have HPq : Hid (SmP p 600 → Pp p) := fun h => pp_small hok h
  have HPp : Hid (SmP p 600 → t.size ≤ 200 → Pp (rename p f t).1) := fun h h2 => pp_rename hok h h2
  have HZ : Hid (∀ x z, rename p f t = (x, z) → z ≠ 0 → x = noPr) := fun x z h1 h2 => rename_no h1 h2
  have HY0 : Hid (∀ x, rename p f t = (x, 0) → valE x = 0 ∧ occurs x f = false ∧ nodes x = nodes p ∧ depth x = depth p ∧ rename x t f = (p, 0)) := fun x h1 => rename_keeps h1
  clear HWk hok hK hw hx hc1
  generalize hr : rename p f t = r at *
  obtain ⟨x, z⟩ := r
  have HZ1 := Lib.hid (HZ.out x z rfl)
  have HY1 : Hid (z = 0 → valE x = 0 ∧ occurs x f = false ∧ nodes x = nodes p ∧ depth x = depth p ∧ rename x t f = (p, 0)) := fun h => HY0.out x (by rw [h])
  clear HZ HY0 hr
  generalize small p 600 = sm at *
  unfold prV at HS HRn ⊢
  unfold prO at *
  obtain ⟨m1, hm1⟩ : ∃ m, p.params.length = m := ⟨_, rfl⟩
  obtain ⟨m2, hm2⟩ : ∃ m, p.body.length = m := ⟨_, rfl⟩
  obtain ⟨n1, hn1⟩ : ∃ m, p.name = m := ⟨_, rfl⟩
  simp only [hm1, hm2, hn1, show ((600 : Nat) : Int) = 600 from rfl] at HS HRn HX0 HB0 HK0 ⊢
  have HPV : Hid (∀ (b1 : Option Addr) (d1 : Nat) (b2 : Option Addr) (d2 : Nat), prV p b1 d1 b2 d2 = .agg #[.string n1, .slice b1 m1 d1, .slice b2 m2 d2]) := fun b1 d1 b2 d2 => by unfold prV; rw [hm1, hm2, hn1]
  clear hm1 hm2 hn1
  have hfw : ∀ n : Nat, decide (200 < (n : Int)) = decide (200 < n) := fun n => decide_eq_decide.2 (by omega)
  clear hfw
  cases sm
  · go_enter Try.func9, Try.ntmps9
    go_wp2_with fail
    refine HS.out.mono ?_; rintro e1 w1 ⟨rfl, hb1⟩
    have HB1 := Lib.hid (below_2 HB0.out hb1)
    clear hb1
    go_wp2_with fail
    refine (HW.out _).mono ?_; rintro e2 w2 ⟨rfl, hb2⟩
    go_wp2_with fail
    go_ret
    exact ⟨rfl, below_2 HB1.out hb2⟩
  · by_cases hfl : ¬ f.size ≤ 200
    · have b1 : decide (200 < (f.size : Int)) = true := decide_eq_true (by omega)
      clear hfl
      go_enter Try.func9, Try.ntmps9
      go_wp2_with fail
      refine HS.out.mono ?_; rintro e1 w1 ⟨rfl, hb1⟩
      have HB1 := Lib.hid (below_2 HB0.out hb1)
      clear hb1
      go_wp2_with fail
      refine (HW.out _).mono ?_; rintro e2 w2 ⟨rfl, hb2⟩
      go_wp2_with fail
      go_ret
      exact ⟨rfl, below_2 HB1.out hb2⟩
    have b1 : decide (200 < (f.size : Int)) = false := decide_eq_false (by omega)
    have hfl := Decidable.not_not.1 hfl
    by_cases htl : ¬ t.size ≤ 200
    · have b2 : decide (200 < (t.size : Int)) = true := decide_eq_true (by omega)
      clear htl
      go_enter Try.func9, Try.ntmps9
      go_wp2_with fail
      refine HS.out.mono ?_; rintro e1 w1 ⟨rfl, hb1⟩
      have HB1 := Lib.hid (below_2 HB0.out hb1)
      clear hb1
      go_wp2_with fail
      refine (HW.out _).mono ?_; rintro e2 w2 ⟨rfl, hb2⟩
      go_wp2_with fail
      go_ret
      exact ⟨rfl, below_2 HB1.out hb2⟩
    · have b2 : decide (200 < (t.size : Int)) = false := decide_eq_false (by omega)
      have htl := Decidable.not_not.1 htl
      go_enter Try.func9, Try.ntmps9
      go_wp2_with fail
      refine HS.out.mono ?_; rintro e1 w1 ⟨rfl, hb1⟩
      have HBw0 := Lib.hid (below_2 HB0.out hb1)
      have HBw1 := Lib.hid hb1
      have HKw1 := Lib.hid (HK0.out.below hb1)
      clear hb1
      have HS3 := Lib.hid (HSM.out (by trivial))
      have HX3 := Lib.hid (HPp.out HS3.out htl)
      have HP3 := Lib.hid (HPq.out HS3.out)
      have hX1 := HX0.out.below HBw1.out
      have x0 := hX1.cell 0
      have x1 := hX1.cell 1
      have x2 := hX1.cell 2
      simp at x0 x1 x2
      have HXw1 := Lib.hid hX1
      clear HSM HPp HPq hX1
      go_wp2_with fail
      refine (HRn.out HS3.out htl _ HKw1.out).mono ?_; rintro e2 w2 ⟨p1, q1, p2, q2, he, hq, hle, hb2⟩
      clear x0 x1 x2
      by_cases hz : z = 0
      · subst hz
        obtain ⟨g1, g2, g3, g4, g5⟩ := HY1.out rfl
        unfold prV at he
        subst he
        have hbx := below_box w2 (.cells #[.string x.name, .slice p1 x.params.length q1, .slice p2 x.body.length q2] 35)
        have hbc := below_2 hb2 hbx
        have hY := Bx.new w2 #[.string x.name, .slice p1 x.params.length q1, .slice p2 x.body.length q2] 35
        have hX2 := HXw1.out.below hbc
        have x0 := hX2.cell 0
        have x1 := hX2.cell 1
        have x2 := hX2.cell 2
        simp at x0 x1 x2
        have hkp := HKw1.out.below hbc
        have hkx := hq.below hbx
        have HBw2 := Lib.hid (below_2 HBw0.out hbc)
        generalize hW : w2.alloc (.cells #[.string x.name, .slice p1 x.params.length q1, .slice p2 x.body.length q2] 35) = W at *
        have y0 := hY.cell 0
        have y1 := hY.cell 1
        have y2 := hY.cell 2
        simp at y0 y1 y2
        have K1 : ∀ w', PrIn w' x p1 p2 → Calls Try.prog 18 #[.agg #[.string x.name, .slice p1 x.params.length q1, .slice p2 x.body.length q2]] w' fun e' w'' => e' = .returned (.int .i64 0) ∧ Below w'.heap.size w' w'' := fun w' h => by
          have := ovalidate_any x p1 p2 q1 q2 HX3.out.ok HX3.out.sz hle w' h
          rw [g1] at this
          exact this
        have K2 : ∀ w', PrIn w' x p1 p2 → Calls Try.prog 19 #[.agg #[.string x.name, .slice p1 x.params.length q1, .slice p2 x.body.length q2]] w' fun e' w'' => e' = .returned (.int .i64 0) ∧ Below w'.heap.size w' w'' := fun w' h => by
          have := rvalidate_any rstmt x p1 p2 q1 q2 HX3.out.ok HX3.out.sz w' h
          rw [g1] at this
          exact this
        have K3 : ∀ w', PrIn w' x p1 p2 → Calls Try.prog 34 #[.agg #[.string x.name, .slice p1 x.params.length q1, .slice p2 x.body.length q2], .string f] w' fun e' w'' => e' = .returned (.bool false) ∧ Below w'.heap.size w' w'' := fun w' h => by
          have := roccurs_any x p1 q1 p2 q2 f HX3.out.ok w' h
          rw [g2] at this
          exact this
        have K4 : ∀ w', PrIn w' x p1 p2 → Calls Try.prog 22 #[.agg #[.string x.name, .slice p1 x.params.length q1, .slice p2 x.body.length q2]] w' fun e' w'' => e' = .returned (.int .i64 (nodes p : Int)) ∧ Below w'.heap.size w' w'' := fun w' h => by
          have := onodes_any x p1 p2 q1 q2 HX3.out.ok.body HX3.out.ok.bodyLen HX3.out.sz w' h.body
          rw [g3] at this
          exact this
        have K5 : ∀ w', PrIn w' p a1 a2 → Calls Try.prog 22 #[.agg #[.string n1, .slice a1 m1 c1, .slice a2 m2 c2]] w' fun e' w'' => e' = .returned (.int .i64 (nodes p : Int)) ∧ Below w'.heap.size w' w'' := fun w' h => by
          have := onodes_any p a1 a2 c1 c2 HP3.out.ok.body HP3.out.ok.bodyLen HP3.out.sz w' h.body
          rw [HPV.out] at this
          exact this
        have K6 : ∀ w', PrIn w' x p1 p2 → Calls Try.prog 24 #[.agg #[.string x.name, .slice p1 x.params.length q1, .slice p2 x.body.length q2]] w' fun e' w'' => e' = .returned (.int .i64 (depth p : Int)) ∧ Below w'.heap.size w' w'' := fun w' h => by
          have := odepth_any x p1 p2 q1 q2 HX3.out.ok.body HX3.out.ok.bodyLen HX3.out.sz w' h.body
          rw [g4] at this
          exact this
        have K7 : ∀ w', PrIn w' p a1 a2 → Calls Try.prog 24 #[.agg #[.string n1, .slice a1 m1 c1, .slice a2 m2 c2]] w' fun e' w'' => e' = .returned (.int .i64 (depth p : Int)) ∧ Below w'.heap.size w' w'' := fun w' h => by
          have := odepth_any p a1 a2 c1 c2 HP3.out.ok.body HP3.out.ok.bodyLen HP3.out.sz w' h.body
          rw [HPV.out] at this
          exact this
        have K8 : Hid (∀ w', PrIn w' x p1 p2 → Calls Try.prog 32 #[.agg #[.string x.name, .slice p1 x.params.length q1, .slice p2 x.body.length q2], .string t, .string f] w' fun e' w'' => ∃ p3 q3 p4 q4, e' = .returned (.tuple #[.agg #[.string n1, .slice p3 m1 q3, .slice p4 m2 q4], .int .i64 0]) ∧ PrIn w'' p p3 p4 ∧ Below w'.heap.size w' w'') := fun w' h => by
          have := oren_of HX3.out p1 p2 q1 q2 t f hle hfl w' h
          rw [g5] at this
          refine this.mono fun e w'' ⟨p3, q3, p4, q4, h1, h2, _, h4⟩ => ⟨p3, q3, p4, q4, ?_, h2, h4⟩
          rw [h1, HPV.out]
        have K9 : Hid (∀ (b1 b2 : Option Addr) (y1 y2 : Nat) w', PrIn w' p b1 b2 → PrIn w' p a1 a2 → Calls Try.prog 31 #[.agg #[.string n1, .slice b1 m1 y1, .slice b2 m2 y2], .agg #[.string n1, .slice a1 m1 c1, .slice a2 m2 c2]] w' fun e' w'' => e' = .returned (.bool true) ∧ Below w'.heap.size w' w'') := fun b1 b2 y1 y2 w' h1 h2 => by
          have := requal_any p p b1 b2 a1 a2 y1 y2 c1 c2 HP3.out.ok HP3.out.ok w' h1 h2
          rw [eqP_self, HPV.out, HPV.out] at this
          exact this
        have C1 := Lib.hid (fun d os => Calls.regrown_of (w := W) (d := d) (os := os) (K1 _ (hkx.below (below_regrown W d os))))
        have C2 := Lib.hid (fun d os => Calls.regrown_of (w := W) (d := d) (os := os) (K2 _ (hkx.below (below_regrown W d os))))
        have C3 := Lib.hid (fun d os => Calls.regrown_of (w := W) (d := d) (os := os) (K3 _ (hkx.below (below_regrown W d os))))
        have C4 := Lib.hid (fun d os => Calls.regrown_of (w := W) (d := d) (os := os) (K4 _ (hkx.below (below_regrown W d os))))
        have C5 := Lib.hid (fun d os => Calls.regrown_of (w := W) (d := d) (os := os) (K5 _ (hkp.below (below_regrown W d os))))
        have C6 := Lib.hid (fun d os => Calls.regrown_of (w := W) (d := d) (os := os) (K6 _ (hkx.below (below_regrown W d os))))
        have C7 := Lib.hid (fun d os => Calls.regrown_of (w := W) (d := d) (os := os) (K7 _ (hkp.below (below_regrown W d os))))
        have r0 := fun d os => cell_regrown x0 d os
        have r1 := fun d os => cell_regrown x1 d os
        have r2 := fun d os => cell_regrown x2 d os
        have r3 := fun d os => cell_regrown y0 d os
        have r4 := fun d os => cell_regrown y1 d os
        have r5 := fun d os => cell_regrown y2 d os
        have HKp := Lib.hid hkp
        have HKx := Lib.hid hkx
        have HXx : Hid (Bx W w.heap.size #[.string n1, .slice a1 m1 c1, .slice a2 m2 c2] 35) := hX2
        have HYy : Hid (Bx W w2.heap.size #[.string x.name, .slice p1 x.params.length q1, .slice p2 x.body.length q2] 35) := hY
        generalize nodes p = nn at *
        generalize depth p = nd at *
        clear K1 K2 K3 K4 K5 K6 K7 hkp hkx hX2 hY hbx hbc hb2 hq g1 g2 g3 g4 g5 HY1 HZ1
        generalize x.params.length = ml at *
        generalize x.body.length = mb at *
        generalize x.name = xn at *
        go_wp2_with fail
        clear hW
        refine wp_region_quiet_below (by kernel_rfl) (by kernel_rfl) ?_
        repeat (go_big_quiet_step (first | with_reducible exact C1.out _ _ | with_reducible exact C2.out _ _ | with_reducible exact C3.out _ _ | with_reducible exact C4.out _ _ | with_reducible exact C5.out _ _ | with_reducible exact C6.out _ _ | with_reducible exact C7.out _ _))
        refine wpQuiet_nil ?_
        intro w6 hw'
        have hbq : Below W.heap.size W w6 := by obtain ⟨pq, rfl⟩ := hw'; exact below_regrown _ _ _
        clear r0 r1 r2 r3 r4 r5 C1 C2 C3 C4 C5 C6 C7 x0 x1 x2 y0 y1 y2 hw'
        have HB6 := Lib.hid (below_2 HBw2.out hbq)
        have HKp6 := Lib.hid (HKp.out.below hbq)
        have HKx6 := Lib.hid (HKx.out.below hbq)
        have HX6 := Lib.hid (HXx.out.below hbq)
        have hY6 := HYy.out.below hbq
        have y0 := hY6.cell 0
        have y1 := hY6.cell 1
        have y2 := hY6.cell 2
        simp at y0 y1 y2
        clear hY6 hbq
        go_wp2_with fail
        refine (K8.out _ HKx6.out).mono ?_; rintro e7 w7 ⟨p3, q3, p4, q4, rfl, hq7, hb7⟩
        have hbx := below_box w7 (.cells #[.string n1, .slice p3 m1 q3, .slice p4 m2 q4] 35)
        have hbc := below_2 hb7 hbx
        have hX7 := HX6.out.below hbc
        have x0 := hX7.cell 0
        have x1 := hX7.cell 1
        have x2 := hX7.cell 2
        simp at x0 x1 x2
        have HEc := Lib.hid (K9.out p3 p4 q3 q4 _ (hq7.below hbx) (HKp6.out.below hbc))
        have HB7 := Lib.hid (below_2 HB6.out hbc)
        clear hb7 hq7 hbx hbc hX7 y0 y1 y2
        go_wp2_with fail
        refine HEc.out.mono ?_; rintro e8 w8 ⟨rfl, hb8⟩
        have HB8 := Lib.hid (below_2 HB7.out hb8)
        clear hb8
        go_wp2_with fail
        refine (HW.out _).mono ?_; rintro e9 w9 ⟨rfl, hb9⟩
        go_wp2_with fail
        go_ret
        exact ⟨rfl, below_2 HB8.out hb9⟩
      · have hno := HZ1.out hz
        subst hno
        simp only at he
        rw [prV_noPr] at he
        subst he
        have bz : (z != 0) = true := bne_iff_ne.2 hz
        have hbx := below_box w2 (.cells #[.string ⟨#[]⟩, .slice p1 0 q1, .slice p2 0 q2] 35)
        have HBw2 := Lib.hid (below_2 HBw0.out (below_2 hb2 hbx))
        clear hb2 hq hle hz hbx
        go_wp2_with fail
        refine (HW.out _).mono ?_; rintro e3 w3 ⟨rfl, hb3⟩
        go_wp2_with fail
        go_ret
        exact ⟨rfl, below_2 HBw2.out hb3⟩
end Go.Proofs.Ytffamknoamknpaa.A
