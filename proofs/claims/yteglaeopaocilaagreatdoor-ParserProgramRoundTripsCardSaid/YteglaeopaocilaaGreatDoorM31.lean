/-
  Plain mathematics of layer 10, without the program: printed procedures are read as what was printed.
  The law ParserRoundTrips, walked over whatever the program's own functions return.
-/
import Derived.Test.YteglaeopaocilaaGreatDoorM30
import Derived.Test.YteglaeopaocilaaGreatDoorPOL
import Derived.Test.YteglaeopaocilaaGreatDoorM15
import Derived.Test.YteglaeopaocilaaGreatDoorM17
namespace Go.Proofs.YteglaeopaocilaaGreatDoor.P
open L (Str Tok)
open A

theorem gP_z {l : T} {p : Pr} (h : PP (zl l) (.ok p [])) : gP l = .ok p [] := by
  obtain ⟨F, hF⟩ := h
  refine (gP_is l).unique ⟨F, fun f hf => z_ok ?_⟩
  rw [← pp_z]
  exact hF f hf
theorem pp_zl {l : T} {p : Pr} (h : PP l (.ok p [])) : PP (zl l) (.ok p []) := by
  obtain ⟨F, hF⟩ := h
  exact ⟨F, fun f hf => by rw [pp_z, hF f hf]; rfl⟩
theorem rd_proc {p : Pr} (w : WP p) : PP (tkP p) (.ok p []) := by
  have := rdP w []
  rwa [List.append_nil] at this
theorem out_proc {p : Pr} (w : WP p) (hv : valE p = 0) {s : ByteArray} (hs : s.data.toList = txP p) (hl : s.size ≤ 16384) : outOf s gP valE = .ok p := by
  refine out_lx (l := tkP p) (r := [10]) ?_ (by decide) hl (fun ts hz => gP_z ?_) hv
  · rw [hs]
    have := txP_lx w []
    rwa [List.append_nil] at this
  · rw [hz]
    exact pp_zl (rd_proc w)
end Go.Proofs.YteglaeopaocilaaGreatDoor.P
namespace Go.Proofs.YteglaeopaocilaaGreatDoor.P
open Go.RowKit
open L (Str Tok Tks toks At below_2 below_box ret_bool ret_int ret_string)
open A

/-- what stands while a law about a procedure is walked -/
structure Cp (w0 : World) (X : Nat) (p : Pr) (a1 : Option Addr) (c1 : Nat) (a2 : Option Addr) (c2 : Nat) (w : World) : Prop where
  below : Below w0.heap.size w0 w
  tab : P.TabT w
  otab : OTab w
  box : Bk w X #[.string p.name, .slice a1 p.params.length c1, .slice a2 p.body.length c2] 25
  inn : PrIn w p a1 a2
theorem Cp.on {w0 : World} {X : Nat} {p : Pr} {a1 a2 : Option Addr} {c1 c2 : Nat} {w w' : World} (h : Cp w0 X p a1 c1 a2 c2 w) (hb : Below w.heap.size w w') : Cp w0 X p a1 c1 a2 c2 w' :=
  ⟨below_2 h.below hb, h.tab.below hb, h.otab.below hb, h.box.below hb, h.inn.below hb⟩
theorem eqP_self (p : Pr) : eqP p p = true := (eqP_iff p p).2 rfl
theorem cp_start {w : World} {p : Pr} {a1 a2 : Option Addr} {c1 c2 : Nat} (h1 : P.TabT w) (h2 : OTab w) (h3 : PrIn w p a1 a2) : Cp w w.heap.size p a1 c1 a2 c2 (w.alloc (prO p a1 c1 a2 c2)) := by
  have hx := below_box w (prO p a1 c1 a2 c2)
  exact ⟨hx, h1.below hx, h2.below hx, Bk.new w _ _, h3.below hx⟩
set_option maxHeartbeats 8000000 in
set_option maxRecDepth 100000 in
theorem lawRoundTrips_any (p : Pr) (a1 : Option Addr) (c1 : Nat) (a2 : Option Addr) (c2 : Nat) (hok : OkP p) (hc1 : p.params.length ≤ c1) (w : World) (h1 : P.TabT w) (h2 : OTab w) (h3 : PrIn w p a1 a2) :
    Calls Tryz.prog 3 #[prV p a1 c1 a2 c2] w fun e' w' => e' = .returned (.bool true) ∧ Below w.heap.size w w' := by
  have HC0 := Lib.hid (cp_start (c1 := c1) (c2 := c2) h1 h2 h3)
  have HLV : Hid (∀ X wr, Cp w X p a1 c1 a2 c2 wr → Calls Tryz.prog 11 #[] wr fun e w' => e = .returned (.bool true) ∧ Below wr.heap.size wr w') := fun _ wr h => olives10_any wr h.otab
  have HS : Hid (∀ X wr, Cp w X p a1 c1 a2 c2 wr → Calls Tryz.prog 10 #[prV p a1 c1 a2 c2, .int .i64 100] wr fun e' w' => e' = .returned (.bool (small p 100)) ∧ Below wr.heap.size wr w') := fun _ wr h => rsmall_any p a1 c1 a2 c2 100 (by decide) hok wr h.inn
  have HP : Hid (∀ X wr, Cp w X p a1 c1 a2 c2 wr → Calls Tryz.prog 12 #[prV p a1 c1 a2 c2] wr fun e' w' => e' = .returned (.string (ba (procT p))) ∧ Below wr.heap.size wr w') := fun _ wr h => oproct_any p hok a1 a2 c1 c2 hc1 wr h.tab h.inn
  have HV : Hid (∀ X wr, Cp w X p a1 c1 a2 c2 wr → Calls Tryz.prog 13 #[prV p a1 c1 a2 c2] wr fun e' w' => e' = .returned (.int .i64 (valE p)) ∧ Below wr.heap.size wr w') := fun _ wr h => ovalidate_any p a1 a2 c1 c2 hok hc1 wr h.inn
  have HQ : Hid (∀ X wr b1 d1 b2 d2, Cp w X p a1 c1 a2 c2 wr → PrIn wr p b1 b2 → Calls Tryz.prog 15 #[prV p a1 c1 a2 c2, prV p b1 d1 b2 d2] wr fun e' w' => e' = .returned (.bool true) ∧ Below wr.heap.size wr w') := fun _ wr b1 d1 b2 d2 h hi => by
    have := oequal_any p p a1 a2 b1 b2 c1 c2 d1 d2 hok hok wr h.inn hi
    rwa [eqP_self] at this
  have HX : Hid (valE p = 0 → ∀ s : ByteArray, s = ba (txP p) → s.size ≤ 16384 → ∀ X wr, Cp w X p a1 c1 a2 c2 wr → Calls Tryz.prog 14 #[.string s] wr fun e' w' => Below wr.heap.size wr w' ∧ GaveP wr.heap.size (.ok p) e' w') := fun hv s hs hl X wr h => by
    have := oProc_any s wr h.otab
    rwa [out_proc (wp_here hok hv) hv (by rw [hs]; rfl) hl] at this
  unfold prV
  clear h1 h2 h3 hok hc1
  go_enter Tryz.func3, Tryz.ntmps3
  go_wp2_with fail
  change Calls _ _ #[prV p a1 c1 a2 c2, _] (w.alloc (prO p a1 c1 a2 c2)) _
  generalize w.alloc (prO p a1 c1 a2 c2) = W0 at *
  generalize w.heap.size = X at *
  have lives : Hid (∀ X wr, Cp w X p a1 c1 a2 c2 wr → Calls Tryz.prog 11 #[] wr fun e w' => e = .returned (.bool true) ∧ Below w.heap.size w w') := fun _ wr h => (HLV.out _ wr h).mono fun _ _ hq => ⟨hq.1, (h.on hq.2).below⟩
  clear HLV
  refine (HS.out _ _ HC0.out).mono ?_; rintro e1 w1 ⟨rfl, hb⟩
  have HC1 := Lib.hid (HC0.out.on hb)
  clear HC0 hb
  generalize small p 100 = sm at *
  clear HS
  cases sm
  · go_wp2_with fail
    refine (lives.out _ _ HC1.out).mono ?_; rintro e2 w2 ⟨rfl, hb⟩
    have HE := Lib.hid hb
    clear hb
    go_wp2_with fail
    go_ret
    exact ⟨rfl, HE.out⟩
  obtain ⟨x0, x1, x2⟩ := cells3 HC1.out.box
  go_wp2_with fail
  change Calls _ _ #[prV p a1 c1 a2 c2] _ _
  refine (HP.out _ _ HC1.out).mono ?_; rintro e2 w2 ⟨rfl, hb⟩
  have HC2 := Lib.hid (HC1.out.on hb)
  clear HC1 hb x0 x1 x2 HP
  obtain ⟨x0, x1, x2⟩ := cells3 HC2.out.box
  obtain ⟨s, hs⟩ : ∃ s, ba (procT p) = s := ⟨_, rfl⟩
  rw [hs]
  go_wp2_with fail
  change Calls _ _ #[prV p a1 c1 a2 c2] _ _
  refine (HV.out _ _ HC2.out).mono ?_; rintro e2 w3 ⟨rfl, hb⟩
  have HC3 := Lib.hid (HC2.out.on hb)
  clear HC2 hb x0 x1 x2 HV
  by_cases hv : valE p ≠ 0
  · have hs0 : s = ⟨#[]⟩ := by rw [← hs, procT_nil.2 hv]; rfl
    subst hs0
    generalize valE p = v at *
    go_wp2_with fail
    refine (lives.out _ _ HC3.out).mono ?_; rintro e2 w2 ⟨rfl, hb⟩
    have HE := Lib.hid hb
    clear hb
    go_wp2_with fail
    go_ret
    exact ⟨rfl, HE.out⟩
  have hv : valE p = 0 := Decidable.not_not.1 hv
  have hs1 : s = ba (txP p) := by rw [← hs]; unfold procT; rw [if_pos hv]
  rw [hv]
  by_cases hl : 16384 < s.size
  · have hd : decide (16384 < (s.size : Int)) = true := decide_eq_true (by omega)
    clear hs hs1
    go_wp2_with fail
    refine (lives.out _ _ HC3.out).mono ?_; rintro e2 w2 ⟨rfl, hb⟩
    have HE := Lib.hid hb
    clear hb
    go_wp2_with fail
    go_ret
    exact ⟨rfl, HE.out⟩
  have hd : decide (16384 < (s.size : Int)) = false := decide_eq_false (by omega)
  have HCa := Lib.hid (HX.out hv s hs1 (by omega) _ w3 HC3.out)
  clear hs hs1 hv hl
  go_wp2_with fail
  refine HCa.out.mono ?_; rintro e3 w4 ⟨hb, a4, c4, b4, d4, rfl, hcc, hK, hL⟩
  have hx := below_box w4 (prO p a4 c4 b4 d4)
  have HC4 := Lib.hid ((HC3.out.on hb).on hx)
  have HI4 : Hid (PrIn (w4.alloc (prO p a4 c4 b4 d4)) p a4 b4) := PrIn.below ⟨hK.now, hL.now⟩ hx
  have HB4 : Hid (Bk (w4.alloc (prO p a4 c4 b4 d4)) w4.heap.size #[.string p.name, .slice a4 p.params.length c4, .slice b4 p.body.length d4] 25) := Bk.new w4 _ _
  obtain ⟨x0, x1, x2⟩ := cells3 HC4.out.box
  obtain ⟨y0, y1, y2⟩ := cells3 HB4.out
  unfold prV
  unfold prO at x0 x1 x2 y0 y1 y2
  clear HCa HC3 hb hx hK hL hcc
  go_wp2_with fail
  have HQ1 := Lib.hid (HQ.out _ _ a4 c4 b4 d4 HC4.out HI4.out)
  change Calls _ _ #[prV p a1 c1 a2 c2, prV p a4 c4 b4 d4] (w4.alloc (prO p a4 c4 b4 d4)) _
  generalize w4.alloc (prO p a4 c4 b4 d4) = W4 at *
  clear x0 x1 x2 y0 y1 y2 HI4 HB4
  refine HQ1.out.mono ?_; rintro e5 w5 ⟨rfl, hb⟩
  have HC5 := Lib.hid (HC4.out.on hb)
  clear HC4 hb HQ1
  go_wp2_with fail
  refine (lives.out _ _ HC5.out).mono ?_; rintro e8 w8 ⟨rfl, hb⟩
  have HE := Lib.hid hb
  clear hb
  go_wp2_with fail
  go_ret
  exact ⟨rfl, HE.out⟩
end Go.Proofs.YteglaeopaocilaaGreatDoor.P
