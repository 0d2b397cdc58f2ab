/-
  Plain mathematics of layer 10, without the program: printed texts are read as what was printed.
  The law ParserExprRoundTrips, walked over whatever the program's own functions return.
-/
import Derived.Test.YteglaeopaocilaaGreatDoorM29
import Derived.Test.YteglaeopaocilaaGreatDoorM18
import Derived.Test.YteglaeopaocilaaGreatDoorM12
namespace Go.Proofs.YteglaeopaocilaaGreatDoor.P
open L (Str Tok)
open A

theorem np_nil : P.Np [] := fun c z e => by cases e
theorem px_zl {l : T} {e : Ex} (h : PX 1 0 l (.ok e [])) : PX 1 0 (zl l) (.ok e []) := by
  obtain ⟨F, hF⟩ := h
  exact ⟨F, fun f hf => by rw [(px_z f).1, hF f hf]; rfl⟩
theorem fol_nil (lev : Nat) : Fol lev [] := fun _ _ => rfl
theorem rd_tx {e : Ex} (w : W 12 e) : PX 1 0 (tk e) (.ok e []) := by
  have := x_of w (rest := []) (fol_nil 1)
  rwa [List.append_nil] at this
theorem rd_par {e : Ex} (w : W 12 e) : PX 1 0 (tw [40] :: (tk e ++ [tw [41]])) (.ok e []) := by
  have := (rd_of w).par (lev := 1) (n := 0) (rest := []) (by decide) (by decide) (by decide) (fol_nil 1)
  rwa [List.append_nil] at this
theorem out_tx {e : Ex} (w : W 12 e) (hv : vE e 1 = 0) {s : ByteArray} (hs : s.data.toList = tx e) (hl : s.size ≤ 16384) : outOf s (gX 1 0) (fun t => vE t 1) = .ok e := by
  refine out_lx (l := tk e) (r := []) ?_ (by decide) hl (fun ts hz => gX_z ?_) hv
  · rw [hs]
    have := tx_lx w [] np_nil
    rwa [List.append_nil] at this
  · rw [hz]
    exact px_zl (rd_tx w)
theorem out_par {e : Ex} (w : W 12 e) (hv : vE e 1 = 0) {s : ByteArray} (hs : s.data.toList = 40 :: (tx e ++ [41])) (hl : s.size ≤ 16384) : outOf s (gX 1 0) (fun t => vE t 1) = .ok e := by
  refine out_lx (l := tw [40] :: (tk e ++ [tw [41]])) (r := []) ?_ (by decide) hl (fun ts hz => gX_z ?_) hv
  · rw [hs]
    exact (P.Lx.one (Or.inl rfl) _).app ((tx_lx w [41] (np_cl _)).app (P.Lx.one (Or.inr (Or.inl rfl)) []))
  · rw [hz]
    exact px_zl (rd_par w)
end Go.Proofs.YteglaeopaocilaaGreatDoor.P
namespace Go.Proofs.YteglaeopaocilaaGreatDoor.P
open Go.RowKit
open L (Str Tok Tks toks At below_2 below_box ret_bool ret_int ret_string)
open A

/-- what stands while a law about an expression is walked -/
structure Cx (w0 : World) (X : Nat) (e : Ex) (a : Option Addr) (c : Nat) (w : World) : Prop where
  below : Below w0.heap.size w0 w
  tab : P.Tab w
  otab : OTab w
  box : Bk w X #[.int .i64 e.op, .int .i64 e.n, .string e.s, .slice a e.args.length c] 38
  kids : A.Kids w a e.args
theorem Cx.on {w0 : World} {X : Nat} {e : Ex} {a : Option Addr} {c : Nat} {w w' : World} (h : Cx w0 X e a c w) (hb : Below w.heap.size w w') : Cx w0 X e a c w' :=
  ⟨below_2 h.below hb, h.tab.below hb, h.otab.below hb, h.box.below hb, h.kids.below hb⟩
theorem eqE_self (e : Ex) : eqE e e = true := by exact (eqE_iff e e).2 rfl
theorem cx_start {w : World} {e : Ex} {a : Option Addr} {c : Nat} (h1 : P.Tab w) (h2 : OTab w) (h3 : A.Kids w a e.args) : Cx w w.heap.size e a c (w.alloc (exO e a c)) := by
  have hx := below_box w (exO e a c)
  exact ⟨hx, h1.below hx, h2.below hx, Bk.new w _ _, h3.below hx⟩
set_option maxHeartbeats 8000000 in
set_option maxRecDepth 100000 in
theorem lawExprRoundTrips_any (e : Ex) (a : Option Addr) (c : Nat) (hok : okE e) (w : World) (h1 : P.Tab w) (h2 : OTab w) (h3 : A.Kids w a e.args) :
    Calls Tryz.prog 7 #[exV e a c] w fun e' w' => e' = .returned (.bool true) ∧ Below w.heap.size w w' := by
  have HC0 := Lib.hid (cx_start (c := c) h1 h2 h3)
  have HL : Hid (∀ w0 X wr, Cx w0 X e a c wr → Calls Tryz.prog 11 #[] wr fun e w' => e = .returned (.bool true) ∧ Below wr.heap.size wr w') := fun _ _ wr h => olives10_any wr h.otab
  have HS : Hid (∀ w0 X wr, Cx w0 X e a c wr → Calls Tryz.prog 25 #[exV e a c, .int .i64 100] wr fun e' w' => e' = .returned (.bool (decide (cE e ≤ 100))) ∧ Below wr.heap.size wr w') := fun _ _ wr h => rsmallExpr_any e a c 100 (by decide) hok wr h.kids
  have HV : Hid (∀ w0 X wr, Cx w0 X e a c wr → Calls Tryz.prog 26 #[exV e a c] wr fun e' w' => e' = .returned (.int .i64 (vE e 1)) ∧ Below wr.heap.size wr w') := fun _ _ wr h => ovalidExpr_any e a c hok wr h.kids
  have HOK := Lib.hid hok
  unfold exV
  clear h1 h2 h3 hok
  go_enter Tryz.func7, Tryz.ntmps7
  go_wp2_with fail
  have hX : w.heap.size < (w.alloc (exO e a c)).heap.size := HC0.out.box.lt
  change Calls _ _ #[exV e a c, _] (w.alloc (exO e a c)) _
  generalize w.alloc (exO e a c) = W0 at *
  generalize w.heap.size = X at *
  refine (HS.out _ _ _ HC0.out).mono ?_; rintro e1 w1 ⟨rfl, hb⟩
  have HC1 := Lib.hid (HC0.out.on hb)
  clear HC0 hb hX
  have lives : Hid (∀ wr, Cx w X e a c wr → Calls Tryz.prog 11 #[] wr fun e w' => e = .returned (.bool true) ∧ Below w.heap.size w w') := fun wr h => (HL.out _ _ wr h).mono fun _ _ hq => ⟨hq.1, (h.on hq.2).below⟩
  generalize decide (cE e ≤ 100) = sm at *
  clear HS HL
  cases sm
  · go_wp2_with fail
    refine (lives.out _ HC1.out).mono ?_; rintro e2 w2 ⟨rfl, hb⟩
    have HE := Lib.hid hb
    clear hb
    go_wp2_with fail
    go_ret
    exact ⟨rfl, HE.out⟩
  obtain ⟨x0, x1, x2, x3⟩ := cells4 HC1.out.box
  go_wp2_with fail
  change Calls _ _ #[exV e a c] _ _
  refine (HV.out _ _ _ HC1.out).mono ?_; rintro e2 w2 ⟨rfl, hb⟩
  have HC2 := Lib.hid (HC1.out.on hb)
  clear HC1 hb x0 x1 x2 x3 HV
  by_cases hv : vE e 1 ≠ 0
  · generalize vE e 1 = v at *
    go_wp2_with fail
    refine (lives.out _ HC2.out).mono ?_; rintro e2 w2 ⟨rfl, hb⟩
    have HE := Lib.hid hb
    clear hb
    go_wp2_with fail
    go_ret
    exact ⟨rfl, HE.out⟩
  have hv : vE e 1 = 0 := Decidable.not_not.1 hv
  obtain ⟨x0, x1, x2, x3⟩ := cells4 HC2.out.box
  have HP := Lib.hid (oexpr_any e a c HOK.out w2 HC2.out.tab HC2.out.kids)
  have HX1 : Hid (∀ s : ByteArray, s = ba (tx e) → s.size ≤ 16384 → ∀ wr, Cx w X e a c wr → Calls Tryz.prog 17 #[.string s] wr fun e' w' => Below wr.heap.size wr w' ∧ GaveX wr.heap.size (.ok e) e' w') := fun s hs hl wr h => by
    have := oExpr_any s wr h.otab
    rwa [out_tx (ow_here HOK.out hv) hv (by rw [hs]; rfl) hl] at this
  have HX2 : Hid (∀ s : ByteArray, s.data.toList = 40 :: (tx e ++ [41]) → s.size ≤ 16384 → ∀ wr, Cx w X e a c wr → Calls Tryz.prog 17 #[.string s] wr fun e' w' => Below wr.heap.size wr w' ∧ GaveX wr.heap.size (.ok e) e' w') := fun s hs hl wr h => by
    have := oExpr_any s wr h.otab
    rwa [out_par (ow_here HOK.out hv) hv hs hl] at this
  have hT : exprT e = tx e := by unfold exprT; rw [if_pos hv]
  rw [hT] at HP
  rw [hv]
  clear hv hT
  go_wp2_with fail
  change Calls _ _ #[exV e a c] _ _
  refine HP.out.mono ?_; rintro e2 w3 ⟨rfl, hb⟩
  have HC3 := Lib.hid (HC2.out.on hb)
  clear HC2 hb x0 x1 x2 x3 HP
  obtain ⟨s, hs⟩ : ∃ s, ba (tx e) = s := ⟨_, rfl⟩
  rw [hs]
  have HSS := Lib.hid hs
  clear hs
  by_cases hl : 16382 < s.size
  · have hd : decide (16382 < (s.size : Int)) = true := decide_eq_true (by omega)
    go_wp2_with fail
    refine (lives.out _ HC3.out).mono ?_; rintro e2 w2 ⟨rfl, hb⟩
    have HE := Lib.hid hb
    clear hb
    go_wp2_with fail
    go_ret
    exact ⟨rfl, HE.out⟩
  have hd : decide (16382 < (s.size : Int)) = false := decide_eq_false (by omega)
  have HCa := Lib.hid (HX1.out s HSS.out.symm (by omega) w3 HC3.out)
  go_wp2_with fail
  trace "CALL1"
  refine HCa.out.mono ?_; rintro e3 w4 ⟨hb, a4, c4, rfl, hK⟩
  have hx := below_box w4 (exO e a4 c4)
  have HC4 := Lib.hid ((HC3.out.on hb).on hx)
  have HK4 := Lib.hid (hK.now.below hx)
  have HB4 : Hid (Bk (w4.alloc (exO e a4 c4)) w4.heap.size #[.int .i64 e.op, .int .i64 e.n, .string e.s, .slice a4 e.args.length c4] 38) := Bk.new w4 _ _
  obtain ⟨x0, x1, x2, x3⟩ := cells4 HC4.out.box
  obtain ⟨y0, y1, y2, y3⟩ := cells4 HB4.out
  unfold exV
  unfold exO at x0 x1 x2 x3 y0 y1 y2 y3
  clear HCa HC3 hb hx hK
  go_wp2_with fail
  have HQ : Hid (∀ w0 X wr a4 c4, Cx w0 X e a c wr → A.Kids wr a4 e.args → Calls Tryz.prog 19 #[exV e a4 c4, exV e a c] wr fun e' w' => e' = .returned (.bool true) ∧ Below wr.heap.size wr w') := fun _ _ wr a4 c4 h hk => by
    have := requalExpr_any e e a4 c4 a c HOK.out HOK.out wr hk h.kids
    rwa [eqE_self] at this
  have HQ1 := Lib.hid (HQ.out _ _ _ a4 c4 HC4.out HK4.out)
  change Calls _ _ #[exV e a4 c4, exV e a c] (w4.alloc (exO e a4 c4)) _
  generalize w4.alloc (exO e a4 c4) = W4 at *
  clear x0 x1 x2 x3 y0 y1 y2 y3 HK4 HB4
  refine HQ1.out.mono ?_; rintro e5 w5 ⟨rfl, hb⟩
  have HC5 := Lib.hid (HC4.out.on hb)
  clear HC4 hb HQ1
  go_wp2_with fail
  have hs2 : ((⟨#[40]⟩ : ByteArray) ++ s ++ (⟨#[41]⟩ : ByteArray)).data.toList = 40 :: (tx e ++ [41]) := by
    rw [L.append_list, L.append_list, ← HSS.out]
    rfl
  have hl2 : ((⟨#[40]⟩ : ByteArray) ++ s ++ (⟨#[41]⟩ : ByteArray)).size ≤ 16384 := by
    rw [L.size_len, hs2]
    have h := L.size_len s
    rw [← HSS.out] at h hl
    rw [← HSS.out] at hd
    have h2 : (ba (tx e)).data.toList = tx e := rfl
    rw [h2] at h
    simp only [List.length_cons, List.length_append, List.length_nil]
    omega
  have HCb := Lib.hid (HX2.out _ hs2 hl2 w5 HC5.out)
  generalize (⟨#[40]⟩ : ByteArray) ++ s ++ (⟨#[41]⟩ : ByteArray) = s2 at HCb ⊢
  clear hs2 hl2 hl hd
  refine HCb.out.mono ?_; rintro e6 w6 ⟨hb, a6, c6, rfl, hK⟩
  have hx := below_box w6 (exO e a6 c6)
  have HC6 := Lib.hid ((HC5.out.on hb).on hx)
  have HK6 := Lib.hid (hK.now.below hx)
  have HB6 : Hid (Bk (w6.alloc (exO e a6 c6)) w6.heap.size #[.int .i64 e.op, .int .i64 e.n, .string e.s, .slice a6 e.args.length c6] 38) := Bk.new w6 _ _
  obtain ⟨x0, x1, x2, x3⟩ := cells4 HC6.out.box
  obtain ⟨y0, y1, y2, y3⟩ := cells4 HB6.out
  unfold exV
  unfold exO at x0 x1 x2 x3 y0 y1 y2 y3
  clear HCb HC5 hb hx hK
  go_wp2_with fail
  have HQ1 := Lib.hid (HQ.out _ _ _ a6 c6 HC6.out HK6.out)
  change Calls _ _ #[exV e a6 c6, exV e a c] (w6.alloc (exO e a6 c6)) _
  generalize w6.alloc (exO e a6 c6) = W6 at *
  clear x0 x1 x2 x3 y0 y1 y2 y3 HK6 HB6
  refine HQ1.out.mono ?_; rintro e7 w7 ⟨rfl, hb⟩
  have HC7 := Lib.hid (HC6.out.on hb)
  clear HC6 hb HQ1
  go_wp2_with fail
  refine (lives.out _ HC7.out).mono ?_; rintro e8 w8 ⟨rfl, hb⟩
  have HE := Lib.hid hb
  clear hb
  go_wp2_with fail
  go_ret
  exact ⟨rfl, HE.out⟩
end Go.Proofs.YteglaeopaocilaaGreatDoor.P
