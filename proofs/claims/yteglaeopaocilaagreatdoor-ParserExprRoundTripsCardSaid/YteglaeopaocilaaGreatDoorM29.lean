/-
  What the generic parse returns for procedures: contracts.
  What Program returns: contracts.
  Plain mathematics of layer 10, without the program: the grammar on literal texts, by computation with fuel.
  Plain mathematics of layer 10, without the program: the grammar on the literal procedures of the laws.
  What lives returns: contracts.
  Plain mathematics of layer 10, without the program: the lines of tokens do not matter to the grammar.
-/
import Derived.Test.YteglaeopaocilaaGreatDoorM28
namespace Go.Proofs.YteglaeopaocilaaGreatDoor.P
open Go.RowKit
open L (Str Tok Tks toks At below_2 below_box ret_bool ret_int ret_string)
open A

theorem prs_more {w w' : World} {n : Nat} {p : Option Addr} {l : List Pr} (h : PrsF (fun j => j < n) w p l) (hb : Below w.heap.size w w') : PrsF (fun j => j < n) w' p l := h.next ⟨fun j hj _ => hb.block j hj, fun _ hj => Or.inl hj⟩
theorem prs_less {w : World} {m n : Nat} {p : Option Addr} {l : List Pr} (h : PrsF (fun j => j < n) w p l) (hm : m ≤ n) : PrsF (fun j => j < m) w p l := h.next ⟨fun _ _ _ => rfl, fun _ hj => Or.inl (Nat.lt_of_lt_of_le hj hm)⟩
theorem prsK {w w' : World} {n g : Nat} {p : Option Addr} {l : List Pr} (h : PrsF (fun j => j < n) w p l) (hg : g < n) (hb : Kp w.heap.size g w w') : PrsF (fun j => j < n) w' p l :=
  h.next ⟨fun j hj hz => hb.block j hj (fun e => hz (by rw [e]; exact hg)), fun _ hj => Or.inl hj⟩
theorem prsZ_set {Z : Nat → Prop} {w : World} {b i : Nat} {u : Value} {p : Option Addr} {l : List Pr} (hb : Z b) (h : PrsF Z w p l) : PrsF Z (w.setCell ⟨b, i, none⟩ u) p l :=
  h.next ⟨fun j _ hz => Below.heap_setCell _ _ _ _ (by intro (e : j = b); exact hz (e ▸ hb)), fun _ hj => Or.inl hj⟩
/-- the boxes of the results: a line, an error -/
structure Bx2 (B : Nat) (w wr : World) : Prop where
  below : Below B w wr
  line : Bk wr B #[.int .i64 0] 3
  err : Bk wr (B + 1) #[.int .i64 0] 29
def box2 (w : World) : World := (w.alloc (.cells #[.int .i64 0] 3)).alloc (.cells #[.int .i64 0] 29)
theorem box2_size (w : World) : (box2 w).heap.size = w.heap.size + 1 + 1 := by simp [box2]
theorem bx2_start (w : World) : Bx2 w.heap.size w (box2 w) := by
  have h1 := below_box w (.cells #[.int .i64 0] 3)
  have h2 := below_box (w.alloc (.cells #[.int .i64 0] 3)) (.cells #[.int .i64 0] 29)
  have s1 : (w.alloc (.cells #[.int .i64 0] 3)).heap.size = w.heap.size + 1 := by simp
  refine ⟨h1.trans (h2.mono h1.size), (Bk.new w _ _).below h2, ?_⟩
  have := Bk.new (w.alloc (.cells #[.int .i64 0] 3)) #[.int .i64 0] 29
  rwa [s1] at this
theorem Bx2.on {B : Nat} {w wr w' : World} (h : Bx2 B w wr) (hb : Below wr.heap.size wr w') : Bx2 B w w' :=
  ⟨h.below.trans (hb.mono (Nat.le_of_lt h.line.lt)), h.line.below hb, h.err.below hb⟩
theorem Bx2.kp {B g : Nat} {w wr w' : World} (h : Bx2 B w wr) (hg : B + 1 < g) (hb : Kp wr.heap.size g wr w') : Bx2 B w w' :=
  ⟨h.below.trans ((hb.mono (Nat.le_of_lt h.line.lt)).below (by omega)), Bk.kp h.line (by omega) hb, Bk.kp h.err (by omega) hb⟩
theorem Bx2.left {B : Nat} {w wr w' : World} (h : Bx2 B w wr) (hf : Fr2 B (B + 1) wr w') : Below B w w' :=
  h.below.trans ⟨hf.os, hf.tape, hf.output, hf.size, fun k hk => hf.block k (Nat.lt_trans hk h.line.lt) (by omega) (by omega)⟩
def res0 (w : World) (B : Nat) : World := (w.setCell ⟨B, 0, none⟩ (.int .i64 0)).setCell ⟨B + 1, 0, none⟩ (.int .i64 0)
theorem bx_res0 {B : Nat} {w wr : World} (h : Bx2 B w wr) : Bx2 B w (res0 wr B) := by
  have h2 := h.line.set 0 (u := .int .i64 0)
  have h3 := h.err.apart (c := B) (i := 0) (u := .int .i64 0) (by omega)
  refine ⟨(h.below.setCell (p := ⟨B, 0, none⟩) (Nat.le_refl B) (.int .i64 0)).setCell (p := ⟨B + 1, 0, none⟩) (Nat.le_succ B) (.int .i64 0), ?_, ?_⟩
  · exact Bk.apart (by simpa using h2) (by omega)
  · exact h3.set 0 (u := .int .i64 0)
theorem prs_res0 {Z : Nat → Prop} {w : World} {B : Nat} {p : Option Addr} {l : List Pr} (h0 : Z B) (h1 : Z (B + 1)) (h : PrsF Z w p l) : PrsF Z (res0 w B) p l := prsZ_set h1 (prsZ_set h0 h)
/-- what follows procedures, which may be none -/
def Sg {α : Type} (l : T) : R α → Prop
  | .ok _ r => r <:+ l
  | .no r _ => r <:+ l
theorem gG_sg : ∀ (f : Nat) (acc : List Pr) (l : T), Sg l (gG f acc l)
  | 0, acc, l => List.suffix_refl l
  | f + 1, acc, l => by
    rw [gG]
    have hsf := gP_sf l
    split
    · revert hsf
      cases gP l with
      | no r x => exact fun h => h.1
      | ok p r =>
        intro h
        have h2 := gG_sg f (acc ++ [p]) r
        show Sg l (gG f (acc ++ [p]) r)
        revert h2
        cases gG f (acc ++ [p]) r with
        | no r2 x => exact fun h2 => List.IsSuffix.trans h2 h.1
        | ok q r2 => exact fun h2 => List.IsSuffix.trans h2 h.1
    · exact List.suffix_refl l
theorem gR_sg (l : T) : Sg l (gR [] l) := gG_sg _ _ _
theorem sg_no {XS : List L.T} {k : Nat} {r : T} {x : Int} (h : Sg (dr XS k) (.no r x : R (List Pr))) : ∃ j, j ≤ XS.length ∧ r = dr XS j := ⟨XS.length - r.length, Nat.sub_le _ _, dr_of h⟩
theorem sg_ok {XS : List L.T} {k : Nat} {t : List Pr} {r : T} (h : Sg (dr XS k) (.ok t r)) : ∃ j, j ≤ XS.length ∧ r = dr XS j := ⟨XS.length - r.length, Nat.sub_le _ _, dr_of h⟩
/-- what is handed back for procedures -/
def GaveR (B : Nat) (o : Out (List Pr)) (e : Ending) (w' : World) : Prop := match o with
  | .ok t => ∃ a c, e = .returned (.tuple #[.slice a t.length c, .int .i64 0, .int .i64 0]) ∧ t.length ≤ c ∧ PrsF (fun j => j < B) w' a t
  | .no l x => e = .returned (.tuple #[(.slice none 0 0), .int .i64 l, .int .i64 x])
set_option maxHeartbeats 4000000 in
set_option maxRecDepth 100000 in
theorem oparseR_any (s : ByteArray) (w : World) (ht : OTab w) :
    Calls Tryz.prog 53 #[.string s, .func (.func 54) #[] #[], .func (.func 55) #[] #[]] w fun e w' => Below w.heap.size w w' ∧ GaveR w.heap.size (outOf s (gR []) prgE) e w' := by
  have hmf : ∀ (fn : Fn) (first cap : Array Value) (w : World), (Instr.makeFunc fn first cap).run Tryz.prog w = .ok (.func fn first cap) w := fun _ _ _ _ => rfl
  have hbx := bx2_start w
  by_cases h0 : (L.tz s.data.toList).2.2 = 0
  · have HFT := Lib.hid (ft_of h0)
    have HN := Lib.hid (onewParser_ok s h0 (box2 w) (ht.below hbx.below))
    unfold outOf
    rw [if_neg (by rw [h0]; decide)]
    rw [← xs_dr s] at HFT ⊢
    have hXl := xs_len s
    generalize xsOf s = XS at *
    obtain ⟨q, hq⟩ : ∃ q, gR [] (dr XS 0) = q := ⟨_, rfl⟩
    rw [hq]
    have hsf : Sg (dr XS 0) q := hq ▸ gR_sg _
    obtain ⟨O, hO⟩ : ∃ O, after XS q prgE = O := ⟨_, rfl⟩
    rw [hO]
    have HQ := Lib.hid hO
    have HOK : Hid (∀ t r, q = .ok t r → (∀ p ∈ t.map clipP, OkP p) ∧ t.length ≤ 20000) := fun t r h => ⟨fun p hp => by obtain ⟨p0, h0, rfl⟩ := List.mem_map.1 hp; exact okP_clip ((gR_ok ⟨HFT.out, by rw [dr_len]; omega⟩ (hq.trans h)).1 p0 h0), (gR_ok ⟨HFT.out, by rw [dr_len]; omega⟩ (hq.trans h)).2⟩
    have HX1 : Hid (∀ g w, Psr g XS 0 0 0 w → Calls Tryz.prog 54 #[ptr g] w fun e w' => PRd g XS 0 0 w w' q (okPg w.heap.size w') e) := fun g w h => hq ▸ oprogram_all g XS (by omega) 0 w h
    have HX0 := Lib.hid hbx
    have hbs := box2_size w
    clear h0 ht hbx hq hO HFT
    go_enter_defers Tryz.func53, Tryz.ntmps53
    go_wp2_with fail
    change Calls _ _ _ (box2 w) _
    generalize box2 w = W0 at *
    generalize hB0 : w.heap.size = B at *
    refine HN.out.mono ?_; rintro e w1 ⟨hb, g, rfl, hg, hP⟩
    have hgB : B + 1 < g := by omega
    have HBX1 := Lib.hid (HX0.out.on hb)
    have hgl := hP.lt
    have HC := Lib.hid (HX1.out g w1 hP)
    clear hb HN HX0 HX1 hP
    go_wp2_with fail
    refine HC.out.mono ?_; intro e w2 hm
    clear HC
    cases q with
    | no r x =>
      obtain ⟨j, hj, rfl⟩ := sg_no hsf
      obtain ⟨hb, he⟩ := PRd.no_dr hm hj
      have HBX := Lib.hid (HBX1.out.kp hgB hb)
      unfold fails at he
      have hO : O = .no (lineAt XS j) x := by rw [← HQ.out]; unfold after; simp only [len_dr hj]
      have HQ2 := Lib.hid hO
      generalize lineAt XS j = ln at he HQ2
      subst he
      clear hb hm HBX1 hsf HOK HQ hO
      go_wp2_with fail
      refine leaves_cons (f := 105) (args := #[ptr B, ptr (B + 1)]) (by simp) (by simp [go_sem]) ?_
      refine (catch_prog B (B + 1) _ _ _ 3 29 0 0 HBX.out.line HBX.out.err (by omega)).mono ?_
      rintro e u' w9 ⟨rfl, rfl, h1, h2, h3⟩
      have h4 := HBX.out.left h3
      have l0 : w9.cell? ⟨B, 0, none⟩ = some _ := h1.cell 0
      have e0 : w9.cell? ⟨B + 1, 0, none⟩ = some _ := h2.cell 0
      subst hB0
      rw [HQ2.out]
      simp [Leaves, settle, modeA, results, Tryz.results53, go_sem, l0, e0, h4, GaveR]
    | ok t r =>
      obtain ⟨j, hj, rfl⟩ := sg_ok hsf
      obtain ⟨hb, v, rfl, hP, a, c, rfl, hc1, hK⟩ := PRd.ok_dr hm hj
      have HBX3 := Lib.hid (HBX1.out.kp hgB hb)
      have hbsz := hb.size
      have HP3 := Lib.hid hP
      have HK3 := Lib.hid hK
      have HC1 := Lib.hid hc1
      have HO := Lib.hid (HOK.out _ _ rfl)
      have HU : Hid (prgE (t.map clipP) = prgE t) := prgE_clip t
      have HU2 : Hid (prgE t = 0 → t.map clipP = t) := fun h => prgE_id h
      have HUL : Hid ((t.map clipP).length = t.length) := List.length_map ..
      clear hb hm HBX1 hsf HOK hP hK hc1
      generalize t.map clipP = u at *
      rw [← HUL.out]
      rw [← HUL.out] at HO HC1
      have HE := oend_any g XS j 0 0 w2 HP3.out
      go_wp2_with fail
      by_cases hend : j = XS.length
      · simp only [if_pos hend] at HE
        have HQ1 : Hid (O = if prgE t ≠ 0 then .no 0 (prgE t) else .ok t) := by
          show O = _
          rw [← HQ.out]
          unfold after
          simp only [len_dr hj]
          rw [if_neg (by rw [dr_len]; omega)]
        clear HQ hend
        refine HE.mono ?_; rintro e w4 ⟨hb, rfl⟩
        have HBX4 := Lib.hid (HBX3.out.kp hgB hb)
        have HK4 := Lib.hid (prsK HK3.out hgl hb)
        have hV := oprogramError_any u a c (by have := HO.out.2; omega) HO.out.1 w4 HC1.out HK4.out.now
        rw [HU.out] at hV
        have HV := Lib.hid hV
        clear HE hb HBX3 HK3 HP3 hj hV
        go_wp2_with fail
        refine HV.out.mono ?_; rintro e w5 ⟨rfl, hb⟩
        have HBX := Lib.hid (HBX4.out.on hb)
        have HK5 := Lib.hid (prs_more HK4.out hb)
        clear HV hb HBX4 HK4
        generalize hvv : prgE t = vv at *
        by_cases hv : vv = 0
        · subst hv
          have HQ2 : Hid (O = .ok t) := by show O = _; rw [HQ1.out, if_neg (by simp)]
          have hut := HU2.out rfl
          subst hut
          clear HQ1 hvv HU HU2
          have l0 := HBX.out.line.cell 0
          have lf := HBX.out.line.free 0
          have e0 := HBX.out.err.cell 0
          have ef := HBX.out.err.free 0
          go_wp2_with fail
          have hwB : B + 1 < w1.heap.size := by omega
          have HK6 := Lib.hid (prs_res0 (Z := fun j => j < w1.heap.size) (show B < w1.heap.size by omega) hwB HK5.out)
          have HBX6 := Lib.hid (bx_res0 HBX.out)
          change bodyPostD _ _ _ _ _ (res0 w5 B)
          generalize res0 w5 B = W6 at *
          refine leaves_cons (f := 105) (args := #[ptr B, ptr (B + 1)]) (by simp) (by simp [go_sem]) ?_
          refine (idle_prog B (B + 1) W6).mono ?_
          rintro e u' w9 ⟨rfl, rfl, hb9⟩
          have hBX9 := HBX6.out.on hb9
          have l9 : w9.cell? ⟨B, 0, none⟩ = some _ := hBX9.line.cell 0
          have e9 : w9.cell? ⟨B + 1, 0, none⟩ = some _ := hBX9.err.cell 0
          have hK9 := prs_less (prs_more HK6.out hb9) (show w.heap.size ≤ w1.heap.size by omega)
          have hc9 := HC1.out
          have h4 := hBX9.below
          subst hB0
          rw [HQ2.out]
          simp [Leaves, settle, results, Tryz.results53, go_sem, l9, e9, h4, GaveR]
          exact ⟨a, c, ⟨rfl, rfl⟩, hc9, hK9⟩
        · have HQ2 : Hid (O = .no 0 vv) := by show O = _; rw [HQ1.out, if_pos hv]
          clear HQ1 hvv
          go_wp2_with fail
          refine leaves_cons (f := 105) (args := #[ptr B, ptr (B + 1)]) (by simp) (by simp [go_sem]) ?_
          refine (catch_prog B (B + 1) _ _ _ 3 29 0 0 HBX.out.line HBX.out.err (by omega)).mono ?_
          rintro e u' w9 ⟨rfl, rfl, h1, h2, h3⟩
          have h4 := HBX.out.left h3
          have l0 : w9.cell? ⟨B, 0, none⟩ = some _ := h1.cell 0
          have e0 : w9.cell? ⟨B + 1, 0, none⟩ = some _ := h2.cell 0
          subst hB0
          rw [HQ2.out]
          simp [Leaves, settle, modeA, results, Tryz.results53, go_sem, l0, e0, h4, GaveR]
      · simp only [if_neg hend] at HE
        have HQ2 : Hid (O = .no (lineAt XS j) 5) := by
          show O = _
          rw [← HQ.out]
          unfold after
          simp only [len_dr hj]
          rw [if_pos (by rw [dr_len]; omega)]
        clear HQ
        refine HE.mono ?_; rintro e w4 ⟨hb, he⟩
        unfold fails at he
        have HBX := Lib.hid (HBX3.out.kp hgB hb)
        generalize lineAt XS j = ln at he HQ2
        subst he
        clear hb HE HBX3 HP3 HK3
        go_wp2_with fail
        refine leaves_cons (f := 105) (args := #[ptr B, ptr (B + 1)]) (by simp) (by simp [go_sem]) ?_
        refine (catch_prog B (B + 1) _ _ _ 3 29 0 0 HBX.out.line HBX.out.err (by omega)).mono ?_
        rintro e u' w9 ⟨rfl, rfl, h1, h2, h3⟩
        have h4 := HBX.out.left h3
        have l0 : w9.cell? ⟨B, 0, none⟩ = some _ := h1.cell 0
        have e0 : w9.cell? ⟨B + 1, 0, none⟩ = some _ := h2.cell 0
        subst hB0
        rw [HQ2.out]
        simp [Leaves, settle, modeA, results, Tryz.results53, go_sem, l0, e0, h4, GaveR]
  · unfold outOf
    rw [if_pos h0]
    have HN := Lib.hid (onewParser_no s h0 (box2 w))
    generalize (L.tz s.data.toList).2.1 = ln at HN ⊢
    generalize (L.tz s.data.toList).2.2 = y at HN ⊢
    have HX0 := Lib.hid hbx
    have hbs := box2_size w
    clear h0 ht hbx
    go_enter_defers Tryz.func53, Tryz.ntmps53
    go_wp2_with fail
    change Calls _ _ _ (box2 w) _
    generalize box2 w = W0 at *
    generalize hB0 : w.heap.size = B at *
    refine HN.out.mono ?_; rintro e w1 ⟨hb, he⟩
    unfold failE at he
    subst he
    have HBX := Lib.hid (HX0.out.on hb)
    clear hb HN HX0
    go_wp2_with fail
    refine leaves_cons (f := 105) (args := #[ptr B, ptr (B + 1)]) (by simp) (by simp [go_sem]) ?_
    refine (catch_prog B (B + 1) _ _ _ 3 29 0 0 HBX.out.line HBX.out.err (by omega)).mono ?_
    rintro e u' w9 ⟨rfl, rfl, h1, h2, h3⟩
    have h4 := HBX.out.left h3
    have l0 : w9.cell? ⟨B, 0, none⟩ = some _ := h1.cell 0
    have e0 : w9.cell? ⟨B + 1, 0, none⟩ = some _ := h2.cell 0
    subst hB0
    simp [Leaves, settle, modeA, results, Tryz.results53, go_sem, l0, e0, h4, GaveR]
end Go.Proofs.YteglaeopaocilaaGreatDoor.P
namespace Go.Proofs.YteglaeopaocilaaGreatDoor.P
open Go.RowKit
open L (Str Tok Tks toks At below_2 below_box ret_bool ret_int ret_string)
open A

set_option maxHeartbeats 4000000 in
set_option maxRecDepth 100000 in
theorem oProgram_any (s : ByteArray) (w : World) (ht : OTab w) : Calls Tryz.prog 22 #[.string s] w fun e w' => Below w.heap.size w w' ∧ GaveR w.heap.size (outOf s (gR []) prgE) e w' := by
  have HC := Lib.hid (oparseR_any s w ht)
  generalize outOf s (gR []) prgE = O at HC ⊢
  clear ht
  go_enter Tryz.func22, Tryz.ntmps22
  go_wp2_with fail
  refine HC.out.mono ?_; rintro e w1 ⟨hb, hG⟩
  have HB1 := Lib.hid hb
  clear HC hb
  cases O with
  | ok t =>
    obtain ⟨a, c, rfl, hc, hK⟩ := hG
    have HK := Lib.hid hK
    have HC1 := Lib.hid hc
    clear hK hc
    go_wp2_with fail
    refine bodyPost_ret (v := .tuple #[.slice a t.length c, .int .i64 0, .int .i64 0]) (by simp [results, Tryz.results22, go_sem]) rfl ?_
    exact ⟨HB1.out, a, c, rfl, HC1.out, HK.out⟩
  | no l x =>
    have hG : e = _ := hG
    subst hG
    go_wp2_with fail
    refine bodyPost_ret (v := .tuple #[.slice none 0 0, .int .i64 l, .int .i64 x]) (by simp [results, Tryz.results22, go_sem]) rfl ?_
    exact ⟨HB1.out, rfl⟩
end Go.Proofs.YteglaeopaocilaaGreatDoor.P
open Go.RowKit
namespace Go.Proofs.YteglaeopaocilaaGreatDoor.P
open L (Str Tok)
open A

/-- the fuel sufficed -/
def good {α : Type} : R α → Prop
  | .ok _ _ => True
  | .no _ x => x ≠ 0
theorem px_mono : ∀ f : Nat, (∀ lev n l, good (pX f lev n l) → pX (f + 1) lev n l = pX f lev n l) ∧ (∀ lev n e l, good (pL f lev n e l) → pL (f + 1) lev n e l = pL f lev n e l) ∧
    (∀ n l, good (pI f n l) → pI (f + 1) n l = pI f n l) ∧ (∀ n l, good (pU f n l) → pU (f + 1) n l = pU f n l) := by
  intro f
  induction f with
  | zero =>
    refine ⟨fun lev n l h => ?_, fun lev n e l h => ?_, fun n l h => ?_, fun n l h => ?_⟩
    · rw [pX] at h; exact absurd rfl h
    · rw [pL] at h; exact absurd rfl h
    · rw [pI] at h; exact absurd rfl h
    · rw [pU] at h; exact absurd rfl h
  | succ f ih =>
    obtain ⟨iX, iL, iI, iU⟩ := ih
    refine ⟨fun lev n l h => ?_, fun lev n e l h => ?_, fun n l h => ?_, fun n l h => ?_⟩
    · conv => lhs; rw [pX]
      conv => rhs; rw [pX]
      rw [pX] at h
      by_cases h9 : lev = 9
      · rw [if_pos h9] at h ⊢
        rw [if_pos h9]
        exact iU n l h
      · rw [if_neg h9] at h ⊢
        rw [if_neg h9]
        by_cases hp : P.pre l lev ≠ 0
        · rw [if_pos hp] at h ⊢
          rw [if_pos hp]
          by_cases hn : n = 24
          · rw [if_pos hn, if_pos hn]
          · rw [if_neg hn] at h ⊢
            rw [if_neg hn]
            have hg : good (pX f lev (n + 1) l.tail) := by
              revert h
              cases pX f lev (n + 1) l.tail with
              | no r x => exact fun h => h
              | ok e r => exact fun _ => trivial
            rw [iX _ _ _ hg]
        · rw [if_neg hp] at h ⊢
          rw [if_neg hp]
          have hg : good (pX f (lev + 1) n l) := by
            revert h
            cases pX f (lev + 1) n l with
            | no r x => exact fun h => h
            | ok e r => exact fun _ => trivial
          rw [iX _ _ _ hg]
          revert h
          cases pX f (lev + 1) n l with
          | no r x => exact fun _ => rfl
          | ok e r => exact fun h => iL _ _ _ _ h
    · conv => lhs; rw [pL]
      conv => rhs; rw [pL]
      rw [pL] at h
      by_cases hb : bin l lev = 0
      · rw [if_pos hb, if_pos hb]
      · rw [if_neg hb] at h ⊢
        rw [if_neg hb]
        have hg : good (pX f (lev + 1) n l.tail) := by
          revert h
          cases pX f (lev + 1) n l.tail with
          | no r x => exact fun h => h
          | ok e r => exact fun _ => trivial
        rw [iX _ _ _ hg]
        revert h
        cases pX f (lev + 1) n l.tail with
        | no r x => exact fun _ => rfl
        | ok e2 r =>
          intro h
          simp only at h ⊢
          by_cases h4 : lev = 4
          · rw [if_pos h4, if_pos h4]
          · rw [if_neg h4] at h ⊢
            rw [if_neg h4]
            exact iL _ _ _ _ h
    · conv => lhs; rw [pI]
      conv => rhs; rw [pI]
      rw [pI] at h
      by_cases hw : isW l [40] = true
      · rw [if_pos hw] at h ⊢
        rw [if_pos hw]
        have hg : good (pX f 1 n l.tail) := by
          revert h
          cases pX f 1 n l.tail with
          | no r x => exact fun h => h
          | ok e r => exact fun _ => trivial
        rw [iX _ _ _ hg]
      · rw [if_neg hw, if_neg hw]
    · conv => lhs; rw [pU]
      conv => rhs; rw [pU]
      rw [pU] at h
      cases hl : P.leaf l with
      | some e => rfl
      | none =>
        rw [hl] at h
        simp only at h ⊢
        by_cases h1 : 25 ≤ callOp l
        · rw [if_pos h1, if_pos h1]
        · rw [if_neg h1] at h ⊢
          rw [if_neg h1]
          by_cases h2 : callOp l = 0 ∧ isW l [40] = false
          · rw [if_pos h2, if_pos h2]
          · rw [if_neg h2] at h ⊢
            rw [if_neg h2]
            by_cases h3 : n = 24
            · rw [if_pos h3, if_pos h3]
            · rw [if_neg h3] at h ⊢
              rw [if_neg h3]
              by_cases h4 : callOp l = 0
              · rw [if_pos h4] at h ⊢
                rw [if_pos h4]
                exact iI _ _ h
              · rw [if_neg h4] at h ⊢
                rw [if_neg h4]
                have hg : good (pI f (n + 1) l.tail) := by
                  revert h
                  cases pI f (n + 1) l.tail with
                  | no r x => exact fun h => h
                  | ok e r => exact fun _ => trivial
                rw [iI _ _ hg]
theorem px_more {lev n : Nat} {l : T} {f : Nat} (h : good (pX f lev n l)) : ∀ k, pX (f + k) lev n l = pX f lev n l
  | 0 => rfl
  | k + 1 => by
    have ih := px_more h k
    have h2 := (px_mono (f + k)).1 lev n l (ih.symm ▸ h)
    exact h2.trans ih
theorem gX_fuel {lev n : Nat} {l : T} {q : R Ex} (f : Nat) (h9 : lev ≤ 9) (hq : pX f lev n l = q) (hg : good q) : gX lev n l = q :=
  gX_eq h9 ⟨f, fun k hk => by
    have := px_more (lev := lev) (n := n) (l := l) (hq.symm ▸ hg) (k - f)
    rw [show f + (k - f) = k by omega] at this
    exact this.trans hq⟩
theorem outOf_at {α : Type} {s : ByteArray} {g : T → R α} {chk : α → Int} {q : R α} (h0 : (L.tz s.data.toList).2.2 = 0) (hq : g (L.tz s.data.toList).1 = q) : outOf s g chk = after (xsOf s) q chk := by
  unfold outOf
  rw [if_neg (by rw [h0]; decide), hq]
theorem lit_1 : outOf ⟨#[49, 32, 43, 32, 50, 32, 42, 32, 120]⟩ (gX 1 0) (fun t => vE t 1) = .ok (.mk 4 0 none8 [.mk 1 1 none8 [], .mk 6 0 none8 [.mk 1 2 none8 [], .mk 3 0 ⟨#[120]⟩ []]]) :=
  (outOf_at (by kernel_rfl) (gX_fuel (q := .ok (.mk 4 0 none8 [.mk 1 1 none8 [], .mk 6 0 none8 [.mk 1 2 none8 [], .mk 3 0 ⟨#[120]⟩ []]]) []) 60 (by decide) (by kernel_rfl) trivial)).trans (by kernel_rfl)
theorem lit_2 : outOf ⟨#[97, 32, 60, 32, 98, 32, 60, 32, 99]⟩ (gX 1 0) (fun t => vE t 1) = .no 1 5 :=
  (outOf_at (by kernel_rfl) (gX_fuel (q := .ok (.mk 12 0 none8 [.mk 3 0 ⟨#[97]⟩ [], .mk 3 0 ⟨#[98]⟩ []]) ((L.tz (⟨#[97, 32, 60, 32, 98, 32, 60, 32, 99]⟩ : ByteArray).data.toList).1.drop 3)) 60 (by decide) (by kernel_rfl) trivial)).trans (by kernel_rfl)
theorem lit_3 : outOf ⟨#[49, 32, 43]⟩ (gX 1 0) (fun t => vE t 1) = .no 1 6 :=
  (outOf_at (by kernel_rfl) (gX_fuel (q := .no [] 6) 60 (by decide) (by kernel_rfl) (by show (6 : Int) ≠ 0; decide))).trans (by kernel_rfl)
theorem lit_4 : outOf ⟨#[]⟩ (gR []) prgE = .ok [] :=
  (outOf_at (q := .ok [] []) (by kernel_rfl) ((gR_step [] _).trans (by kernel_rfl))).trans (by kernel_rfl)
end Go.Proofs.YteglaeopaocilaaGreatDoor.P
namespace Go.Proofs.YteglaeopaocilaaGreatDoor.P
open Go.RowKit
open L (Str Tok)
open A

noncomputable def gPk (K : T → R (List St)) (l : T) : R Pr :=
  if isW l kProc = true then
    match nm1 l.tail with
    | none => .no l.tail (wrong l.tail)
    | some nm => if isW l.tail.tail [40] = true then (gQ l.tail.tail.tail).to fun ps r => (K r).to fun b r2 => .ok ⟨nm, ps, b⟩ r2 else .no l.tail.tail (wrong l.tail.tail)
  else .no l (wrong l)
theorem gP_at {l r : T} {nm : ByteArray} {q : R (List St)} {v : R Pr} (h : ∀ K : T → R (List St), gPk K l = (K r).to fun b r2 => .ok ⟨nm, [], b⟩ r2) (hq : gB 0 r = q) (hv : (q.to fun b r2 => .ok ⟨nm, [], b⟩ r2) = v) : gP l = v := by
  have h1 : gP l = gPk (gB 0) l := rfl
  rw [h1, h, hq, hv]
def lit5 : ByteArray := ⟨#[112, 114, 111, 99, 32, 112, 40, 41, 32, 123, 10, 32, 32, 101, 109, 105, 116, 32, 120, 10, 125]⟩
def lit6 : ByteArray := ⟨#[112, 114, 111, 99, 32, 112, 40, 41, 32, 123, 32, 97, 98, 111, 114, 116, 32, 49, 48, 48, 48, 59, 32, 125]⟩
def l5 : T := (L.tz lit5.data.toList).1
def l6 : T := (L.tz lit6.data.toList).1
def ab6 : St := .mk 8 none8 1000 noE noE [] []
theorem lit5_X : gX 1 0 (l5.drop 6) = .ok (.mk 3 0 ⟨#[120]⟩ []) (l5.drop 7) := gX_fuel 60 (by decide) (by kernel_rfl) trivial
theorem lit5_E : gE 0 7 none8 (l5.drop 6) = .no (l5.drop 7) 5 := by
  rw [gE_step, if_neg (by decide), lit5_X]
  exact (show _ = gT 0 7 none8 (.mk 3 0 ⟨#[120]⟩ []) noE (l5.drop 7) by kernel_rfl).trans ((gT_step 0 7 none8 (.mk 3 0 ⟨#[120]⟩ []) noE (l5.drop 7)).trans (by kernel_rfl))
theorem lit5_S : gS 0 (l5.drop 5) = .no (l5.drop 7) 5 := (gS_step 0 (l5.drop 5)).trans ((show _ = gE 0 7 none8 (l5.drop 6) by kernel_rfl).trans lit5_E)
theorem lit5_B : gB 0 (l5.drop 4) = .no (l5.drop 7) 5 := by
  refine (gB_step 0 (l5.drop 4)).trans ((show _ = gK 0 [] (l5.drop 5) by kernel_rfl).trans ((gK_step 0 [] (l5.drop 5)).trans ((show _ = (gS 0 (l5.drop 5)).to fun s r => gK 0 ([] ++ [s]) r by kernel_rfl).trans ?_)))
  rw [lit5_S]
  rfl
theorem lit_5 : outOf lit5 gP valE = .no 3 5 := (outOf_at (q := .no (l5.drop 7) 5) (by kernel_rfl) (gP_at (nm := ⟨#[112]⟩) (r := l5.drop 4) (fun K => by kernel_rfl) lit5_B rfl)).trans (by kernel_rfl)
theorem lit6_S : gS 0 (l6.drop 5) = .ok ab6 (l6.drop 8) := by
  refine (gS_step 0 (l6.drop 5)).trans ((show _ = gE 0 8 none8 (l6.drop 6) by kernel_rfl).trans ?_)
  rw [gE_step, if_pos rfl, gN_step]
  kernel_rfl
theorem lit6_B : gB 0 (l6.drop 4) = .ok [ab6] [] := by
  refine (gB_step 0 (l6.drop 4)).trans ((show _ = gK 0 [] (l6.drop 5) by kernel_rfl).trans ((gK_step 0 [] (l6.drop 5)).trans ((show _ = (gS 0 (l6.drop 5)).to fun s r => gK 0 ([] ++ [s]) r by kernel_rfl).trans ?_)))
  rw [lit6_S]
  exact (gK_step 0 [ab6] (l6.drop 8)).trans (by kernel_rfl)
theorem lit_6 : outOf lit6 gP valE = .no 0 1 := (outOf_at (q := .ok ⟨⟨#[112]⟩, [], [ab6]⟩ []) (by kernel_rfl) (gP_at (nm := ⟨#[112]⟩) (r := l6.drop 4) (fun K => by kernel_rfl) lit6_B rfl)).trans (by kernel_rfl)
end Go.Proofs.YteglaeopaocilaaGreatDoor.P
namespace Go.Proofs.YteglaeopaocilaaGreatDoor.P
open Go.RowKit
open L (Str Tok Tks toks At below_2 below_box ret_bool ret_int ret_string)
open A

/-- the first example's tree -/
def t1 : Ex := .mk 4 0 none8 [.mk 1 1 none8 [], .mk 6 0 none8 [.mk 1 2 none8 [], .mk 3 0 ⟨#[120]⟩ []]]
/-- what lives looks at in it -/
structure Lv (X : Nat) (a : Option Addr) (c : Nat) (w : World) : Prop where
  op : w.cell? ⟨X, 0, none⟩ = some (.int .i64 4)
  sl : w.cell? ⟨X, 3, none⟩ = some (.slice a 2 c)
  kid : ∃ b i, a = some ⟨b, i, none⟩ ∧ w.cell? ⟨b, i + 4, none⟩ = some (.int .i64 6)
theorem Lv.below {X : Nat} {a : Option Addr} {c : Nat} {w w' : World} (h : Lv X a c w) (hb : Below w.heap.size w w') : Lv X a c w' := by
  obtain ⟨b, i, ha, hk⟩ := h.kid
  exact ⟨(hb.cell (block_lt_of_cell h.op)).trans h.op, (hb.cell (block_lt_of_cell h.sl)).trans h.sl, b, i, ha, (hb.cell (block_lt_of_cell hk)).trans hk⟩
theorem lv_start {w : World} {a : Option Addr} {c : Nat} (h : A.Kids w a t1.args) : Lv w.heap.size a c (w.alloc (exO t1 a c)) := by
  obtain ⟨h0, _, _, h3⟩ := exO_cells w t1 a c
  obtain ⟨b, i, ha, hat⟩ := h.open (k := 1) (by decide)
  have hat2 : ExAt w (.mk 6 0 none8 [.mk 1 2 none8 [], .mk 3 0 ⟨#[120]⟩ []]) b (i + 4) := hat
  rw [ExAt] at hat2
  have hk := hat2.1
  refine ⟨h0, h3, b, i, ha, ?_⟩
  exact ((below_box w (exO t1 a c)).cell (block_lt_of_cell hk)).trans hk
set_option maxHeartbeats 4000000 in
set_option maxRecDepth 100000 in
theorem olives10_any (w : World) (ht : OTab w) : Calls Tryz.prog 11 #[] w fun e w' => e = .returned (.bool true) ∧ Below w.heap.size w w' := by
  go_enter Tryz.func11, Tryz.ntmps11
  go_wp2_with fail
  have hC := oExpr_any ⟨#[49, 32, 43, 32, 50, 32, 42, 32, 120]⟩ w ht
  rw [lit_1] at hC
  have HT := Lib.hid ht
  refine hC.mono ?_; rintro e w1 ⟨hb, a, c, rfl, hK⟩
  have HB1 := Lib.hid hb
  have HK1 := Lib.hid hK
  have HT1 := Lib.hid (ht.below hb)
  unfold exV
  clear hC hb hK ht
  go_wp2_with fail
  have hx := below_box w1 (exO t1 a c)
  have hL : Lv w1.heap.size a c (w1.alloc (exO t1 a c)) := lv_start HK1.out.now
  change Calls _ _ _ (w1.alloc (exO t1 a c)) _
  have HB2 := Lib.hid (HB1.out.trans (hx.mono HB1.out.size))
  have HT2 := Lib.hid (HT1.out.below hx)
  have HL2 := Lib.hid hL
  generalize w1.alloc (exO t1 a c) = W2 at *
  generalize w1.heap.size = X at *
  clear HK1 hx hL HB1 HT1
  have hC := oExpr_any ⟨#[97, 32, 60, 32, 98, 32, 60, 32, 99]⟩ W2 HT2.out
  rw [lit_2] at hC
  refine hC.mono ?_; rintro e w3 ⟨hb, rfl⟩
  have HB3 := Lib.hid (below_2 HB2.out hb)
  have HT3 := Lib.hid (HT2.out.below hb)
  have HL3 := Lib.hid (HL2.out.below hb)
  clear hC hb HB2 HT2 HL2
  go_wp2_with fail
  have hx := below_box w3 (.cells #[.int .i64 0, .int .i64 0, .string ⟨#[]⟩, .slice none 0 0] 38)
  change Calls _ _ _ (w3.alloc (.cells #[.int .i64 0, .int .i64 0, .string ⟨#[]⟩, .slice none 0 0] 38)) _
  have HB4 := Lib.hid (below_2 HB3.out hx)
  have HT4 := Lib.hid (HT3.out.below hx)
  have HL4 := Lib.hid (HL3.out.below hx)
  generalize w3.alloc (.cells #[.int .i64 0, .int .i64 0, .string ⟨#[]⟩, .slice none 0 0] 38) = W4 at *
  clear HB3 HT3 HL3 hx
  have hC := oExpr_any ⟨#[49, 32, 43]⟩ W4 HT4.out
  rw [show outOf ⟨#[49, 32, 43]⟩ _ _ = _ from lit_3] at hC
  refine hC.mono ?_; rintro e w5 ⟨hb, rfl⟩
  have HB5 := Lib.hid (below_2 HB4.out hb)
  have HT5 := Lib.hid (HT4.out.below hb)
  have HL5 := Lib.hid (HL4.out.below hb)
  clear hC hb HB4 HT4 HL4
  go_wp2_with fail
  have hx := below_box w5 (.cells #[.int .i64 0, .int .i64 0, .string ⟨#[]⟩, .slice none 0 0] 38)
  change Calls _ _ _ (w5.alloc (.cells #[.int .i64 0, .int .i64 0, .string ⟨#[]⟩, .slice none 0 0] 38)) _
  have HB6 := Lib.hid (below_2 HB5.out hx)
  have HT6 := Lib.hid (HT5.out.below hx)
  have HL6 := Lib.hid (HL5.out.below hx)
  generalize w5.alloc (.cells #[.int .i64 0, .int .i64 0, .string ⟨#[]⟩, .slice none 0 0] 38) = W6 at *
  clear HB5 HT5 HL5 hx
  have hC := oProc_any ⟨#[112, 114, 111, 99, 32, 112, 40, 41, 32, 123, 10, 32, 32, 101, 109, 105, 116, 32, 120, 10, 125]⟩ W6 HT6.out
  rw [show outOf ⟨#[112, 114, 111, 99, 32, 112, 40, 41, 32, 123, 10, 32, 32, 101, 109, 105, 116, 32, 120, 10, 125]⟩ _ _ = _ from lit_5] at hC
  refine hC.mono ?_; rintro e w7 ⟨hb, rfl⟩
  have HB7 := Lib.hid (below_2 HB6.out hb)
  have HT7 := Lib.hid (HT6.out.below hb)
  have HL7 := Lib.hid (HL6.out.below hb)
  clear hC hb HB6 HT6 HL6
  go_wp2_with fail
  have hx := below_box w7 (.cells #[.string ⟨#[]⟩, .slice none 0 0, .slice none 0 0] 25)
  change Calls _ _ _ (w7.alloc (.cells #[.string ⟨#[]⟩, .slice none 0 0, .slice none 0 0] 25)) _
  have HB8 := Lib.hid (below_2 HB7.out hx)
  have HT8 := Lib.hid (HT7.out.below hx)
  have HL8 := Lib.hid (HL7.out.below hx)
  generalize w7.alloc (.cells #[.string ⟨#[]⟩, .slice none 0 0, .slice none 0 0] 25) = W8 at *
  clear HB7 HT7 HL7 hx
  have hC := oProgram_any ⟨#[]⟩ W8 HT8.out
  rw [show outOf ⟨#[]⟩ _ _ = _ from lit_4] at hC
  refine hC.mono ?_; rintro e w9 ⟨hb, a2, c2, rfl, _, _⟩
  have HB9 := Lib.hid (below_2 HB8.out hb)
  have HT9 := Lib.hid (HT8.out.below hb)
  have HL9 := Lib.hid (HL8.out.below hb)
  clear hC hb HB8 HT8 HL8
  go_wp2_with fail
  have hC := oProc_any ⟨#[112, 114, 111, 99, 32, 112, 40, 41, 32, 123, 32, 97, 98, 111, 114, 116, 32, 49, 48, 48, 48, 59, 32, 125]⟩ w9 HT9.out
  rw [show outOf ⟨#[112, 114, 111, 99, 32, 112, 40, 41, 32, 123, 32, 97, 98, 111, 114, 116, 32, 49, 48, 48, 48, 59, 32, 125]⟩ _ _ = _ from lit_6] at hC
  refine hC.mono ?_; rintro e w10 ⟨hb, rfl⟩
  have HB10 := Lib.hid (below_2 HB9.out hb)
  have HT10 := Lib.hid (HT9.out.below hb)
  have HL10 := Lib.hid (HL9.out.below hb)
  have hx := below_box w10 (.cells #[.string ⟨#[]⟩, .slice none 0 0, .slice none 0 0] 25)
  obtain ⟨f0, f3, b, i, rfl, fk⟩ := HL10.out.below hx
  have HBE := Lib.hid (below_2 HB10.out hx)
  clear hC hb HB9 HT9 HL9 HB10 HT10 HL10 hx
  go_wp2_with fail
  go_ret
  exact ⟨rfl, HBE.out⟩
end Go.Proofs.YteglaeopaocilaaGreatDoor.P
namespace Go.Proofs.YteglaeopaocilaaGreatDoor.P
open L (Str Tok)
open A

/-- tokens without their lines -/
def zt (t : Tok) : Tok := ⟨t.k, t.t, t.n, 0⟩
def zl (l : T) : T := l.map zt
def R.z {α : Type} : R α → R α
  | .ok a r => .ok a (zl r)
  | .no r x => .no (zl r) x
theorem isW_z (l : T) (w : Str) : isW (zl l) w = isW l w := by cases l <;> rfl
theorem tail_z (l : T) : (zl l).tail = zl l.tail := by cases l <;> rfl
theorem wrong_z (l : T) : wrong (zl l) = wrong l := by cases l <;> rfl
theorem findW_z (tab : List (Str × Int)) (l : T) : findW tab (zl l) = findW tab l := by
  unfold findW
  simp only [isW_z]
theorem bin_z (l : T) (lev : Nat) : bin (zl l) lev = bin l lev := by unfold bin sgn; rw [findW_z]
theorem pre_z (l : T) (lev : Nat) : P.pre (zl l) lev = P.pre l lev := by unfold P.pre; rw [isW_z, isW_z]
theorem call_z (l : T) : callOp (zl l) = callOp l := findW_z _ _
theorem leaf_z (l : T) : P.leaf (zl l) = P.leaf l := by cases l <;> rfl
theorem nm1_z (l : T) : nm1 (zl l) = nm1 l := by cases l <;> rfl
theorem int1_z (l : T) : int1 (zl l) = int1 l := by cases l <;> rfl
theorem st_z (l : T) : stOp (zl l) = stOp l := findW_z _ _
theorem ty_z (l : T) : tyOp (zl l) = tyOp l := findW_z _ _
theorem px_z : ∀ f : Nat, (∀ lev n l, pX f lev n (zl l) = (pX f lev n l).z) ∧ (∀ lev n e l, pL f lev n e (zl l) = (pL f lev n e l).z) ∧ (∀ n l, pI f n (zl l) = (pI f n l).z) ∧ (∀ n l, pU f n (zl l) = (pU f n l).z) := by
  intro f
  induction f with
  | zero =>
    refine ⟨fun lev n l => ?_, fun lev n e l => ?_, fun n l => ?_, fun n l => ?_⟩
    · rw [pX, pX]; rfl
    · rw [pL, pL]; rfl
    · rw [pI, pI]; rfl
    · rw [pU, pU]; rfl
  | succ f ih =>
    obtain ⟨iX, iL, iI, iU⟩ := ih
    refine ⟨fun lev n l => ?_, fun lev n e l => ?_, fun n l => ?_, fun n l => ?_⟩
    · rw [pX, pX, pre_z, tail_z, iU, iX lev (n + 1) l.tail, iX (lev + 1) n l]
      split
      · rfl
      · split
        · split
          · rfl
          · cases pX f lev (n + 1) l.tail <;> rfl
        · cases pX f (lev + 1) n l with
          | no r x => rfl
          | ok e r => exact iL lev n e r
    · rw [pL, pL, bin_z, tail_z, iX (lev + 1) n l.tail]
      split
      · rfl
      · cases pX f (lev + 1) n l.tail with
        | no r x => rfl
        | ok e2 r =>
          show (if lev = 4 then _ else _) = R.z (if lev = 4 then _ else _)
          split
          · rfl
          · exact iL lev n _ r
    · rw [pI, pI, isW_z, tail_z, iX 1 n l.tail]
      split
      · cases pX f 1 n l.tail with
        | no r x => rfl
        | ok e r =>
          show (if isW (zl r) [41] = true then R.ok e (zl r).tail else .no (zl r) (wrong (zl r))) = R.z (if isW r [41] = true then _ else _)
          rw [isW_z, tail_z, wrong_z]
          split <;> rfl
      · rw [wrong_z]; rfl
    · rw [pU, pU, leaf_z]
      cases P.leaf l with
      | some e => show R.ok e (zl l).tail = _; rw [tail_z]; rfl
      | none =>
        simp only [call_z, tail_z, isW_z, wrong_z, iI]
        split
        · split
          · split <;> rfl
          · rfl
        · split
          · rfl
          · split
            · rfl
            · split
              · rfl
              · cases pI f (n + 1) l.tail <;> rfl
theorem ps_z : ∀ f : Nat, (∀ d l, pS f d (zl l) = (pS f d l).z) ∧ (∀ d o nm l, pE f d o nm (zl l) = (pE f d o nm l).z) ∧ (∀ d o nm a b l, pN f d o nm a b (zl l) = (pN f d o nm a b l).z) ∧
    (∀ d o nm a b l, pT f d o nm a b (zl l) = (pT f d o nm a b l).z) ∧ (∀ d l, pB f d (zl l) = (pB f d l).z) ∧ (∀ d acc l, pK f d acc (zl l) = (pK f d acc l).z) := by
  intro f
  induction f with
  | zero =>
    refine ⟨fun d l => ?_, fun d o nm l => ?_, fun d o nm a b l => ?_, fun d o nm a b l => ?_, fun d l => ?_, fun d acc l => ?_⟩
    · rw [pS, pS]; rfl
    · rw [pE, pE]; rfl
    · rw [pN, pN]; rfl
    · rw [pT, pT]; rfl
    · rw [pB, pB]; rfl
    · rw [pK, pK]; rfl
  | succ f ih =>
    obtain ⟨iS, iE, iN, iT, iB, iK⟩ := ih
    have iX := (px_z f).1
    refine ⟨fun d l => ?_, fun d o nm l => ?_, fun d o nm a b l => ?_, fun d o nm a b l => ?_, fun d l => ?_, fun d acc l => ?_⟩
    · rw [pS, pS]
      simp only [st_z, nm1_z, tail_z, isW_z, wrong_z, iE]
      split
      · cases nm1 l with
        | none => rfl
        | some nm => show (if _ then _ else _) = R.z (if _ then _ else _); split <;> rfl
      · split
        · cases nm1 l.tail with
          | none => rfl
          | some nm => show (if _ then _ else _) = R.z (if _ then _ else _); split <;> rfl
        · rfl
    · rw [pE, pE, iN, iX]
      split
      · rfl
      · cases pX f 1 0 l with
        | no r x => rfl
        | ok a r =>
          simp only [R.z, isW_z, tail_z, iX, iT, wrong_z]
          by_cases ho : o = 3 ∨ o = 6
          · rw [if_pos ho, if_pos ho]
            by_cases hw : isW r (if o = 6 then kTo else [61]) = true
            · rw [if_pos hw, if_pos hw]
              cases pX f 1 0 r.tail with
              | no r x => rfl
              | ok b r => exact iT d o nm a b r
            · rw [if_neg hw, if_neg hw]
          · rw [if_neg ho, if_neg ho]
    · rw [pN, pN, int1_z]
      cases int1 l with
      | none => show R.no (zl l) (wrong (zl l)) = _; rw [wrong_z]; rfl
      | some m =>
        simp only [tail_z, isW_z, wrong_z, iB]
        split
        · split <;> rfl
        · cases pB f (d + 1) l.tail <;> rfl
    · rw [pT, pT]
      simp only [tail_z, isW_z, wrong_z, iB, iN]
      split
      · split <;> rfl
      · split
        · cases pB f (d + 1) l with
          | no r x => rfl
          | ok bd r =>
            simp only [R.z, isW_z, tail_z, iB]
            split
            · cases pB f (d + 1) r.tail <;> rfl
            · rfl
        · split <;> rfl
    · rw [pB, pB]
      simp only [tail_z, isW_z, wrong_z, iK]
      split
      · split <;> rfl
      · rfl
    · rw [pK, pK]
      simp only [tail_z, isW_z, iS]
      split
      · rfl
      · cases pS f d l with
        | no r x => rfl
        | ok s r => exact iK d _ r
theorem pps_z : ∀ (f : Nat) (acc : List Pm) (l : T), pPs f acc (zl l) = (pPs f acc l).z
  | 0, acc, l => by rw [pPs, pPs]; rfl
  | f + 1, acc, l => by
    rw [pPs, pPs]
    simp only [nm1_z, tail_z, isW_z, wrong_z, ty_z, pps_z f]
    cases nm1 l with
    | none => rfl
    | some nm =>
      simp only
      split
      · split
        · rfl
        · split
          · rfl
          · split <;> rfl
      · rfl
theorem pp_z (f : Nat) (l : T) : pP f (zl l) = (pP f l).z := by
  unfold pP
  simp only [nm1_z, tail_z, isW_z, wrong_z, pps_z f]
  split
  · cases nm1 l.tail with
    | none => rfl
    | some nm =>
      simp only
      split
      · rw [show (if isW l.tail.tail.tail [41] = true then R.ok [] (zl l.tail.tail.tail.tail) else (pPs f [] l.tail.tail.tail).z) = R.z (if isW l.tail.tail.tail [41] = true then R.ok [] l.tail.tail.tail.tail else pPs f [] l.tail.tail.tail) by split <;> rfl]
        cases (if isW l.tail.tail.tail [41] = true then R.ok [] l.tail.tail.tail.tail else pPs f [] l.tail.tail.tail) with
        | no r x => rfl
        | ok ps r =>
          simp only [R.z, (ps_z f).2.2.2.2.1]
          cases pB f 0 r <;> rfl
      · rfl
  · rfl
/-- a tree without rest, whatever the lines are -/
theorem z_ok {α : Type} {q : R α} {a : α} (h : q.z = .ok a []) : q = .ok a [] := by
  cases q with
  | no r x => cases h
  | ok b r =>
    cases r with
    | nil => cases h; rfl
    | cons t r => cases h
theorem gX_z {l : T} {e : Ex} (h : PX 1 0 (zl l) (.ok e [])) : gX 1 0 l = .ok e [] := by
  obtain ⟨F, hF⟩ := h
  refine gX_eq (by decide) ⟨F, fun f hf => z_ok ?_⟩
  rw [← (px_z f).1]
  exact hF f hf
/-- a text that is read as those tokens has them, with some lines -/
theorem lx_tkz {s r : Str} {l : List Tok} (h : P.Lx s l r) : ∀ N, L.skp false r = [] → ∃ ts, L.tkz N s = (ts, 0, 0) ∧ zl ts = zl l := by
  induction h with
  | nil s => exact fun N hr => ⟨[], L.tkz_end hr, rfl⟩
  | cons h1 h2 _ ih =>
    intro N hr
    obtain ⟨ts, h3, h4⟩ := ih N hr
    have e := L.tkz_ok (N := N) h1 (by rw [h2])
    rw [h2] at e
    simp only at e
    rw [h3] at e
    refine ⟨_, e.trans (by unfold L.joinT; rw [if_neg (by simp)]), ?_⟩
    show zl ([_] ++ ts) = _
    unfold zl at *
    rw [List.map_append, h4]
    rfl
/-- the tokens of a short text -/
theorem lx_tz {s r : Str} {l : List Tok} (h : P.Lx s l r) (hr : L.skp false r = []) (hs : s.length ≤ 16384) : ∃ ts, L.tz s = (ts, 0, 0) ∧ zl ts = zl l := by
  obtain ⟨ts, h1, h2⟩ := lx_tkz h (L.nf s) hr
  exact ⟨ts, by unfold L.tz; rw [if_neg (by omega)]; exact h1, h2⟩
/-- what is read from a source whose tokens, but for their lines, are l -/
theorem out_lx {α : Type} {s : ByteArray} {l : List Tok} {r : Str} {g : T → R α} {chk : α → Int} {a : α} (h : P.Lx s.data.toList l r) (hr : L.skp false r = []) (hs : s.size ≤ 16384) (hg : ∀ ts, zl ts = zl l → g ts = .ok a []) (hc : chk a = 0) : outOf s g chk = .ok a := by
  obtain ⟨ts, h1, h2⟩ := lx_tz h hr (by rw [← L.size_len]; exact hs)
  rw [outOf_at (q := .ok a []) (by rw [h1]) (by rw [h1]; exact hg ts h2)]
  unfold after
  simp only
  rw [if_neg (by simp), if_neg (by rw [hc]; simp)]
end Go.Proofs.YteglaeopaocilaaGreatDoor.P
