/-
  What newParser and the generic parse return: contracts.
  What the generic parse returns: a tree, or an error and its line: contracts.
  Plain mathematics of layer 10, without the program: statements and procedures that are read from tokens that fit memory fit memory.
  What the generic parse returns for a procedure: contracts.
  What Expr and Proc return: contracts.
  What programError returns: contracts.
-/
import Derived.Test.YteglaeopaocilaaGreatDoorM27
import Derived.Test.YteglaeopaocilaaGreatDoorM09
import Derived.Test.YteglaeopaocilaaGreatDoorLLawsD
import Derived.Test.YteglaeopaocilaaGreatDoorM15
namespace Go.Proofs.YteglaeopaocilaaGreatDoor.P
open Go.RowKit
open L (Str Tok Tks toks At below_2 below_box ret_bool ret_int ret_string)
open A

/-- the tokens of a text, as the program has them -/
def xsOf (s : ByteArray) : List L.T := (L.tz s.data.toList).1.map L.ofTok
theorem xs_dr (s : ByteArray) : dr (xsOf s) 0 = (L.tz s.data.toList).1 := by
  unfold xsOf dr
  rw [L.toks_of, List.drop_zero]
theorem xs_len (s : ByteArray) : (xsOf s).length ≤ 16385 := L.tz_len s
def failE (l x : Int) : Ending := .panicked [{ v := .iface 117 (.agg #[.int .i64 l, .int .i64 x]), recovered := false }]
set_option maxHeartbeats 4000000 in
set_option maxRecDepth 100000 in
theorem onewParser_ok (s : ByteArray) (h0 : (L.tz s.data.toList).2.2 = 0) (w : World) (ht : OTab w) :
    Calls Tryz.prog 80 #[.string s] w fun e w' => Below w.heap.size w w' ∧ ∃ g, e = .returned (ptr g) ∧ w.heap.size ≤ g ∧ Psr g (xsOf s) 0 0 0 w' := by
  have HT := Lib.hid (L.otz_any s w)
  have HX : Hid (xsOf s = (L.tz s.data.toList).1.map L.ofTok) := rfl
  have HTab := Lib.hid ht
  obtain ⟨ln, hln⟩ : ∃ ln, (L.tz s.data.toList).2.1 = ln := ⟨_, rfl⟩
  unfold L.GivesT at HT
  rw [h0, hln] at HT
  generalize (L.tz s.data.toList).1.map L.ofTok = XS at HT HX
  rw [HX.out]
  clear h0 ht hln HX
  go_enter Tryz.func80, Tryz.ntmps80
  go_wp2_with fail
  refine HT.out.mono ?_; rintro e w1 ⟨⟨a, c, rfl, hS⟩, hb⟩
  have hx := below_box w1 (.cells #[.slice a XS.length c, .int .i64 1, .int .i64 0, .int .i64 0] 164)
  have HB := Lib.hid (hb.trans (hx.mono hb.size))
  have hz := hb.size
  have hP : Psr w1.heap.size XS 0 0 0 (w1.alloc (.cells #[.slice a XS.length c, .int .i64 1, .int .i64 0, .int .i64 0] 164)) := by
    have hta := HTab.out.below hb
    refine ⟨Nat.zero_le _, hta.below hx, hta.lt, a, c, Bk.new w1 _ _, hS.cap, ?_⟩
    rw [List.drop_zero]
    rcases hS.prs with h | ⟨b, o, ha, hat⟩
    · exact Or.inl h
    · by_cases hne : XS = []
      · exact Or.inl hne
      · have hpos : 0 < XS.length := List.length_pos_iff.2 hne
        have hlt := (hat 0 hpos).lt
        exact Or.inr ⟨b, o, ha, hlt, fun j hj => (hat j hj).below hx hlt⟩
  have HP := Lib.hid hP
  clear hP hx hb hS
  go_wp2_with fail
  go_ret
  exact ⟨HB.out, w1.heap.size, rfl, hz, HP.out⟩
set_option maxHeartbeats 4000000 in
set_option maxRecDepth 100000 in
theorem onewParser_no (s : ByteArray) (h0 : (L.tz s.data.toList).2.2 ≠ 0) (w : World) :
    Calls Tryz.prog 80 #[.string s] w fun e w' => Below w.heap.size w w' ∧ e = failE (L.tz s.data.toList).2.1 (L.tz s.data.toList).2.2 := by
  have HT := Lib.hid (L.otz_any s w)
  unfold L.GivesT at HT
  generalize (L.tz s.data.toList).2.1 = ln at HT ⊢
  generalize (L.tz s.data.toList).2.2 = y at HT h0 ⊢
  generalize (L.tz s.data.toList).1.map L.ofTok = XS at HT
  have hy : (y != 0) = true := bne_iff_ne.2 h0
  clear h0
  go_enter Tryz.func80, Tryz.ntmps80
  go_wp2_with fail
  refine HT.out.mono ?_; rintro e w1 ⟨⟨a, c, rfl, hS⟩, hb⟩
  have HB := Lib.hid hb
  clear hb hS
  go_wp2_with fail
  exact ⟨rfl, HB.out, rfl⟩
end Go.Proofs.YteglaeopaocilaaGreatDoor.P
namespace Go.Proofs.YteglaeopaocilaaGreatDoor.P
open Go.RowKit
open L (Str Tok Tks toks At below_2 below_box ret_bool ret_int ret_string)
open A

/-- what is read from a source: a tree, or the line and the error -/
inductive Out (α : Type) where
  | ok (t : α)
  | no (l x : Int)
/-- behind a symbol: there is no token left, and the tree is checked -/
def after {α : Type} (XS : List L.T) (q : R α) (chk : α → Int) : Out α := match q with
  | .no r x => .no (lineAt XS (XS.length - r.length)) x
  | .ok t r => if r.length ≠ 0 then .no (lineAt XS (XS.length - r.length)) 5 else if chk t ≠ 0 then .no 0 (chk t) else .ok t
def outOf {α : Type} (s : ByteArray) (g : T → R α) (chk : α → Int) : Out α := if (L.tz s.data.toList).2.2 ≠ 0 then .no (L.tz s.data.toList).2.1 (L.tz s.data.toList).2.2 else after (xsOf s) (g (L.tz s.data.toList).1) chk
/-- the boxes of the results: a tree, a line, an error -/
structure Bx (z : Array Value) (t : TypeId) (B : Nat) (w wr : World) : Prop where
  below : Below B w wr
  tree : Bk wr B z t
  line : Bk wr (B + 1) #[.int .i64 0] 3
  err : Bk wr (B + 1 + 1) #[.int .i64 0] 29
def box3 (z : Array Value) (t : TypeId) (w : World) : World := ((w.alloc (.cells z t)).alloc (.cells #[.int .i64 0] 3)).alloc (.cells #[.int .i64 0] 29)
theorem box3_size (z : Array Value) (t : TypeId) (w : World) : (box3 z t w).heap.size = w.heap.size + 1 + 1 + 1 := by simp [box3]
theorem bx_start (z : Array Value) (t : TypeId) (w : World) : Bx z t w.heap.size w (box3 z t w) := by
  have h1 := below_box w (.cells z t)
  have h2 := below_box (w.alloc (.cells z t)) (.cells #[.int .i64 0] 3)
  have h3 := below_box ((w.alloc (.cells z t)).alloc (.cells #[.int .i64 0] 3)) (.cells #[.int .i64 0] 29)
  have s1 : (w.alloc (.cells z t)).heap.size = w.heap.size + 1 := by simp
  have s2 : ((w.alloc (.cells z t)).alloc (.cells #[.int .i64 0] 3)).heap.size = w.heap.size + 1 + 1 := by simp
  refine ⟨(h1.trans (h2.mono h1.size)).trans (h3.mono (Nat.le_trans h1.size h2.size)), ((Bk.new w _ _).below h2).below h3, ?_, ?_⟩
  · have := (Bk.new (w.alloc (.cells z t)) #[.int .i64 0] 3).below h3
    rwa [s1] at this
  · have := Bk.new ((w.alloc (.cells z t)).alloc (.cells #[.int .i64 0] 3)) #[.int .i64 0] 29
    rwa [s2] at this
theorem Bx.on {z : Array Value} {t : TypeId} {B : Nat} {w wr w' : World} (h : Bx z t B w wr) (hb : Below wr.heap.size wr w') : Bx z t B w w' :=
  ⟨h.below.trans (hb.mono (Nat.le_of_lt h.tree.lt)), h.tree.below hb, h.line.below hb, h.err.below hb⟩
theorem Bx.kp {z : Array Value} {t : TypeId} {B g : Nat} {w wr w' : World} (h : Bx z t B w wr) (hg : B + 1 + 1 < g) (hb : Kp wr.heap.size g wr w') : Bx z t B w w' :=
  ⟨h.below.trans ((hb.mono (Nat.le_of_lt h.tree.lt)).below (by omega)), Bk.kp h.tree (by omega) hb, Bk.kp h.line (by omega) hb, Bk.kp h.err (by omega) hb⟩
theorem Bx.left {z : Array Value} {t : TypeId} {B : Nat} {w wr w' : World} (h : Bx z t B w wr) (hf : Fr2 (B + 1) (B + 1 + 1) wr w') : Below B w w' ∧ Bk w' B z t :=
  ⟨h.below.trans ⟨hf.os, hf.tape, hf.output, hf.size, fun k hk => hf.block k (Nat.lt_trans hk h.tree.lt) (by omega) (by omega)⟩, (hf.block B h.tree.lt (by omega) (by omega)).trans h.tree⟩
/-- the results, stored into their boxes -/
def res4 (w : World) (B : Nat) (a b c d : Value) : World := ((wset w B a b c d).setCell ⟨B + 1, 0, none⟩ (.int .i64 0)).setCell ⟨B + 1 + 1, 0, none⟩ (.int .i64 0)
theorem bx_res4 {x y u v : Value} {t : TypeId} {B : Nat} {w wr : World} (h : Bx #[x, y, u, v] t B w wr) (a b c d : Value) : Bx #[a, b, c, d] t B w (res4 wr B a b c d) := by
  have h0 := (((h.tree.set 0 (u := a)).set 1 (u := b)).set 2 (u := c)).set 3 (u := d)
  have hL := (((h.line.apart (c := B) (i := 0) (u := a) (by omega)).apart (c := B) (i := 1) (u := b) (by omega)).apart (c := B) (i := 2) (u := c) (by omega)).apart (c := B) (i := 3) (u := d) (by omega)
  have hE := (((h.err.apart (c := B) (i := 0) (u := a) (by omega)).apart (c := B) (i := 1) (u := b) (by omega)).apart (c := B) (i := 2) (u := c) (by omega)).apart (c := B) (i := 3) (u := d) (by omega)
  have h1 : Bk (wset wr B a b c d) B #[a, b, c, d] t := by simpa [wset] using h0
  have h2 : Bk (wset wr B a b c d) (B + 1) #[.int .i64 0] 3 := hL
  have h3 : Bk (wset wr B a b c d) (B + 1 + 1) #[.int .i64 0] 29 := hE
  have hb := below_wset (a := a) (b := b) (c := c) (d := d) h.below (Nat.le_refl B)
  refine ⟨(hb.setCell (p := ⟨B + 1, 0, none⟩) (Nat.le_succ B) (.int .i64 0)).setCell (p := ⟨B + 1 + 1, 0, none⟩) (show B ≤ B + 1 + 1 by omega) (.int .i64 0), (h1.apart (by omega)).apart (by omega), ?_, ?_⟩
  · exact Bk.apart (by simpa using h2.set 0 (u := .int .i64 0)) (by omega)
  · exact (h3.apart (c := B + 1) (i := 0) (u := .int .i64 0) (by omega)).set 0 (u := .int .i64 0)
theorem kids_res4 {Z : Nat → Prop} {w : World} {B : Nat} {a b c d : Value} {p : Option Addr} {l : List Ex} (h0 : Z B) (h1 : Z (B + 1)) (h2 : Z (B + 1 + 1)) (h : KidsF Z w p l) : KidsF Z (res4 w B a b c d) p l := kidsZ_set h2 (kidsZ_set h1 (kidsZ_wset h0 h))
theorem ft_of {s : ByteArray} (h0 : (L.tz s.data.toList).2.2 = 0) : FT (L.tz s.data.toList).1 := by
  by_cases hs : 16384 < s.size
  · intro t ht
    unfold L.tz at ht
    rw [if_pos (by rw [← L.size_len]; exact hs)] at ht
    cases ht
  · have h : L.tz s.data.toList = ((L.tz s.data.toList).1, (L.tz s.data.toList).2.1, 0) := by rw [← h0]
    have h1 := L.tz_fine h
    rw [h1] at h
    have hz : L.tkz (L.nf s.data.toList) s.data.toList = ((L.tz s.data.toList).1, 0, 0) := by
      refine Eq.trans ?_ h
      unfold L.tz
      rw [if_neg (by rw [← L.size_len]; omega)]
    have G := L.tkz_good _ _ _ (Nat.le_refl _) _ hz
    intro t ht
    have hv : L.valid t = true := List.all_eq_true.1 G.val _ ht
    have hn := G.held _ ht
    exact ⟨Nat.le_trans (L.valid_len hv hn.2) (by decide), hn.1, hn.2⟩
/-- what is handed back for an expression -/
def GaveX (B : Nat) (o : Out Ex) (e : Ending) (w' : World) : Prop := match o with
  | .ok t => ∃ a c, e = .returned (.tuple #[exV t a c, .int .i64 0, .int .i64 0]) ∧ KidsF (fun j => j < B) w' a t.args
  | .no l x => e = .returned (.tuple #[(.agg #[.int .i64 0, .int .i64 0, .string ⟨#[]⟩, .slice none 0 0]), .int .i64 l, .int .i64 x])
set_option maxHeartbeats 4000000 in
set_option maxRecDepth 100000 in
theorem oparseX_any (s : ByteArray) (w : World) (ht : OTab w) :
    Calls Tryz.prog 43 #[.string s, .func (.func 44) #[] #[], .func (.func 26) #[] #[]] w fun e w' => Below w.heap.size w w' ∧ GaveX w.heap.size (outOf s (gX 1 0) (fun t => vE t 1)) e w' := by
  have hmf : ∀ (fn : Fn) (first cap : Array Value) (w : World), (Instr.makeFunc fn first cap).run Tryz.prog w = .ok (.func fn first cap) w := fun _ _ _ _ => rfl
  have hbx := bx_start #[.int .i64 0, .int .i64 0, .string ⟨#[]⟩, .slice none 0 0] 38 w
  by_cases h0 : (L.tz s.data.toList).2.2 = 0
  · have HFT := Lib.hid (ft_of h0)
    have HN := Lib.hid (onewParser_ok s h0 (box3 #[.int .i64 0, .int .i64 0, .string ⟨#[]⟩, .slice none 0 0] 38 w) (ht.below hbx.below))
    unfold outOf
    rw [if_neg (by rw [h0]; decide)]
    rw [← xs_dr s] at HFT ⊢
    have hXl := xs_len s
    generalize xsOf s = XS at *
    obtain ⟨q, hq⟩ : ∃ q, gX 1 0 (dr XS 0) = q := ⟨_, rfl⟩
    rw [hq]
    have hsf : Sf (dr XS 0) q := hq ▸ (gX_is (by decide)).2
    obtain ⟨O, hO⟩ : ∃ O, after XS q (fun t => vE t 1) = O := ⟨_, rfl⟩
    rw [hO]
    have HQ := Lib.hid hO
    have HOK : Hid (∀ t r, q = .ok t r → okE t) := fun t r h => gX_ok HFT.out (hq.trans h)
    have HX1 : Hid (∀ g w, Psr g XS 0 0 0 w → Calls Tryz.prog 44 #[ptr g] w fun e w' => PRdX g XS 0 0 w w' q e) := fun g w h => hq ▸ oor_all g XS 0 0 0 (by decide) w h
    have HX0 := Lib.hid hbx
    have hbs := box3_size #[.int .i64 0, .int .i64 0, .string ⟨#[]⟩, .slice none 0 0] 38 w
    clear h0 ht hbx hq hO HFT
    go_enter_defers Tryz.func43, Tryz.ntmps43
    go_wp2_with fail
    change Calls _ _ _ (box3 #[.int .i64 0, .int .i64 0, .string ⟨#[]⟩, .slice none 0 0] 38 w) _
    generalize box3 #[.int .i64 0, .int .i64 0, .string ⟨#[]⟩, .slice none 0 0] 38 w = W0 at *
    generalize hB0 : w.heap.size = B at *
    refine HN.out.mono ?_; rintro e w1 ⟨hb, g, rfl, hg, hP⟩
    have hgB : B + 1 + 1 < g := by omega
    have HBX1 := Lib.hid (HX0.out.on hb)
    have hgl := hP.lt
    have HC := Lib.hid (HX1.out g w1 hP)
    clear hb HN HX0 HX1 hP
    go_wp2_with fail
    refine HC.out.mono ?_; intro e w2 hm
    clear HC
    cases q with
    | no r x =>
      obtain ⟨j, hj, rfl⟩ := sf_no hsf
      obtain ⟨hb, he⟩ := PRd.no_dr hm hj
      have HBX := Lib.hid (HBX1.out.kp hgB hb)
      unfold fails at he
      have hO : O = .no (lineAt XS j) x := by rw [← HQ.out]; unfold after; simp only [len_dr hj]
      have HQ2 := Lib.hid hO
      generalize lineAt XS j = ln at he HQ2
      subst he
      clear hb hm HBX1 hsf HOK HQ hO
      go_wp2_with fail
      refine leaves_cons (f := 87) (args := #[ptr (B + 1), ptr (B + 1 + 1)]) (by simp) (by simp [go_sem]) ?_
      refine (catch_expr (B + 1) (B + 1 + 1) _ _ _ 3 29 0 0 HBX.out.line HBX.out.err (by omega)).mono ?_
      rintro e u' w9 ⟨rfl, rfl, h1, h2, h3⟩
      obtain ⟨h4, h5⟩ := HBX.out.left h3
      have t0 : w9.cell? ⟨B, 0, none⟩ = some _ := h5.cell 0
      have t1 : w9.cell? ⟨B, 1, none⟩ = some _ := h5.cell 1
      have t2 : w9.cell? ⟨B, 2, none⟩ = some _ := h5.cell 2
      have t3 : w9.cell? ⟨B, 3, none⟩ = some _ := h5.cell 3
      have l0 : w9.cell? ⟨B + 1, 0, none⟩ = some _ := h1.cell 0
      have e0 : w9.cell? ⟨B + 1 + 1, 0, none⟩ = some _ := h2.cell 0
      subst hB0
      rw [HQ2.out]
      simp [Leaves, settle, modeA, results, Tryz.results43, go_sem, t0, t1, t2, t3, l0, e0, h4, GaveX]
    | ok t r =>
      obtain ⟨j, hj0, hj, rfl⟩ := sf_ok hsf
      obtain ⟨hb, v, rfl, hP, a, c, rfl, hK⟩ := PRd.ok_dr hm hj
      have HBX2 := Lib.hid (HBX1.out.kp hgB hb)
      have hbsz := hb.size
      have HP2 := Lib.hid hP
      have HK2 := Lib.hid hK
      have HO := Lib.hid (HOK.out _ _ rfl)
      clear hb hm HBX1 hsf HOK hP hK
      unfold exV
      go_wp2_with fail
      change Calls _ _ _ (w2.alloc (exO t a c)) _
      have hx := below_box w2 (exO t a c)
      have HX : Hid (Bk (w2.alloc (exO t a c)) w2.heap.size #[.int .i64 t.op, .int .i64 t.n, .string t.s, .slice a t.args.length c] 38) := Bk.new w2 _ _
      have HBX3 := Lib.hid (HBX2.out.on hx)
      have HP3 := Lib.hid (HP2.out.below hx)
      have HK3 := Lib.hid (kids_more HK2.out hx)
      have hw12 : w1.heap.size ≤ w2.heap.size := hbsz
      clear HBX2 HP2 HK2 hx
      generalize w2.alloc (exO t a c) = W3 at *
      generalize w2.heap.size = X at *
      have HE := oend_any g XS j 0 0 W3 HP3.out
      by_cases hend : j = XS.length
      · simp only [if_pos hend] at HE
        have HQ1 : Hid (O = if vE t 1 ≠ 0 then .no 0 (vE t 1) else .ok t) := by
          show O = _
          rw [← HQ.out]
          unfold after
          simp only [len_dr hj]
          rw [if_neg (by rw [dr_len]; omega)]
        clear HQ hend
        refine HE.mono ?_; rintro e w4 ⟨hb, rfl⟩
        have HBX4 := Lib.hid (HBX3.out.kp hgB hb)
        have HK4 := Lib.hid (kidsK HK3.out hgl hb)
        have HX4 := Lib.hid (Bk.kp HX.out (show X ≠ g by omega) hb)
        obtain ⟨x0, x1, x2, x3⟩ := cells4 HX4.out
        have HV := Lib.hid (ovalidExpr_any t a c HO.out w4 HK4.out.now)
        clear HE hb HBX3 HK3 HX HP3 hj hj0
        go_wp2_with fail
        change Calls _ _ #[exV t a c] _ _
        refine HV.out.mono ?_; rintro e w5 ⟨rfl, hb⟩
        have HBX := Lib.hid (HBX4.out.on hb)
        have HK5 := Lib.hid (kids_more HK4.out hb)
        have HX5 := Lib.hid (HX4.out.below hb)
        clear x0 x1 x2 x3 HV hb HBX4 HK4 HX4
        obtain ⟨x0, x1, x2, x3⟩ := cells4 HX5.out
        generalize hvv : vE t 1 = vv at *
        by_cases hv : vv = 0
        · subst hv
          have HQ2 : Hid (O = .ok t) := by show O = _; rw [HQ1.out, if_neg (by simp)]
          clear HQ1 hvv
          obtain ⟨f0, f1, f2, f3⟩ := free4 HBX.out.tree
          obtain ⟨r0, r1, r2, r3⟩ := cells4 HBX.out.tree
          have l0 := HBX.out.line.cell 0
          have lf := HBX.out.line.free 0
          have e0 := HBX.out.err.cell 0
          have ef := HBX.out.err.free 0
          go_wp2_with fail
          have hwB : B + 1 + 1 < w1.heap.size := by omega
          have HK6 := Lib.hid (kids_res4 (Z := fun j => j < w1.heap.size) (a := .int .i64 t.op) (b := .int .i64 t.n) (c := .string t.s) (d := .slice a t.args.length c) (show B < w1.heap.size by omega) (show B + 1 < w1.heap.size by omega) hwB HK5.out)
          have HBX6 := Lib.hid (bx_res4 HBX.out (.int .i64 t.op) (.int .i64 t.n) (.string t.s) (.slice a t.args.length c))
          change bodyPostD _ _ _ _ _ (res4 w5 B (.int .i64 t.op) (.int .i64 t.n) (.string t.s) (.slice a t.args.length c))
          generalize res4 w5 B (.int .i64 t.op) (.int .i64 t.n) (.string t.s) (.slice a t.args.length c) = W6 at *
          refine leaves_cons (f := 87) (args := #[ptr (B + 1), ptr (B + 1 + 1)]) (by simp) (by simp [go_sem]) ?_
          refine (idle_expr (B + 1) (B + 1 + 1) W6).mono ?_
          rintro e u' w9 ⟨rfl, rfl, hb9⟩
          have hBX9 := HBX6.out.on hb9
          have t0 : w9.cell? ⟨B, 0, none⟩ = some _ := hBX9.tree.cell 0
          have t1 : w9.cell? ⟨B, 1, none⟩ = some _ := hBX9.tree.cell 1
          have t2 : w9.cell? ⟨B, 2, none⟩ = some _ := hBX9.tree.cell 2
          have t3 : w9.cell? ⟨B, 3, none⟩ = some _ := hBX9.tree.cell 3
          have l9 : w9.cell? ⟨B + 1, 0, none⟩ = some _ := hBX9.line.cell 0
          have e9 : w9.cell? ⟨B + 1 + 1, 0, none⟩ = some _ := hBX9.err.cell 0
          have hK9 := kids_less (kids_more HK6.out hb9) (show w.heap.size ≤ w1.heap.size by omega)
          have h4 := hBX9.below
          subst hB0
          rw [HQ2.out]
          simp [Leaves, settle, results, Tryz.results43, go_sem, t0, t1, t2, t3, l9, e9, h4, GaveX, exV, hK9]
        · have HQ2 : Hid (O = .no 0 vv) := by show O = _; rw [HQ1.out, if_pos hv]
          clear HQ1 hvv
          go_wp2_with fail
          refine leaves_cons (f := 87) (args := #[ptr (B + 1), ptr (B + 1 + 1)]) (by simp) (by simp [go_sem]) ?_
          refine (catch_expr (B + 1) (B + 1 + 1) _ _ _ 3 29 0 0 HBX.out.line HBX.out.err (by omega)).mono ?_
          rintro e u' w9 ⟨rfl, rfl, h1, h2, h3⟩
          obtain ⟨h4, h5⟩ := HBX.out.left h3
          have t0 : w9.cell? ⟨B, 0, none⟩ = some _ := h5.cell 0
          have t1 : w9.cell? ⟨B, 1, none⟩ = some _ := h5.cell 1
          have t2 : w9.cell? ⟨B, 2, none⟩ = some _ := h5.cell 2
          have t3 : w9.cell? ⟨B, 3, none⟩ = some _ := h5.cell 3
          have l0 : w9.cell? ⟨B + 1, 0, none⟩ = some _ := h1.cell 0
          have e0 : w9.cell? ⟨B + 1 + 1, 0, none⟩ = some _ := h2.cell 0
          subst hB0
          rw [HQ2.out]
          simp [Leaves, settle, modeA, results, Tryz.results43, go_sem, t0, t1, t2, t3, l0, e0, h4, GaveX]
      · simp only [if_neg hend] at HE
        have HQ2 : Hid (O = .no (lineAt XS j) 5) := by
          show O = _
          rw [← HQ.out]
          unfold after
          simp only [len_dr hj]
          rw [if_pos (by rw [dr_len]; omega)]
        clear HQ
        refine HE.mono ?_; rintro e w4 ⟨hb, he⟩
        unfold fails at he
        have HBX := Lib.hid (HBX3.out.kp hgB hb)
        generalize lineAt XS j = ln at he HQ2
        subst he
        clear hb HE HBX3 HP3 HK3 HX
        go_wp2_with fail
        refine leaves_cons (f := 87) (args := #[ptr (B + 1), ptr (B + 1 + 1)]) (by simp) (by simp [go_sem]) ?_
        refine (catch_expr (B + 1) (B + 1 + 1) _ _ _ 3 29 0 0 HBX.out.line HBX.out.err (by omega)).mono ?_
        rintro e u' w9 ⟨rfl, rfl, h1, h2, h3⟩
        obtain ⟨h4, h5⟩ := HBX.out.left h3
        have t0 : w9.cell? ⟨B, 0, none⟩ = some _ := h5.cell 0
        have t1 : w9.cell? ⟨B, 1, none⟩ = some _ := h5.cell 1
        have t2 : w9.cell? ⟨B, 2, none⟩ = some _ := h5.cell 2
        have t3 : w9.cell? ⟨B, 3, none⟩ = some _ := h5.cell 3
        have l0 : w9.cell? ⟨B + 1, 0, none⟩ = some _ := h1.cell 0
        have e0 : w9.cell? ⟨B + 1 + 1, 0, none⟩ = some _ := h2.cell 0
        subst hB0
        rw [HQ2.out]
        simp [Leaves, settle, modeA, results, Tryz.results43, go_sem, t0, t1, t2, t3, l0, e0, h4, GaveX]
  · unfold outOf
    rw [if_pos h0]
    have HN := Lib.hid (onewParser_no s h0 (box3 #[.int .i64 0, .int .i64 0, .string ⟨#[]⟩, .slice none 0 0] 38 w))
    generalize (L.tz s.data.toList).2.1 = ln at HN ⊢
    generalize (L.tz s.data.toList).2.2 = y at HN ⊢
    have HX0 := Lib.hid hbx
    have hbs := box3_size #[.int .i64 0, .int .i64 0, .string ⟨#[]⟩, .slice none 0 0] 38 w
    clear h0 ht hbx
    go_enter_defers Tryz.func43, Tryz.ntmps43
    go_wp2_with fail
    change Calls _ _ _ (box3 #[.int .i64 0, .int .i64 0, .string ⟨#[]⟩, .slice none 0 0] 38 w) _
    generalize box3 #[.int .i64 0, .int .i64 0, .string ⟨#[]⟩, .slice none 0 0] 38 w = W0 at *
    generalize hB0 : w.heap.size = B at *
    refine HN.out.mono ?_; rintro e w1 ⟨hb, he⟩
    unfold failE at he
    subst he
    have HBX := Lib.hid (HX0.out.on hb)
    clear hb HN HX0
    go_wp2_with fail
    refine leaves_cons (f := 87) (args := #[ptr (B + 1), ptr (B + 1 + 1)]) (by simp) (by simp [go_sem]) ?_
    refine (catch_expr (B + 1) (B + 1 + 1) _ _ _ 3 29 0 0 HBX.out.line HBX.out.err (by omega)).mono ?_
    rintro e u' w9 ⟨rfl, rfl, h1, h2, h3⟩
    obtain ⟨h4, h5⟩ := HBX.out.left h3
    have t0 : w9.cell? ⟨B, 0, none⟩ = some _ := h5.cell 0
    have t1 : w9.cell? ⟨B, 1, none⟩ = some _ := h5.cell 1
    have t2 : w9.cell? ⟨B, 2, none⟩ = some _ := h5.cell 2
    have t3 : w9.cell? ⟨B, 3, none⟩ = some _ := h5.cell 3
    have l0 : w9.cell? ⟨B + 1, 0, none⟩ = some _ := h1.cell 0
    have e0 : w9.cell? ⟨B + 1 + 1, 0, none⟩ = some _ := h2.cell 0
    subst hB0
    simp [Leaves, settle, modeA, results, Tryz.results43, go_sem, t0, t1, t2, t3, l0, e0, h4, GaveX]
end Go.Proofs.YteglaeopaocilaaGreatDoor.P
namespace Go.Proofs.YteglaeopaocilaaGreatDoor.P
open L (Str Tok)
open A

/-- tokens that fit memory, and not too many of them -/
def FS (l : T) : Prop := FT l ∧ l.length ≤ 20000
theorem FS.sf {l r : T} (h : FS l) (hs : r <:+ l) : FS r := ⟨h.1.sf hs, Nat.le_trans hs.length_le h.2⟩
theorem FS.tl {l : T} (h : FS l) : FS l.tail := h.sf (tail_sf l)
theorem nm1_ok {l : T} {nm : ByteArray} (h : FT l) (hn : nm1 l = some nm) : nm.size ≤ 1000 := by
  cases l with
  | nil => cases hn
  | cons t r =>
    have ht := h t (List.mem_cons_self ..)
    unfold nm1 at hn
    simp only at hn
    split at hn
    · cases hn
      show t.t.toArray.size ≤ _
      simp; omega
    · cases hn
theorem int1_ok {l : T} {m : Int} (h : FT l) (hn : int1 l = some m) : -9223372036854775808 ≤ m ∧ m ≤ 9223372036854775807 := by
  cases l with
  | nil => cases hn
  | cons t r =>
    have ht := h t (List.mem_cons_self ..)
    unfold int1 at hn
    simp only at hn
    split at hn
    · cases hn
      exact ht.2
    · cases hn
theorem st_bd27 (l : T) : 0 ≤ stOp l ∧ stOp l ≤ 27 := findW_bd stW (by decide) l
theorem okB_app : ∀ {l : List St} {s : St}, okB l → okS s → okB (l ++ [s])
  | [], s, _, h => by rw [List.nil_append, okB]; exact ⟨h, by rw [okB]; trivial⟩
  | e :: l, s, h, hs => by
    rw [okB] at h
    rw [List.cons_append, okB]
    exact ⟨h.1, okB_app h.2 hs⟩
theorem okB_nil : okB [] := by rw [okB]; trivial
theorem noE_ok : okE noE := by
  unfold noE
  rw [okE]
  exact ⟨⟨by decide, by decide⟩, ⟨by decide, by decide⟩, by decide, by decide, by rw [okEs]; trivial⟩
theorem mk_ok {o m : Int} {nm : ByteArray} {a b : Ex} {bd el : List St} (ho : 0 ≤ o ∧ o ≤ 27) (hn : nm.size ≤ 1000) (hm : -9223372036854775808 ≤ m ∧ m ≤ 9223372036854775807) (ha : okE a) (hb : okE b) (h1 : bd.length ≤ 20000) (h2 : okB bd) (h3 : el.length ≤ 20000) (h4 : okB el) : okS (.mk o nm m a b bd el) := by
  rw [okS]
  exact ⟨⟨by omega, by omega⟩, by omega, hm, ha, hb, by omega, h2, by omega, h4⟩
theorem tl2 {l r : T} (h : r <:+ l.tail) : r <:+ l := h.trans (tail_sf l)
theorem px1 {f : Nat} {l r : T} {e : Ex} (h : FS l) (hx : pX f 1 0 l = .ok e r) : r <:+ l ∧ okE e := (px_ok f).1 1 0 l e r h.1 hx
theorem zz : -9223372036854775808 ≤ (0 : Int) ∧ (0 : Int) ≤ 9223372036854775807 := ⟨by decide, by decide⟩
/-- statements -/
theorem ps_ok : ∀ f : Nat, (∀ d l s r, FS l → pS f d l = .ok s r → (r <:+ l ∧ r.length < l.length) ∧ okS s) ∧
    (∀ d o nm l s r, (0 ≤ o ∧ o ≤ 27) → nm.size ≤ 1000 → FS l → pE f d o nm l = .ok s r → r <:+ l ∧ okS s) ∧
    (∀ d o nm a b l s r, (0 ≤ o ∧ o ≤ 27) → nm.size ≤ 1000 → okE a → okE b → FS l → pN f d o nm a b l = .ok s r → r <:+ l ∧ okS s) ∧
    (∀ d o nm a b l s r, (0 ≤ o ∧ o ≤ 27) → nm.size ≤ 1000 → okE a → okE b → FS l → pT f d o nm a b l = .ok s r → r <:+ l ∧ okS s) ∧
    (∀ d l b r, FS l → pB f d l = .ok b r → r <:+ l ∧ okB b ∧ b.length ≤ 20000) ∧
    (∀ d acc l b r, FS l → acc.length + l.length ≤ 20000 → okB acc → pK f d acc l = .ok b r → r <:+ l ∧ okB b ∧ b.length ≤ 20000) := by
  intro f
  induction f with
  | zero =>
    refine ⟨fun d l s r _ h => ?_, fun d o nm l s r _ _ _ h => ?_, fun d o nm a b l s r _ _ _ _ _ h => ?_, fun d o nm a b l s r _ _ _ _ _ h => ?_, fun d l b r _ h => ?_, fun d acc l b r _ _ _ h => ?_⟩
    · rw [pS] at h; cases h
    · rw [pE] at h; cases h
    · rw [pN] at h; cases h
    · rw [pT] at h; cases h
    · rw [pB] at h; cases h
    · rw [pK] at h; cases h
  | succ f ih =>
    obtain ⟨iS, iE, iN, iT, iB, iK⟩ := ih
    refine ⟨fun d l s r hl h => ?_, fun d o nm l s r ho hn hl h => ?_, fun d o nm a b l s r ho hn ha hb hl h => ?_, fun d o nm a b l s r ho hn ha hb hl h => ?_, fun d l b r hl h => ?_, fun d acc l b r hl hc hac h => ?_⟩
    · rw [pS] at h
      have key : ∀ {r : T}, l ≠ [] → r <:+ l.tail → r <:+ l ∧ r.length < l.length := fun hne hs => ⟨tl2 hs, Nat.lt_of_le_of_lt hs.length_le (tail_lt hne)⟩
      split at h
      · cases h1 : nm1 l with
        | none => rw [h1] at h; cases h
        | some nm =>
          rw [h1] at h
          simp only at h
          split at h
          · have h2 := iE d 2 nm _ s r ⟨by decide, by decide⟩ (nm1_ok hl.1 h1) hl.tl.tl h
            exact ⟨key (nm1_ne h1) (tl2 h2.1), h2.2⟩
          · cases h
      · rename_i h0
        split at h
        · cases h1 : nm1 l.tail with
          | none => rw [h1] at h; cases h
          | some nm =>
            rw [h1] at h
            simp only at h
            split at h
            · have h2 := iE d _ nm _ s r (st_bd27 l) (nm1_ok hl.tl.1 h1) hl.tl.tl.tl h
              exact ⟨key (st_ne h0) (tl2 (tl2 h2.1)), h2.2⟩
            · cases h
        · have h2 := iE d _ none8 _ s r (st_bd27 l) (by decide) hl.tl h
          exact ⟨key (st_ne h0) h2.1, h2.2⟩
    · rw [pE] at h
      split at h
      · exact iN d o nm noE noE l s r ho hn noE_ok noE_ok hl h
      · cases hx : pX f 1 0 l with
        | no r2 x => rw [hx] at h; cases h
        | ok a r2 =>
          rw [hx] at h
          have h1 := px1 hl hx
          simp only at h
          split at h
          · by_cases hw : isW r2 (if o = 6 then kTo else [61]) = true
            · rw [if_pos hw] at h
              cases hy : pX f 1 0 r2.tail with
              | no r3 x => rw [hy] at h; cases h
              | ok b r3 =>
                rw [hy] at h
                have h2 := px1 (hl.sf h1.1).tl hy
                have h3 := iT d o nm a b r3 s r ho hn h1.2 h2.2 ((hl.sf h1.1).tl.sf h2.1) h
                exact ⟨(h3.1.trans (tl2 h2.1)).trans h1.1, h3.2⟩
            · rw [if_neg hw] at h; cases h
          · have h3 := iT d o nm a noE r2 s r ho hn h1.2 noE_ok (hl.sf h1.1) h
            exact ⟨h3.1.trans h1.1, h3.2⟩
    · rw [pN] at h
      cases h1 : int1 l with
      | none => rw [h1] at h; cases h
      | some m =>
        rw [h1] at h
        have hm := int1_ok hl.1 h1
        simp only at h
        split at h
        · split at h
          · cases h
            exact ⟨tl2 (tail_sf _), mk_ok ho hn hm ha hb (by simp) okB_nil (by simp) okB_nil⟩
          · cases h
        · cases hy : pB f (d + 1) l.tail with
          | no r3 x => rw [hy] at h; cases h
          | ok bd r3 =>
            rw [hy] at h
            have h2 := iB _ _ _ _ hl.tl hy
            cases h
            exact ⟨tl2 h2.1, mk_ok ho hn hm ha hb h2.2.2 h2.2.1 (by simp) okB_nil⟩
    · rw [pT] at h
      split at h
      · split at h
        · have h2 := iN d o nm a b _ s r ho hn ha hb hl.tl h
          exact ⟨tl2 h2.1, h2.2⟩
        · cases h
      · split at h
        · cases hy : pB f (d + 1) l with
          | no r3 x => rw [hy] at h; cases h
          | ok bd r3 =>
            rw [hy] at h
            have h2 := iB _ _ _ _ hl hy
            simp only at h
            split at h
            · cases hz : pB f (d + 1) r3.tail with
              | no r4 x => rw [hz] at h; cases h
              | ok el r4 =>
                rw [hz] at h
                have h3 := iB _ _ _ _ (hl.sf h2.1).tl hz
                cases h
                exact ⟨(tl2 h3.1).trans h2.1, mk_ok ho hn zz ha hb h2.2.2 h2.2.1 h3.2.2 h3.2.1⟩
            · cases h
              exact ⟨h2.1, mk_ok ho hn zz ha hb h2.2.2 h2.2.1 (by simp) okB_nil⟩
        · split at h
          · cases h
            exact ⟨tail_sf l, mk_ok ho hn zz ha hb (by simp) okB_nil (by simp) okB_nil⟩
          · cases h
    · rw [pB] at h
      split at h
      · split at h
        · cases h
        · have h2 := iK d [] l.tail b r hl.tl (by have := hl.tl.2; simpa using this) okB_nil h
          exact ⟨tl2 h2.1, h2.2⟩
      · cases h
    · rw [pK] at h
      split at h
      · cases h
        exact ⟨tail_sf l, hac, by omega⟩
      · cases hy : pS f d l with
        | no r3 x => rw [hy] at h; cases h
        | ok s r3 =>
          rw [hy] at h
          have h2 := iS d l s r3 hl hy
          have h3 := iK d _ r3 b r (hl.sf h2.1.1) (by rw [List.length_append]; have := h2.1.2; simp; omega) (okB_app hac h2.2) h
          exact ⟨h3.1.trans h2.1.1, h3.2⟩
theorem gB_ok {l r : T} {b : List St} (hl : FS l) (h : gB 0 l = .ok b r) : r <:+ l ∧ okB b ∧ b.length ≤ 20000 := by
  obtain ⟨F, hF⟩ := (gB_is 0 l).1
  exact (ps_ok F).2.2.2.2.1 0 l b r hl ((hF F (Nat.le_refl _)).trans h)
/-- parameters -/
theorem pps_ok : ∀ f acc l q r, FS l → acc.length + l.length ≤ 20000 → (∀ p ∈ acc, (p : Pm).name.size ≤ 1000) → pPs f acc l = .ok q r → r <:+ l ∧ q.length ≤ 20000 ∧ ∀ p ∈ q, p.name.size ≤ 1000
  | 0, acc, l, q, r, _, _, _, h => by rw [pPs] at h; cases h
  | f + 1, acc, l, q, r, hl, hc, hac, h => by
    rw [pPs] at h
    cases h1 : nm1 l with
    | none => rw [h1] at h; cases h
    | some nm =>
      rw [h1] at h
      have hn := nm1_ok hl.1 h1
      have hlt := tail_lt (nm1_ne h1)
      have hac2 : ∀ ty, ∀ p ∈ acc ++ [(⟨nm, ty⟩ : Pm)], p.name.size ≤ 1000 := fun ty p hp => by
        rcases List.mem_append.1 hp with hp | hp
        · exact hac p hp
        · rw [List.mem_singleton.1 hp]; exact hn
      have h4 : l.tail.tail.tail.tail.length ≤ l.tail.length := ((tail_sf _).trans ((tail_sf _).trans (tail_sf _))).length_le
      simp only at h
      split at h
      · split at h
        · cases h
        · split at h
          · cases h
            exact ⟨tl2 (tl2 (tl2 (tail_sf _))), by rw [List.length_append]; simp; omega, hac2 _⟩
          · split at h
            · have h2 := pps_ok f _ _ q r hl.tl.tl.tl.tl (by rw [List.length_append]; simp only [List.length_cons, List.length_nil]; omega) (hac2 _) h
              exact ⟨h2.1.trans (tl2 (tl2 (tl2 (tail_sf _)))), h2.2⟩
            · cases h
      · cases h
theorem gQ_ok {l r : T} {q : List Pm} (hl : FS l) (h : gQ l = .ok q r) : r <:+ l ∧ q.length ≤ 20000 ∧ ∀ p ∈ q, p.name.size ≤ 1000 := by
  unfold gQ at h
  split at h
  · cases h
    exact ⟨tail_sf l, by simp, fun p hp => by cases hp⟩
  · obtain ⟨F, hF⟩ := (gPs_is [] l).1
    exact pps_ok F [] l q r hl (by have := hl.2; simpa using this) (fun p hp => by cases hp) ((hF F (Nat.le_refl _)).trans h)
theorem cut_ok {m : Int} (h : -9223372036854775808 ≤ m ∧ m ≤ 9223372036854775807) : -9223372036854775808 ≤ cut m ∧ cut m ≤ 9223372036854775807 := by
  unfold cut
  omega
mutual
/-- what is clipped fits as well -/
theorem okS_clip : ∀ s : St, okS s → okS (clipS s)
  | .mk o nm mx a b bd el, h => by
    rw [okS] at h
    rw [clipS, okS, clipB_len, clipB_len]
    obtain ⟨h0, h1, h2, h3, h4, h5, h6, h7, h8⟩ := h
    exact ⟨h0, h1, cut_ok h2, h3, h4, h5, okB_clip bd h6, h7, okB_clip el h8⟩
theorem okB_clip : ∀ l : List St, okB l → okB (clipB l)
  | [], _ => by rw [clipB, okB]; trivial
  | s :: r, h => by
    rw [okB] at h
    rw [clipB, okB]
    exact ⟨okS_clip s h.1, okB_clip r h.2⟩
end
theorem okP_clip {p : Pr} (h : OkP p) : OkP (clipP p) := ⟨h.name, h.params, h.each, by show (clipB p.body).length ≤ _; rw [clipB_len]; exact h.bodyLen, okB_clip _ h.body⟩
theorem gP_ok {l r : T} {p : Pr} (hl : FS l) (h : gP l = .ok p r) : OkP p := by
  unfold gP at h
  split at h
  · cases h1 : nm1 l.tail with
    | none => rw [h1] at h; cases h
    | some nm =>
      rw [h1] at h
      simp only at h
      split at h
      · revert h
        cases hq : gQ l.tail.tail.tail with
        | no r2 x => intro h; cases h
        | ok ps r2 =>
          intro h
          have h2 := gQ_ok hl.tl.tl.tl hq
          simp only [R.to] at h
          revert h
          cases hb : gB 0 r2 with
          | no r3 x => intro h; cases h
          | ok b r3 =>
            intro h
            have h3 := gB_ok (hl.tl.tl.tl.sf h2.1) hb
            cases h
            exact ⟨Nat.le_trans (nm1_ok hl.tl.1 h1) (by decide), Nat.le_trans h2.2.1 (by decide), fun j hj => Nat.le_trans (h2.2.2 _ (List.getElem_mem hj)) (by decide), Nat.le_trans h3.2.2 (by decide), h3.2.1⟩
      · cases h
  · cases h
theorem gG_ok : ∀ (f : Nat) (acc : List Pr) (l r : T) (q : List Pr), FS l → acc.length + l.length ≤ 20000 → (∀ p ∈ acc, OkP p) → gG f acc l = .ok q r → (∀ p ∈ q, OkP p) ∧ q.length ≤ 20000
  | 0, acc, l, r, q, _, hc, ha, h => by rw [gG] at h; cases h; exact ⟨ha, by omega⟩
  | f + 1, acc, l, r, q, hl, hc, ha, h => by
    rw [gG] at h
    split at h
    · have hsf := gP_sf l
      revert h
      cases hp : gP l with
      | no r2 x => intro h; cases h
      | ok p r2 =>
        intro h
        rw [hp] at hsf
        have h3 : r2.length < l.length := hsf.2
        refine gG_ok f (acc ++ [p]) r2 r q (hl.sf hsf.1) (by rw [List.length_append]; simp only [List.length_cons, List.length_nil]; omega) (fun p2 hp2 => ?_) h
        rcases List.mem_append.1 hp2 with h4 | h4
        · exact ha p2 h4
        · rw [List.mem_singleton.1 h4]; exact gP_ok hl hp
    · cases h; exact ⟨ha, by omega⟩
theorem gR_ok {l r : T} {q : List Pr} (hl : FS l) (h : gR [] l = .ok q r) : (∀ p ∈ q, OkP p) ∧ q.length ≤ 20000 := gG_ok _ [] l r q hl (by have := hl.2; simpa using this) (fun p hp => by cases hp) h
end Go.Proofs.YteglaeopaocilaaGreatDoor.P
namespace Go.Proofs.YteglaeopaocilaaGreatDoor.P
open Go.RowKit
open L (Str Tok Tks toks At below_2 below_box ret_bool ret_int ret_string)
open A

theorem pms_more {w w' : World} {n : Nat} {p : Option Addr} {l : List Pm} (h : PmsF (fun j => j < n) w p l) (hb : Below w.heap.size w w') : PmsF (fun j => j < n) w' p l := h.next ⟨fun j hj _ => hb.block j hj, fun _ hj => Or.inl hj⟩
theorem pms_less {w : World} {m n : Nat} {p : Option Addr} {l : List Pm} (h : PmsF (fun j => j < n) w p l) (hm : m ≤ n) : PmsF (fun j => j < m) w p l := h.next ⟨fun _ _ _ => rfl, fun _ hj => Or.inl (Nat.lt_of_lt_of_le hj hm)⟩
theorem pmsK {w w' : World} {n g : Nat} {p : Option Addr} {l : List Pm} (h : PmsF (fun j => j < n) w p l) (hg : g < n) (hb : Kp w.heap.size g w w') : PmsF (fun j => j < n) w' p l :=
  h.next ⟨fun j hj hz => hb.block j hj (fun e => hz (by rw [e]; exact hg)), fun _ hj => Or.inl hj⟩
theorem pmsZ_set {Z : Nat → Prop} {w : World} {b i : Nat} {u : Value} {p : Option Addr} {l : List Pm} (hb : Z b) (h : PmsF Z w p l) : PmsF Z (w.setCell ⟨b, i, none⟩ u) p l :=
  h.next ⟨fun j _ hz => Below.heap_setCell _ _ _ _ (by intro (e : j = b); exact hz (e ▸ hb)), fun _ hj => Or.inl hj⟩
theorem bodiesY_set {Z : Nat → Prop} {w : World} {b i : Nat} {u : Value} {p : Option Addr} {l : List St} (hb : Z b) (h : BodiesF Z w p l) : BodiesF Z (w.setCell ⟨b, i, none⟩ u) p l :=
  h.next ⟨fun j _ hz => Below.heap_setCell _ _ _ _ (by intro (e : j = b); exact hz (e ▸ hb)), fun _ hj => Or.inl hj⟩
/-- the results, stored into their boxes -/
def res3 (w : World) (B : Nat) (a b c : Value) : World := ((((w.setCell ⟨B, 0, none⟩ a).setCell ⟨B, 1, none⟩ b).setCell ⟨B, 2, none⟩ c).setCell ⟨B + 1, 0, none⟩ (.int .i64 0)).setCell ⟨B + 1 + 1, 0, none⟩ (.int .i64 0)
theorem bx_res3 {x y u : Value} {t : TypeId} {B : Nat} {w wr : World} (h : Bx #[x, y, u] t B w wr) (a b c : Value) : Bx #[a, b, c] t B w (res3 wr B a b c) := by
  have h0 := ((h.tree.set 0 (u := a)).set 1 (u := b)).set 2 (u := c)
  have h2 := ((h.line.apart (c := B) (i := 0) (u := a) (by omega)).apart (c := B) (i := 1) (u := b) (by omega)).apart (c := B) (i := 2) (u := c) (by omega)
  have h3 := ((h.err.apart (c := B) (i := 0) (u := a) (by omega)).apart (c := B) (i := 1) (u := b) (by omega)).apart (c := B) (i := 2) (u := c) (by omega)
  have h1 : Bk (((wr.setCell ⟨B, 0, none⟩ a).setCell ⟨B, 1, none⟩ b).setCell ⟨B, 2, none⟩ c) B #[a, b, c] t := by simpa using h0
  have hb := ((h.below.setCell (p := ⟨B, 0, none⟩) (Nat.le_refl B) a).setCell (p := ⟨B, 1, none⟩) (Nat.le_refl B) b).setCell (p := ⟨B, 2, none⟩) (Nat.le_refl B) c
  refine ⟨(hb.setCell (p := ⟨B + 1, 0, none⟩) (Nat.le_succ B) (.int .i64 0)).setCell (p := ⟨B + 1 + 1, 0, none⟩) (show B ≤ B + 1 + 1 by omega) (.int .i64 0), (h1.apart (by omega)).apart (by omega), ?_, ?_⟩
  · exact Bk.apart (by simpa using h2.set 0 (u := .int .i64 0)) (by omega)
  · exact (h3.apart (c := B + 1) (i := 0) (u := .int .i64 0) (by omega)).set 0 (u := .int .i64 0)
theorem pms_res3 {Z : Nat → Prop} {w : World} {B : Nat} {a b c : Value} {p : Option Addr} {l : List Pm} (h0 : Z B) (h1 : Z (B + 1)) (h2 : Z (B + 1 + 1)) (h : PmsF Z w p l) : PmsF Z (res3 w B a b c) p l := pmsZ_set h2 (pmsZ_set h1 (pmsZ_set h0 (pmsZ_set h0 (pmsZ_set h0 h))))
theorem bodies_res3 {Z : Nat → Prop} {w : World} {B : Nat} {a b c : Value} {p : Option Addr} {l : List St} (h0 : Z B) (h1 : Z (B + 1)) (h2 : Z (B + 1 + 1)) (h : BodiesF Z w p l) : BodiesF Z (res3 w B a b c) p l := bodiesY_set h2 (bodiesY_set h1 (bodiesY_set h0 (bodiesY_set h0 (bodiesY_set h0 h))))
/-- what is handed back for a procedure -/
def GaveP (B : Nat) (o : Out Pr) (e : Ending) (w' : World) : Prop := match o with
  | .ok t => ∃ a1 c1 a2 c2, e = .returned (.tuple #[prV t a1 c1 a2 c2, .int .i64 0, .int .i64 0]) ∧ t.params.length ≤ c1 ∧ PmsF (fun j => j < B) w' a1 t.params ∧ BodiesF (fun j => j < B) w' a2 t.body
  | .no l x => e = .returned (.tuple #[(.agg #[.string ⟨#[]⟩, .slice none 0 0, .slice none 0 0]), .int .i64 l, .int .i64 x])
set_option maxHeartbeats 4000000 in
set_option maxRecDepth 100000 in
theorem oparseP_any (s : ByteArray) (w : World) (ht : OTab w) :
    Calls Tryz.prog 38 #[.string s, .func (.func 39) #[] #[], .func (.func 13) #[] #[]] w fun e w' => Below w.heap.size w w' ∧ GaveP w.heap.size (outOf s gP valE) e w' := by
  have hmf : ∀ (fn : Fn) (first cap : Array Value) (w : World), (Instr.makeFunc fn first cap).run Tryz.prog w = .ok (.func fn first cap) w := fun _ _ _ _ => rfl
  have hbx := bx_start #[.string ⟨#[]⟩, .slice none 0 0, .slice none 0 0] 25 w
  by_cases h0 : (L.tz s.data.toList).2.2 = 0
  · have HFT := Lib.hid (ft_of h0)
    have HN := Lib.hid (onewParser_ok s h0 (box3 #[.string ⟨#[]⟩, .slice none 0 0, .slice none 0 0] 25 w) (ht.below hbx.below))
    unfold outOf
    rw [if_neg (by rw [h0]; decide)]
    rw [← xs_dr s] at HFT ⊢
    have hXl := xs_len s
    generalize xsOf s = XS at *
    obtain ⟨q, hq⟩ : ∃ q, gP (dr XS 0) = q := ⟨_, rfl⟩
    rw [hq]
    have hsf : Sf (dr XS 0) q := hq ▸ gP_sf _
    obtain ⟨O, hO⟩ : ∃ O, after XS q valE = O := ⟨_, rfl⟩
    rw [hO]
    have HQ := Lib.hid hO
    have HOK : Hid (∀ t r, q = .ok t r → OkP (clipP t)) := fun t r h => okP_clip (gP_ok ⟨HFT.out, by rw [dr_len]; omega⟩ (hq.trans h))
    have HX1 : Hid (∀ g w, Psr g XS 0 0 0 w → Calls Tryz.prog 39 #[ptr g] w fun e w' => PRd g XS 0 0 w w' q (okPr w.heap.size w') e) := fun g w h => hq ▸ oproc_all g XS (by omega) 0 w h
    have HX0 := Lib.hid hbx
    have hbs := box3_size #[.string ⟨#[]⟩, .slice none 0 0, .slice none 0 0] 25 w
    clear h0 ht hbx hq hO HFT
    go_enter_defers Tryz.func38, Tryz.ntmps38
    go_wp2_with fail
    change Calls _ _ _ (box3 #[.string ⟨#[]⟩, .slice none 0 0, .slice none 0 0] 25 w) _
    generalize box3 #[.string ⟨#[]⟩, .slice none 0 0, .slice none 0 0] 25 w = W0 at *
    generalize hB0 : w.heap.size = B at *
    refine HN.out.mono ?_; rintro e w1 ⟨hb, g, rfl, hg, hP⟩
    have hgB : B + 1 + 1 < g := by omega
    have HBX1 := Lib.hid (HX0.out.on hb)
    have hgl := hP.lt
    have HC := Lib.hid (HX1.out g w1 hP)
    clear hb HN HX0 HX1 hP
    go_wp2_with fail
    refine HC.out.mono ?_; intro e w2 hm
    clear HC
    cases q with
    | no r x =>
      obtain ⟨j, hj, rfl⟩ := sf_no hsf
      obtain ⟨hb, he⟩ := PRd.no_dr hm hj
      have HBX := Lib.hid (HBX1.out.kp hgB hb)
      unfold fails at he
      have hO : O = .no (lineAt XS j) x := by rw [← HQ.out]; unfold after; simp only [len_dr hj]
      have HQ2 := Lib.hid hO
      generalize lineAt XS j = ln at he HQ2
      subst he
      clear hb hm HBX1 hsf HOK HQ hO
      go_wp2_with fail
      refine leaves_cons (f := 79) (args := #[ptr (B + 1), ptr (B + 1 + 1)]) (by simp) (by simp [go_sem]) ?_
      refine (catch_proc (B + 1) (B + 1 + 1) _ _ _ 3 29 0 0 HBX.out.line HBX.out.err (by omega)).mono ?_
      rintro e u' w9 ⟨rfl, rfl, h1, h2, h3⟩
      obtain ⟨h4, h5⟩ := HBX.out.left h3
      have t0 : w9.cell? ⟨B, 0, none⟩ = some _ := h5.cell 0
      have t1 : w9.cell? ⟨B, 1, none⟩ = some _ := h5.cell 1
      have t2 : w9.cell? ⟨B, 2, none⟩ = some _ := h5.cell 2
      have l0 : w9.cell? ⟨B + 1, 0, none⟩ = some _ := h1.cell 0
      have e0 : w9.cell? ⟨B + 1 + 1, 0, none⟩ = some _ := h2.cell 0
      subst hB0
      rw [HQ2.out]
      simp [Leaves, settle, modeA, results, Tryz.results38, go_sem, t0, t1, t2, l0, e0, h4, GaveP]
    | ok t r =>
      obtain ⟨j, hj0, hj, rfl⟩ := sf_ok hsf
      obtain ⟨hb, v, rfl, hP, a1, c1, a2, c2, rfl, hc1, hK, hK'⟩ := PRd.ok_dr hm hj
      have HBX2 := Lib.hid (HBX1.out.kp hgB hb)
      have hbsz := hb.size
      have HP2 := Lib.hid hP
      have HK2 := Lib.hid hK
      have HL2 := Lib.hid hK'
      have HC1 := Lib.hid hc1
      have HO := Lib.hid (HOK.out _ _ rfl)
      have HU : Hid (valE (clipP t) = valE t) := clip_valE t
      have HU2 : Hid (valE t = 0 → clipP t = t) := fun h => clip_id h
      clear hb hm HBX1 hsf HOK hP hK hK' hc1
      generalize clipP t = u at *
      unfold prV
      go_wp2_with fail
      change Calls _ _ _ (w2.alloc (prO u a1 c1 a2 c2)) _
      have hx := below_box w2 (prO u a1 c1 a2 c2)
      have HX : Hid (Bk (w2.alloc (prO u a1 c1 a2 c2)) w2.heap.size #[.string u.name, .slice a1 u.params.length c1, .slice a2 u.body.length c2] 25) := Bk.new w2 _ _
      have HBX3 := Lib.hid (HBX2.out.on hx)
      have HP3 := Lib.hid (HP2.out.below hx)
      have HK3 := Lib.hid (pms_more HK2.out hx)
      have HL3 := Lib.hid (bodies_more HL2.out hx)
      have hw12 : w1.heap.size ≤ w2.heap.size := hbsz
      clear HBX2 HP2 HK2 HL2 hx
      generalize w2.alloc (prO u a1 c1 a2 c2) = W3 at *
      generalize w2.heap.size = X at *
      have HE := oend_any g XS j 0 0 W3 HP3.out
      by_cases hend : j = XS.length
      · simp only [if_pos hend] at HE
        have HQ1 : Hid (O = if valE t ≠ 0 then .no 0 (valE t) else .ok t) := by
          show O = _
          rw [← HQ.out]
          unfold after
          simp only [len_dr hj]
          rw [if_neg (by rw [dr_len]; omega)]
        clear HQ hend
        refine HE.mono ?_; rintro e w4 ⟨hb, rfl⟩
        have HBX4 := Lib.hid (HBX3.out.kp hgB hb)
        have HK4 := Lib.hid (pmsK HK3.out hgl hb)
        have HL4 := Lib.hid (bodiesK HL3.out hgl hb)
        have HX4 := Lib.hid (Bk.kp HX.out (show X ≠ g by omega) hb)
        obtain ⟨x0, x1, x2⟩ := cells3 HX4.out
        have hV := ovalidate_any u a1 a2 c1 c2 HO.out HC1.out w4 ⟨HK4.out.now, HL4.out.now⟩
        rw [HU.out] at hV
        have HV := Lib.hid hV
        clear HE hb HBX3 HK3 HL3 HX HP3 hj hj0 hV
        go_wp2_with fail
        change Calls _ _ #[prV u a1 c1 a2 c2] _ _
        refine HV.out.mono ?_; rintro e w5 ⟨rfl, hb⟩
        have HBX := Lib.hid (HBX4.out.on hb)
        have HK5 := Lib.hid (pms_more HK4.out hb)
        have HL5 := Lib.hid (bodies_more HL4.out hb)
        have HX5 := Lib.hid (HX4.out.below hb)
        clear x0 x1 x2 HV hb HBX4 HK4 HL4 HX4
        obtain ⟨x0, x1, x2⟩ := cells3 HX5.out
        generalize hvv : valE t = vv at *
        by_cases hv : vv = 0
        · subst hv
          have HQ2 : Hid (O = .ok t) := by show O = _; rw [HQ1.out, if_neg (by simp)]
          have hut := HU2.out rfl
          subst hut
          clear HQ1 hvv HU HU2
          obtain ⟨f0, f1, f2⟩ := free3 HBX.out.tree
          obtain ⟨r0, r1, r2⟩ := cells3 HBX.out.tree
          have l0 := HBX.out.line.cell 0
          have lf := HBX.out.line.free 0
          have e0 := HBX.out.err.cell 0
          have ef := HBX.out.err.free 0
          go_wp2_with fail
          have hwB : B + 1 + 1 < w1.heap.size := by omega
          have HK6 := Lib.hid (pms_res3 (Z := fun j => j < w1.heap.size) (a := .string u.name) (b := .slice a1 u.params.length c1) (c := .slice a2 u.body.length c2) (show B < w1.heap.size by omega) (show B + 1 < w1.heap.size by omega) hwB HK5.out)
          have HL6 := Lib.hid (bodies_res3 (Z := fun j => j < w1.heap.size) (a := .string u.name) (b := .slice a1 u.params.length c1) (c := .slice a2 u.body.length c2) (show B < w1.heap.size by omega) (show B + 1 < w1.heap.size by omega) hwB HL5.out)
          have HBX6 := Lib.hid (bx_res3 HBX.out (.string u.name) (.slice a1 u.params.length c1) (.slice a2 u.body.length c2))
          change bodyPostD _ _ _ _ _ (res3 w5 B (.string u.name) (.slice a1 u.params.length c1) (.slice a2 u.body.length c2))
          generalize res3 w5 B (.string u.name) (.slice a1 u.params.length c1) (.slice a2 u.body.length c2) = W6 at *
          refine leaves_cons (f := 79) (args := #[ptr (B + 1), ptr (B + 1 + 1)]) (by simp) (by simp [go_sem]) ?_
          refine (idle_proc (B + 1) (B + 1 + 1) W6).mono ?_
          rintro e u' w9 ⟨rfl, rfl, hb9⟩
          have hBX9 := HBX6.out.on hb9
          have t0 : w9.cell? ⟨B, 0, none⟩ = some _ := hBX9.tree.cell 0
          have t1 : w9.cell? ⟨B, 1, none⟩ = some _ := hBX9.tree.cell 1
          have t2 : w9.cell? ⟨B, 2, none⟩ = some _ := hBX9.tree.cell 2
          have l9 : w9.cell? ⟨B + 1, 0, none⟩ = some _ := hBX9.line.cell 0
          have e9 : w9.cell? ⟨B + 1 + 1, 0, none⟩ = some _ := hBX9.err.cell 0
          have hK9 := pms_less (pms_more HK6.out hb9) (show w.heap.size ≤ w1.heap.size by omega)
          have hL9 := bodies_less (bodies_more HL6.out hb9) (show w.heap.size ≤ w1.heap.size by omega)
          have hc9 := HC1.out
          have h4 := hBX9.below
          subst hB0
          rw [HQ2.out]
          simp [Leaves, settle, results, Tryz.results38, go_sem, t0, t1, t2, l9, e9, h4, GaveP, prV]
          exact ⟨a1, c1, a2, ⟨⟨rfl, rfl⟩, rfl⟩, hc9, hK9, hL9⟩
        · have HQ2 : Hid (O = .no 0 vv) := by show O = _; rw [HQ1.out, if_pos hv]
          clear HQ1 hvv
          go_wp2_with fail
          refine leaves_cons (f := 79) (args := #[ptr (B + 1), ptr (B + 1 + 1)]) (by simp) (by simp [go_sem]) ?_
          refine (catch_proc (B + 1) (B + 1 + 1) _ _ _ 3 29 0 0 HBX.out.line HBX.out.err (by omega)).mono ?_
          rintro e u' w9 ⟨rfl, rfl, h1, h2, h3⟩
          obtain ⟨h4, h5⟩ := HBX.out.left h3
          have t0 : w9.cell? ⟨B, 0, none⟩ = some _ := h5.cell 0
          have t1 : w9.cell? ⟨B, 1, none⟩ = some _ := h5.cell 1
          have t2 : w9.cell? ⟨B, 2, none⟩ = some _ := h5.cell 2
          have l0 : w9.cell? ⟨B + 1, 0, none⟩ = some _ := h1.cell 0
          have e0 : w9.cell? ⟨B + 1 + 1, 0, none⟩ = some _ := h2.cell 0
          subst hB0
          rw [HQ2.out]
          simp [Leaves, settle, modeA, results, Tryz.results38, go_sem, t0, t1, t2, l0, e0, h4, GaveP]
      · simp only [if_neg hend] at HE
        have HQ2 : Hid (O = .no (lineAt XS j) 5) := by
          show O = _
          rw [← HQ.out]
          unfold after
          simp only [len_dr hj]
          rw [if_pos (by rw [dr_len]; omega)]
        clear HQ
        refine HE.mono ?_; rintro e w4 ⟨hb, he⟩
        unfold fails at he
        have HBX := Lib.hid (HBX3.out.kp hgB hb)
        generalize lineAt XS j = ln at he HQ2
        subst he
        clear hb HE HBX3 HP3 HK3 HX
        go_wp2_with fail
        refine leaves_cons (f := 79) (args := #[ptr (B + 1), ptr (B + 1 + 1)]) (by simp) (by simp [go_sem]) ?_
        refine (catch_proc (B + 1) (B + 1 + 1) _ _ _ 3 29 0 0 HBX.out.line HBX.out.err (by omega)).mono ?_
        rintro e u' w9 ⟨rfl, rfl, h1, h2, h3⟩
        obtain ⟨h4, h5⟩ := HBX.out.left h3
        have t0 : w9.cell? ⟨B, 0, none⟩ = some _ := h5.cell 0
        have t1 : w9.cell? ⟨B, 1, none⟩ = some _ := h5.cell 1
        have t2 : w9.cell? ⟨B, 2, none⟩ = some _ := h5.cell 2
        have l0 : w9.cell? ⟨B + 1, 0, none⟩ = some _ := h1.cell 0
        have e0 : w9.cell? ⟨B + 1 + 1, 0, none⟩ = some _ := h2.cell 0
        subst hB0
        rw [HQ2.out]
        simp [Leaves, settle, modeA, results, Tryz.results38, go_sem, t0, t1, t2, l0, e0, h4, GaveP]
  · unfold outOf
    rw [if_pos h0]
    have HN := Lib.hid (onewParser_no s h0 (box3 #[.string ⟨#[]⟩, .slice none 0 0, .slice none 0 0] 25 w))
    generalize (L.tz s.data.toList).2.1 = ln at HN ⊢
    generalize (L.tz s.data.toList).2.2 = y at HN ⊢
    have HX0 := Lib.hid hbx
    have hbs := box3_size #[.string ⟨#[]⟩, .slice none 0 0, .slice none 0 0] 25 w
    clear h0 ht hbx
    go_enter_defers Tryz.func38, Tryz.ntmps38
    go_wp2_with fail
    change Calls _ _ _ (box3 #[.string ⟨#[]⟩, .slice none 0 0, .slice none 0 0] 25 w) _
    generalize box3 #[.string ⟨#[]⟩, .slice none 0 0, .slice none 0 0] 25 w = W0 at *
    generalize hB0 : w.heap.size = B at *
    refine HN.out.mono ?_; rintro e w1 ⟨hb, he⟩
    unfold failE at he
    subst he
    have HBX := Lib.hid (HX0.out.on hb)
    clear hb HN HX0
    go_wp2_with fail
    refine leaves_cons (f := 79) (args := #[ptr (B + 1), ptr (B + 1 + 1)]) (by simp) (by simp [go_sem]) ?_
    refine (catch_proc (B + 1) (B + 1 + 1) _ _ _ 3 29 0 0 HBX.out.line HBX.out.err (by omega)).mono ?_
    rintro e u' w9 ⟨rfl, rfl, h1, h2, h3⟩
    obtain ⟨h4, h5⟩ := HBX.out.left h3
    have t0 : w9.cell? ⟨B, 0, none⟩ = some _ := h5.cell 0
    have t1 : w9.cell? ⟨B, 1, none⟩ = some _ := h5.cell 1
    have t2 : w9.cell? ⟨B, 2, none⟩ = some _ := h5.cell 2
    have l0 : w9.cell? ⟨B + 1, 0, none⟩ = some _ := h1.cell 0
    have e0 : w9.cell? ⟨B + 1 + 1, 0, none⟩ = some _ := h2.cell 0
    subst hB0
    simp [Leaves, settle, modeA, results, Tryz.results38, go_sem, t0, t1, t2, l0, e0, h4, GaveP]
end Go.Proofs.YteglaeopaocilaaGreatDoor.P
namespace Go.Proofs.YteglaeopaocilaaGreatDoor.P
open Go.RowKit
open L (Str Tok Tks toks At below_2 below_box ret_bool ret_int ret_string)
open A

set_option maxHeartbeats 4000000 in
set_option maxRecDepth 100000 in
theorem oExpr_any (s : ByteArray) (w : World) (ht : OTab w) : Calls Tryz.prog 17 #[.string s] w fun e w' => Below w.heap.size w w' ∧ GaveX w.heap.size (outOf s (gX 1 0) (fun t => vE t 1)) e w' := by
  have hx := below_box w (.cells #[.int .i64 0, .int .i64 0, .string ⟨#[]⟩, .slice none 0 0] 38)
  have HX := Lib.hid hx
  have HT := Lib.hid (Bk.new w #[.int .i64 0, .int .i64 0, .string ⟨#[]⟩, .slice none 0 0] 38)
  have hz : (w.alloc (.cells #[.int .i64 0, .int .i64 0, .string ⟨#[]⟩, .slice none 0 0] 38)).heap.size = w.heap.size + 1 := by simp
  have HC := Lib.hid (oparseX_any s _ (ht.below hx))
  generalize outOf s (gX 1 0) (fun t => vE t 1) = O at HC ⊢
  clear ht hx
  go_enter Tryz.func17, Tryz.ntmps17
  go_wp2_with fail
  generalize w.alloc (.cells #[.int .i64 0, .int .i64 0, .string ⟨#[]⟩, .slice none 0 0] 38) = W0 at *
  generalize hB0 : w.heap.size = B at *
  refine HC.out.mono ?_; rintro e w1 ⟨hb, hG⟩
  have HT1 := HT.out.below hb
  have HB1 := Lib.hid (HX.out.trans (hb.mono (by omega)))
  clear HC HX HT hb
  cases O with
  | ok t =>
    obtain ⟨a, c, rfl, hK⟩ := hG
    obtain ⟨f0, f1, f2, f3⟩ := free4 HT1
    obtain ⟨r0, r1, r2, r3⟩ := cells4 HT1
    have HT2 := Lib.hid HT1
    have HK := Lib.hid hK
    unfold exV
    clear hK HT1
    go_wp2_with fail
    obtain ⟨q0, q1, q2, q3⟩ := stored4 HT2.out (.int .i64 t.op) (.int .i64 t.n) (.string t.s) (.slice a t.args.length c)
    refine bodyPost_ret (v := .tuple #[exV t a c, .int .i64 0, .int .i64 0]) (by simp [exV, results, Tryz.results17, go_sem, q0, q1, q2, q3]) rfl ?_
    subst hB0
    exact ⟨below_wset HB1.out (Nat.le_refl _), a, c, rfl, kids_less (kids_wset (kids_less HK.out (by omega))) (by omega)⟩
  | no l x =>
    have hG : e = _ := hG
    subst hG
    obtain ⟨f0, f1, f2, f3⟩ := free4 HT1
    obtain ⟨r0, r1, r2, r3⟩ := cells4 HT1
    have HT2 := Lib.hid HT1
    clear HT1
    go_wp2_with fail
    obtain ⟨q0, q1, q2, q3⟩ := stored4 HT2.out (.int .i64 0) (.int .i64 0) (.string ⟨#[]⟩) (.slice none 0 0)
    refine bodyPost_ret (v := .tuple #[.agg #[.int .i64 0, .int .i64 0, .string ⟨#[]⟩, .slice none 0 0], .int .i64 l, .int .i64 x]) (by simp [results, Tryz.results17, go_sem, q0, q1, q2, q3]) rfl ?_
    subst hB0
    exact ⟨below_wset HB1.out (Nat.le_refl _), rfl⟩
set_option maxHeartbeats 4000000 in
set_option maxRecDepth 100000 in
theorem oProc_any (s : ByteArray) (w : World) (ht : OTab w) : Calls Tryz.prog 14 #[.string s] w fun e w' => Below w.heap.size w w' ∧ GaveP w.heap.size (outOf s gP valE) e w' := by
  have hx := below_box w (.cells #[.string ⟨#[]⟩, .slice none 0 0, .slice none 0 0] 25)
  have HX := Lib.hid hx
  have HT := Lib.hid (Bk.new w #[.string ⟨#[]⟩, .slice none 0 0, .slice none 0 0] 25)
  have hz : (w.alloc (.cells #[.string ⟨#[]⟩, .slice none 0 0, .slice none 0 0] 25)).heap.size = w.heap.size + 1 := by simp
  have HC := Lib.hid (oparseP_any s _ (ht.below hx))
  generalize outOf s gP valE = O at HC ⊢
  clear ht hx
  go_enter Tryz.func14, Tryz.ntmps14
  go_wp2_with fail
  generalize w.alloc (.cells #[.string ⟨#[]⟩, .slice none 0 0, .slice none 0 0] 25) = W0 at *
  generalize hB0 : w.heap.size = B at *
  refine HC.out.mono ?_; rintro e w1 ⟨hb, hG⟩
  have HT1 := HT.out.below hb
  have HB1 := Lib.hid (HX.out.trans (hb.mono (by omega)))
  clear HC HX HT hb
  cases O with
  | ok t =>
    obtain ⟨a1, c1, a2, c2, rfl, hc1, hK, hL⟩ := hG
    obtain ⟨f0, f1, f2⟩ := free3 HT1
    obtain ⟨r0, r1, r2⟩ := cells3 HT1
    have HT2 := Lib.hid HT1
    have HK := Lib.hid hK
    have HL := Lib.hid hL
    have HC1 := Lib.hid hc1
    unfold prV
    clear hK hL hc1 HT1
    go_wp2_with fail
    obtain ⟨q0, q1, q2⟩ := stored3 HT2.out (.string t.name) (.slice a1 t.params.length c1) (.slice a2 t.body.length c2)
    refine bodyPost_ret (v := .tuple #[prV t a1 c1 a2 c2, .int .i64 0, .int .i64 0]) (by simp [prV, results, Tryz.results14, go_sem, q0, q1, q2]) rfl ?_
    subst hB0
    refine ⟨((HB1.out.setCell (p := ⟨_, 0, none⟩) (Nat.le_refl _) _).setCell (p := ⟨_, 1, none⟩) (Nat.le_refl _) _).setCell (p := ⟨_, 2, none⟩) (Nat.le_refl _) _, a1, c1, a2, c2, rfl, HC1.out, ?_, ?_⟩
    · exact pms_less (n := w.heap.size + 1) (pmsZ_set (Nat.lt_succ_self _) (pmsZ_set (Nat.lt_succ_self _) (pmsZ_set (Nat.lt_succ_self _) (pms_less HK.out (by omega))))) (by omega)
    · exact bodies_less (n := w.heap.size + 1) (bodiesY_set (Nat.lt_succ_self _) (bodiesY_set (Nat.lt_succ_self _) (bodiesY_set (Nat.lt_succ_self _) (bodies_less HL.out (by omega))))) (by omega)
  | no l x =>
    have hG : e = _ := hG
    subst hG
    obtain ⟨f0, f1, f2⟩ := free3 HT1
    obtain ⟨r0, r1, r2⟩ := cells3 HT1
    have HT2 := Lib.hid HT1
    clear HT1
    go_wp2_with fail
    obtain ⟨q0, q1, q2⟩ := stored3 HT2.out (.string ⟨#[]⟩) (.slice none 0 0) (.slice none 0 0)
    refine bodyPost_ret (v := .tuple #[.agg #[.string ⟨#[]⟩, .slice none 0 0, .slice none 0 0], .int .i64 l, .int .i64 x]) (by simp [results, Tryz.results14, go_sem, q0, q1, q2]) rfl ?_
    subst hB0
    exact ⟨((HB1.out.setCell (p := ⟨_, 0, none⟩) (Nat.le_refl _) _).setCell (p := ⟨_, 1, none⟩) (Nat.le_refl _) _).setCell (p := ⟨_, 2, none⟩) (Nat.le_refl _) _, rfl⟩
end Go.Proofs.YteglaeopaocilaaGreatDoor.P
namespace Go.Proofs.YteglaeopaocilaaGreatDoor.P
open Go.RowKit
open L (Str Tok Tks toks At isName prt size_len below_2 below_box ret_bool ret_int ret_string eql_eq bytes_eq)
open A

set_option maxHeartbeats 2000000 in
set_option maxRecDepth 100000 in
theorem osameProc_any (q : Pr) (a1 : Option Addr) (c1 : Nat) (a2 : Option Addr) (c2 : Nat) (N : Nat) (x : ByteArray) (w : World) (h : w.cell? ⟨N, 0, none⟩ = some (.string x)) :
    Calls Tryz.prog 107 #[prV q a1 c1 a2 c2, .pointer (some ⟨N, 0, none⟩)] w fun e' w' => e' = .returned (.bool (decide (q.name = x))) ∧ Below w.heap.size w w' := by
  have hw := below_box w (prO q a1 c1 a2 c2)
  unfold prO at hw
  have h2 := (hw.cell (block_lt_of_cell h)).trans h
  have HW := Lib.hid hw
  have hb := bytes_dec q.name x
  obtain ⟨v, hv⟩ : ∃ v, decide (q.name = x) = v := ⟨_, rfl⟩
  rw [hv] at hb ⊢
  unfold prV
  clear hw hv
  go_enter Tryz.func107, Tryz.ntmps107
  go_wp2_with fail
  go_ret
  exact ⟨rfl, HW.out⟩
/-- the first parameter with this name -/
def idxG (x : ByteArray) : List Pr → Nat → Int
  | [], _ => -1
  | q :: r, k => if decide (q.name = x) = true then (k : Int) else idxG x r (k + 1)
theorem idxG_any (x : ByteArray) : ∀ (l : List Pr) (k : Nat), decide (0 ≤ idxG x l k) = l.any (fun q => decide (q.name = x))
  | [], k => rfl
  | q :: r, k => by
    rw [idxG, List.any_cons]
    cases h : decide (q.name = x)
    · rw [if_neg (by decide), Bool.false_or]; exact idxG_any x r (k + 1)
    · rw [if_pos rfl, Bool.true_or]; exact decide_eq_true (by omega)
set_option maxHeartbeats 4000000 in
set_option maxRecDepth 100000 in
theorem oindexProc_any (l : List Pr) (a : Option Addr) (c N : Nat) (x : ByteArray) (hl : l.length ≤ 1000000000000000) (w : World) (hK : Prs w a l) (h : w.cell? ⟨N, 0, none⟩ = some (.string x)) :
    Calls Tryz.prog 160 #[.slice a l.length c, .func (Fn.func 107) #[] #[.pointer (some ⟨N, 0, none⟩)]] w fun e' w' => e' = .returned (.int .i64 (idxG x l 0)) ∧ Below w.heap.size w w' := by
  have HK := Lib.hid hK
  have HX := Lib.hid h
  have hlt0 := block_lt_of_cell h
  obtain ⟨R, hR⟩ : ∃ R, idxG x l 0 = R := ⟨_, rfl⟩
  rw [hR]
  have HR : Hid (idxG x (l.drop 0) 0 = R) := hR
  obtain ⟨m, hm⟩ : ∃ m, l.length = m := ⟨_, rfl⟩
  have HL := Lib.hid hm
  rw [hm] at hl ⊢
  clear hm hR hK h
  go_enter Tryz.func160, Tryz.ntmps160
  go_wp2_with fail
  go_loopw [8] (fun s8 wr => ∃ k : Nat, k ≤ m ∧ s8 = .int .i64 k ∧ Hid (idxG x (l.drop k) k = R) ∧ Hid (Below w.heap.size w wr)) (fun s8 _ => m - (intOf s8).toNat)
  case atStart => exact ⟨0, Nat.zero_le _, rfl, HR, Below.refl _ _⟩
  case round =>
    obtain ⟨k, hk, rfl, HX2, HB⟩ := hrel
    by_cases hlt : k < m
    · have hlx : k < l.length := by rw [HL.out]; exact hlt
      have hx := HX2.out
      rw [List.drop_eq_getElem_cons hlx, idxG] at hx
      obtain ⟨b3, i3, rfl, a1, c1, a2, c2, f0, f1, f2, hpc, hpi⟩ := (HK.out.below HB.out).open hlx
      have HC := Lib.hid (osameProc_any l[k] a1 c1 a2 c2 N x wr ((HB.out.cell hlt0).trans HX.out))
      generalize l[k] = q at f0 f1 f2 HC hx
      generalize decide (q.name = x) = y at HC hx
      unfold prV at HC
      clear hpc hpi
      cases y
      · rw [if_neg (by decide)] at hx
        have HN := Lib.hid hx
        clear hx
        go_wp2_with fail
        refine HC.out.mono ?_; rintro e w2 ⟨rfl, hb2⟩
        have HB2 := Lib.hid (below_2 HB.out hb2)
        clear hb2
        go_wp2_with fail
        go_roundw
        case rel => exact ⟨k + 1, by omega, by go_num, HN, HB2⟩
        case measure => simp [intOf]; omega
      · rw [if_pos rfl] at hx
        have HV := Lib.hid hx
        clear hx
        go_wp2_with fail
        refine HC.out.mono ?_; rintro e w2 ⟨rfl, hb2⟩
        have HB2 := Lib.hid (below_2 HB.out hb2)
        clear hb2
        go_wp2_with fail
        go_ret
        exact ⟨ret_int HV.out, HB2.out⟩
    · have HV : Hid (-1 = R) := by
        show _ = _
        rw [← HX2.out, List.drop_of_length_le (by rw [HL.out]; omega), idxG]
      go_wp2_with fail
      go_ret
      exact ⟨ret_int HV.out, HB.out⟩
set_option maxHeartbeats 2000000 in
set_option maxRecDepth 100000 in
theorem ocontainsProc_any (l : List Pr) (a : Option Addr) (c N : Nat) (x : ByteArray) (hl : l.length ≤ 1000000000000000) (w : World) (hK : Prs w a l) (h : w.cell? ⟨N, 0, none⟩ = some (.string x)) :
    Calls Tryz.prog 108 #[.slice a l.length c, .func (Fn.func 107) #[] #[.pointer (some ⟨N, 0, none⟩)]] w fun e' w' => e' = .returned (.bool (l.any (fun q => decide (q.name = x)))) ∧ Below w.heap.size w w' := by
  have HC := Lib.hid (oindexProc_any l a c N x hl w hK h)
  have hv := idxG_any x l 0
  generalize idxG x l 0 = r at HC hv
  generalize l.any (fun q => decide (q.name = x)) = y at hv ⊢
  generalize l.length = m at HC ⊢
  clear hl hK h
  go_enter Tryz.func108, Tryz.ntmps108
  go_wp2_with fail
  refine HC.out.mono ?_; rintro e w2 ⟨rfl, hb2⟩
  have HB2 := Lib.hid hb2
  clear hb2
  go_wp2_with fail
  go_ret
  exact ⟨rfl, HB2.out⟩
/-- the error of the procedures l, with those names ahead of them -/
def prgF (pre : List ByteArray) : List Pr → Int
  | [] => 0
  | p :: r => if valE p ≠ 0 then valE p else if pre.any (fun x => decide (x = p.name)) = true then 8 else prgF (pre ++ [p.name]) r
def prgE (l : List Pr) : Int := if 16 < l.length then 2 else prgF [] l
theorem prgF_clip : ∀ (l : List Pr) (pre : List ByteArray), prgF pre (l.map clipP) = prgF pre l
  | [], _ => rfl
  | p :: r, pre => by
    rw [List.map_cons, prgF, prgF, clip_valE, prgF_clip r]
    rfl
theorem prgE_clip (l : List Pr) : prgE (l.map clipP) = prgE l := by
  unfold prgE
  rw [List.length_map, prgF_clip]
theorem prgF_vals : ∀ (l : List Pr) (pre : List ByteArray), prgF pre l = 0 → ∀ p ∈ l, valE p = 0
  | [], _, _, p, hp => by cases hp
  | q :: r, pre, h, p, hp => by
    rw [prgF] at h
    by_cases hv : valE q = 0
    · rw [if_neg (by simpa using hv)] at h
      split at h
      · cases h
      · rcases List.mem_cons.1 hp with rfl | hp
        · exact hv
        · exact prgF_vals r _ h p hp
    · rw [if_pos hv] at h
      exact absurd h hv
theorem prgE_vals {l : List Pr} (h : prgE l = 0) : ∀ p ∈ l, valE p = 0 := by
  unfold prgE at h
  split at h
  · cases h
  · exact prgF_vals l _ h
theorem prgE_id {l : List Pr} (h : prgE l = 0) : l.map clipP = l := by
  have hv := prgE_vals h
  clear h
  induction l with
  | nil => rfl
  | cons p r ih => rw [List.map_cons, clip_id (hv p (List.mem_cons_self ..)), ih fun q hq => hv q (List.mem_cons_of_mem _ hq)]
theorem prgF_drop {l : List Pr} {k : Nat} (h : k < l.length) : prgF ((l.take k).map Pr.name) (l.drop k) = if valE l[k] ≠ 0 then valE l[k] else if (l.take k).any (fun q => decide (q.name = l[k].name)) = true then 8 else prgF ((l.take (k + 1)).map Pr.name) (l.drop (k + 1)) := by
  rw [List.drop_eq_getElem_cons h, prgF, List.any_map, List.take_succ_eq_append_getElem h, List.map_append]
  rfl
theorem Prs.take {w : World} {a : Option Addr} {l : List Pr} (h : Prs w a l) (k : Nat) : Prs w a (l.take k) := by
  rcases h with h | ⟨b, i, ha, h⟩
  · left; rw [h]; simp
  · right
    refine ⟨b, i, ha, fun j hj => ?_⟩
    have hj2 : j < l.length := by rw [List.length_take] at hj; omega
    rw [List.getElem_take]
    exact h j hj2
set_option maxHeartbeats 8000000 in
set_option maxRecDepth 100000 in
theorem oprogramError_any (l : List Pr) (a : Option Addr) (c : Nat) (hl : l.length ≤ 1000000000000000) (hok : ∀ p ∈ l, OkP p) (w : World) (hc : l.length ≤ c) (hK : Prs w a l) :
    Calls Tryz.prog 55 #[.slice a l.length c] w fun e' w' => e' = .returned (.int .i64 (prgE l)) ∧ Below w.heap.size w w' := by
  have HK := Lib.hid hK
  have HOK := Lib.hid hok
  have hpe : prgE l = if 16 < l.length then 2 else prgF [] l := rfl
  obtain ⟨R, hR⟩ : ∃ R, prgE l = R := ⟨_, rfl⟩
  rw [hR] at hpe ⊢
  have HP : Hid (l.length ≤ 16 → prgF ((l.take 0).map Pr.name) (l.drop 0) = R) := fun h => by rw [hpe, if_neg (by omega)]; rfl
  have HP2 : Hid (16 < l.length → R = 2) := fun h => by rw [hpe, if_pos h]
  obtain ⟨m, hm⟩ : ∃ m, l.length = m := ⟨_, rfl⟩
  have HL := Lib.hid hm
  rw [hm] at hl hc HP HP2 ⊢
  clear hm hR hK hpe hok
  by_cases h6 : 16 < m
  · have HV : Hid (R = 2) := HP2.out h6
    have b6 : decide (16 < (m : Int)) = true := decide_eq_true (by omega)
    clear h6
    go_enter Tryz.func55, Tryz.ntmps55
    go_wp2_with fail
    go_ret
    exact ⟨ret_int HV.out.symm, Below.refl _ _⟩
  · have HR := Lib.hid (HP.out (by omega))
    have b6 : decide (16 < (m : Int)) = false := decide_eq_false (by omega)
    clear HP HP2
    go_enter Tryz.func55, Tryz.ntmps55
    go_wp2_with fail
    go_loopw [12] (fun s11 wr => ∃ k : Nat, k ≤ m ∧ s11 = .int .i64 k ∧ Hid (prgF ((l.take k).map Pr.name) (l.drop k) = R) ∧ Hid (Below w.heap.size w wr)) (fun s11 _ => m - (intOf s11).toNat)
    case atStart => exact ⟨0, Nat.zero_le _, rfl, HR, Below.refl _ _⟩
    case round =>
      obtain ⟨k, hk, rfl, HX, HB⟩ := hrel
      by_cases hlt : k < m
      · have hlx : k < l.length := by rw [HL.out]; exact hlt
        have hx := HX.out
        rw [prgF_drop hlx] at hx
        obtain ⟨b3, i3, rfl, a1, c1, a2, c2, f0, f1, f2, hpc, hpi⟩ := (HK.out.below HB.out).open hlx
        have hbx := below_box wr (.cells #[.string l[k].name, .slice a1 l[k].params.length c1, .slice a2 l[k].body.length c2] 25)
        have HV0 := Lib.hid (ovalidate_any l[k] a1 a2 c1 c2 (HOK.out _ (List.getElem_mem hlx)) hpc _ (hpi.below hbx))
        have g0 : (wr.alloc (.cells #[.string l[k].name, .slice a1 l[k].params.length c1, .slice a2 l[k].body.length c2] 25)).cell? ⟨wr.heap.size, 0, none⟩ = some (.string l[k].name) := by go_simp
        have hlen : (l.take k).length = k := by rw [List.length_take]; omega
        have HCF := Lib.hid (fun w' (hb : Below w.heap.size w w') (hx : w'.cell? ⟨wr.heap.size, 0, none⟩ = some (.string l[k].name)) => ocontainsProc_any (l.take k) (some ⟨b3, i3, none⟩) c wr.heap.size l[k].name (by omega) w' ((HK.out.below hb).take k) hx)
        rw [hlen] at HCF
        have HG0 := Lib.hid g0
        have HBX := Lib.hid (below_2 HB.out hbx)
        generalize (l.take k).any (fun q => decide (q.name = l[k].name)) = y at HCF hx
        generalize l[k] = q at *
        unfold prV at HV0
        clear hlen hbx hpc hpi g0
        generalize hvv : valE q = vv at *
        clear hvv
        by_cases hv : vv = 0
        · subst hv
          rw [if_neg (by simp)] at hx
          cases y
          · rw [if_neg (by decide)] at hx
            have HN := Lib.hid hx
            clear hx
            go_wp2_with fail
            refine HV0.out.mono ?_; rintro e w2 ⟨rfl, hb2⟩
            have HB2 := Lib.hid (below_2 HBX.out hb2)
            have g0 := (hb2.cell (block_lt_of_cell HG0.out)).trans HG0.out
            have HC := Lib.hid (HCF.out w2 HB2.out g0)
            clear hb2
            go_wp2_with fail
            refine HC.out.mono ?_; rintro e w3 ⟨rfl, hb3⟩
            have HB3 := Lib.hid (below_2 HB2.out hb3)
            clear hb3
            go_wp2_with fail
            go_roundw
            case rel => exact ⟨k + 1, by omega, by go_num, HN, HB3⟩
            case measure => simp [intOf]; omega
          · rw [if_pos rfl] at hx
            have HV := Lib.hid hx
            clear hx
            go_wp2_with fail
            refine HV0.out.mono ?_; rintro e w2 ⟨rfl, hb2⟩
            have HB2 := Lib.hid (below_2 HBX.out hb2)
            have g0 := (hb2.cell (block_lt_of_cell HG0.out)).trans HG0.out
            have HC := Lib.hid (HCF.out w2 HB2.out g0)
            clear hb2
            go_wp2_with fail
            refine HC.out.mono ?_; rintro e w3 ⟨rfl, hb3⟩
            have HB3 := Lib.hid (below_2 HB2.out hb3)
            clear hb3
            go_wp2_with fail
            go_ret
            exact ⟨ret_int HV.out, HB3.out⟩
        · rw [if_pos hv] at hx
          have HV := Lib.hid hx
          clear hx
          go_wp2_with fail
          refine HV0.out.mono ?_; rintro e w2 ⟨rfl, hb2⟩
          have HB2 := Lib.hid (below_2 HBX.out hb2)
          clear hb2
          go_wp2_with fail
          go_ret
          exact ⟨ret_int HV.out, HB2.out⟩
      · have HV : Hid (R = 0) := by
          show _ = _
          rw [← HX.out, List.drop_of_length_le (by rw [HL.out]; omega), prgF]
        go_wp2_with fail
        go_ret
        exact ⟨ret_int HV.out.symm, HB.out⟩
end Go.Proofs.YteglaeopaocilaaGreatDoor.P
