/-
  What the reference of layer 10 returns: expr: the loop.
  What the reference of layer 10 returns: statements as values; number: a contract.
  What the parser's methods return: statements: what they return: contracts.
  What the parser's methods return: assignment, put, abort: contracts.
  What the parser's methods return: put, abort: contracts.
  What the parser's methods return: loop: contracts.
-/
import Derived.Test.YteglaeopaocilaaGreatDoorM21
import Derived.Test.YteglaeopaocilaaGreatDoorM03
import Derived.Test.YteglaeopaocilaaGreatDoorM24
namespace Go.Proofs.YteglaeopaocilaaGreatDoor.P
open Go.RowKit
open L (Str Tok Tks toks At below_2 below_box ret_bool ret_int ret_string)
open A

theorem kidsZ_set {Z : Nat → Prop} {w : World} {b i : Nat} {u : Value} {p : Option Addr} {l : List Ex} (hb : Z b) (h : KidsF Z w p l) : KidsF Z (w.setCell ⟨b, i, none⟩ u) p l :=
  h.next ⟨fun j _ hz => Below.heap_setCell _ _ _ _ (fun e => hz (by subst e; exact hb)), fun _ hj => Or.inl hj⟩
theorem kidsZ_wset {Z : Nat → Prop} {w : World} {b : Nat} {x y z u : Value} {p : Option Addr} {l : List Ex} (hb : Z b) (h : KidsF Z w p l) : KidsF Z (wset w b x y z u) p l := kidsZ_set hb (kidsZ_set hb (kidsZ_set hb (kidsZ_set hb h)))
end Go.Proofs.YteglaeopaocilaaGreatDoor.P
namespace Go.Proofs.YteglaeopaocilaaGreatDoor.P
open Go.RowKit
open L (Str Tok Tks toks At below_2 below_box ret_bool ret_int ret_string)
open A

/-- a statement as a value -/
def sVal (s : St) (a1 : Option Addr) (c1 : Nat) (a2 : Option Addr) (c2 : Nat) (a3 : Option Addr) (c3 : Nat) (a4 : Option Addr) (c4 : Nat) : Value :=
  .agg #[.int .i64 s.op, .string s.name, .int .i64 s.mx, .int .i64 s.a.op, .int .i64 s.a.n, .string s.a.s, .slice a1 s.a.args.length c1, .int .i64 s.b.op, .int .i64 s.b.n, .string s.b.s, .slice a2 s.b.args.length c2, .slice a3 s.body.length c3, .slice a4 s.els.length c4]
/-- a block, an index and an error in memory -/
def GB (n : Nat) (B : Nat) (w' : World) (q : R (List St)) (v : Value) : Prop := match q with
  | .ok l r => ∃ a c, v = .tuple #[.slice a l.length c, .int .i64 ((n - r.length : Nat) : Int), .int .i64 0] ∧ BodiesF (fun j => j < B) w' a l
  | .no r x => v = .tuple #[.slice none 0 0, .int .i64 ((n - r.length : Nat) : Int), .int .i64 x]
def RB (n : Nat) (w w' : World) (q : R (List St)) (e : Ending) : Prop := Below w.heap.size w w' ∧ ∃ v, e = .returned v ∧ GB n w.heap.size w' q v
theorem bodies_more {w w' : World} {n : Nat} {p : Option Addr} {l : List St} (h : BodiesF (fun j => j < n) w p l) (hb : Below w.heap.size w w') : BodiesF (fun j => j < n) w' p l := h.next ⟨fun j hj _ => hb.block j hj, fun _ hj => Or.inl hj⟩
theorem bodies_less {w : World} {m n : Nat} {p : Option Addr} {l : List St} (h : BodiesF (fun j => j < n) w p l) (hm : m ≤ n) : BodiesF (fun j => j < m) w p l := h.next ⟨fun _ _ _ => rfl, fun _ hj => Or.inl (Nat.lt_of_lt_of_le hj hm)⟩
theorem cells13 {w : World} {b : Nat} {v0 v1 v2 v3 v4 v5 v6 v7 v8 v9 v10 v11 v12 : Value} {t : TypeId} (h : Bk w b #[v0, v1, v2, v3, v4, v5, v6, v7, v8, v9, v10, v11, v12] t) : w.cell? ⟨b, 0, none⟩ = some v0 ∧ w.cell? ⟨b, 1, none⟩ = some v1 ∧ w.cell? ⟨b, 2, none⟩ = some v2 ∧ w.cell? ⟨b, 3, none⟩ = some v3 ∧ w.cell? ⟨b, 4, none⟩ = some v4 ∧ w.cell? ⟨b, 5, none⟩ = some v5 ∧ w.cell? ⟨b, 6, none⟩ = some v6 ∧ w.cell? ⟨b, 7, none⟩ = some v7 ∧ w.cell? ⟨b, 8, none⟩ = some v8 ∧ w.cell? ⟨b, 9, none⟩ = some v9 ∧ w.cell? ⟨b, 10, none⟩ = some v10 ∧ w.cell? ⟨b, 11, none⟩ = some v11 ∧ w.cell? ⟨b, 12, none⟩ = some v12 := ⟨h.cell 0, h.cell 1, h.cell 2, h.cell 3, h.cell 4, h.cell 5, h.cell 6, h.cell 7, h.cell 8, h.cell 9, h.cell 10, h.cell 11, h.cell 12⟩
theorem free13 {w : World} {b : Nat} {v0 v1 v2 v3 v4 v5 v6 v7 v8 v9 v10 v11 v12 : Value} {t : TypeId} (h : Bk w b #[v0, v1, v2, v3, v4, v5, v6, v7, v8, v9, v10, v11, v12] t) : w.frozen? ⟨b, 0, none⟩ = false ∧ w.frozen? ⟨b, 1, none⟩ = false ∧ w.frozen? ⟨b, 2, none⟩ = false ∧ w.frozen? ⟨b, 3, none⟩ = false ∧ w.frozen? ⟨b, 4, none⟩ = false ∧ w.frozen? ⟨b, 5, none⟩ = false ∧ w.frozen? ⟨b, 6, none⟩ = false ∧ w.frozen? ⟨b, 7, none⟩ = false ∧ w.frozen? ⟨b, 8, none⟩ = false ∧ w.frozen? ⟨b, 9, none⟩ = false ∧ w.frozen? ⟨b, 10, none⟩ = false ∧ w.frozen? ⟨b, 11, none⟩ = false ∧ w.frozen? ⟨b, 12, none⟩ = false := ⟨h.free 0, h.free 1, h.free 2, h.free 3, h.free 4, h.free 5, h.free 6, h.free 7, h.free 8, h.free 9, h.free 10, h.free 11, h.free 12⟩

end Go.Proofs.YteglaeopaocilaaGreatDoor.P
namespace Go.Proofs.YteglaeopaocilaaGreatDoor.P
open Go.RowKit
open L (Str Tok Tks toks At below_2 below_box ret_bool ret_int ret_string)
open A

/-! ### symbols of one token, over lists of tokens -/

def nL (l : T) : R ByteArray := match nm1 l with | some nm => .ok nm l.tail | none => .no l (wrong l)
def mL (l : T) : R Int := match int1 l with | some m => .ok m l.tail | none => .no l (wrong l)
def wL (s : Str) (l : T) : R Unit := if isW l s = true then .ok () l.tail else .no l (wrong l)
noncomputable def eL (s : Str) (l : T) : R Ex := (gX 1 0 l).to (closeW s)
theorem nL_sf (l : T) : Sf l (nL l) := by
  unfold nL
  cases h : nm1 l with
  | none => exact sf_w (List.suffix_refl l)
  | some nm => exact ⟨tail_sf l, tail_lt (nm1_ne h)⟩
theorem mL_sf (l : T) : Sf l (mL l) := by
  unfold mL
  cases h : int1 l with
  | none => exact sf_w (List.suffix_refl l)
  | some nm => exact ⟨tail_sf l, tail_lt (int1_ne h)⟩
theorem wL_sf (s : Str) (l : T) : Sf l (wL s l) := by
  unfold wL
  cases h : isW l s
  · exact sf_w (List.suffix_refl l)
  · exact ⟨tail_sf l, tail_lt (isW_ne h)⟩
theorem eL_sf (s : Str) (l : T) : Sf l (eL s l) := sf_close (gX_is (by decide)).2 s
theorem nQ_L (XS : List L.T) (k : Nat) : nQ XS k = nL (dr XS k) := by unfold nQ nL; rw [dr_tail]; cases nm1 (dr XS k) <;> rfl
theorem mQ_L (XS : List L.T) (k : Nat) : mQ XS k = mL (dr XS k) := by unfold mQ mL; rw [dr_tail]; cases int1 (dr XS k) <;> rfl
theorem wQ_L (XS : List L.T) (k : Nat) (s : Str) : wQ XS k s = wL s (dr XS k) := by unfold wQ wL; rw [dr_tail]
theorem cname (g : Nat) (XS : List L.T) (k bl : Nat) (w : World) (h : Psr g XS k 0 bl w) : Calls Tryz.prog 83 #[ptr g] w fun e w' => PRd g XS 0 bl w w' (nL (dr XS k)) okN e := nQ_L XS k ▸ oname_any g XS k 0 bl w h
theorem cmax (g : Nat) (XS : List L.T) (k bl : Nat) (w : World) (h : Psr g XS k 0 bl w) : Calls Tryz.prog 215 #[ptr g] w fun e w' => PRd g XS 0 bl w w' (mL (dr XS k)) okM e := mQ_L XS k ▸ omax_any g XS k 0 bl w h
theorem cexpect (g : Nat) (XS : List L.T) (k bl : Nat) (s : ByteArray) (l : Str) (hl : s.data.toList = l) (w : World) (h : Psr g XS k 0 bl w) : Calls Tryz.prog 82 #[ptr g, .string s] w fun e w' => PRd g XS 0 bl w w' (wL l (dr XS k)) okU e := by
  subst hl
  rw [← wQ_L]
  exact oexpect_any g XS k 0 bl w h s
theorem cor (g : Nat) (XS : List L.T) (k bl : Nat) (w : World) (h : Psr g XS k 0 bl w) : Calls Tryz.prog 44 #[ptr g] w fun e w' => PRd g XS 0 bl w w' (gX 1 0 (dr XS k)) (okX w.heap.size w') e := oor_all g XS k 0 bl (by decide) w h
theorem cexprBefore (g : Nat) (XS : List L.T) (k bl : Nat) (s : ByteArray) (l : Str) (hl : s.data.toList = l) (w : World) (h : Psr g XS k 0 bl w) : Calls Tryz.prog 180 #[ptr g, .string s] w fun e w' => PRd g XS 0 bl w w' (eL l (dr XS k)) (okX w.heap.size w') e := by
  subst hl
  exact oexprBefore_any g XS k 0 bl _ (gX_is (by decide)).2 (oor_all g XS k 0 bl (by decide)) s w h

/-! ### blocks and statements that are returned -/

def okBl (B : Nat) (w' : World) (l : List St) (v : Value) : Prop := ∃ a c, v = .slice a l.length c ∧ BodiesF (fun j => j < B) w' a (clipB l)
def okS0 (B : Nat) (w' : World) (u : St) (v : Value) : Prop := ∃ a1 c1 a2 c2 a3 c3 a4 c4, v = sVal u a1 c1 a2 c2 a3 c3 a4 c4 ∧ KidsF (fun j => j < B) w' a1 u.a.args ∧ KidsF (fun j => j < B) w' a2 u.b.args ∧ BodiesF (fun j => j < B) w' a3 u.body ∧ BodiesF (fun j => j < B) w' a4 u.els
def okSt (B : Nat) (w' : World) (s : St) (v : Value) : Prop := okS0 B w' (clipS s) v
theorem okSt_0 {B : Nat} {w' : World} {o : Int} {nm : ByteArray} {a b : Ex} {v : Value} (h : okS0 B w' (.mk o nm 0 a b [] []) v) : okSt B w' (.mk o nm 0 a b [] []) v := by
  unfold okSt
  rw [clipS, clipB, show cut 0 = 0 by decide]
  exact h
theorem okSt_m {B : Nat} {w' : World} {o m : Int} {nm : ByteArray} {a b : Ex} {v : Value} (h : okS0 B w' (.mk o nm (cut m) a b [] []) v) : okSt B w' (.mk o nm m a b [] []) v := by
  unfold okSt
  rw [clipS, clipB]
  exact h
theorem okSt_b {B : Nat} {w' : World} {o m : Int} {nm : ByteArray} {a b : Ex} {bd : List St} {v : Value} (h : okS0 B w' (.mk o nm (cut m) a b (clipB bd) []) v) : okSt B w' (.mk o nm m a b bd []) v := by
  unfold okSt
  rw [clipS, show clipB [] = [] by rw [clipB]]
  exact h
theorem okSt_e {B : Nat} {w' : World} {o : Int} {nm : ByteArray} {a b : Ex} {bd el : List St} {v : Value} (h : okS0 B w' (.mk o nm 0 a b (clipB bd) (clipB el)) v) : okSt B w' (.mk o nm 0 a b bd el) v := by
  unfold okSt
  rw [clipS, show cut 0 = 0 by decide]
  exact h
theorem bz_set {Z : Nat → Prop} {w : World} {b i : Nat} {u : Value} {p : Option Addr} {l : List St} (hb : Z b) (h : BodiesF Z w p l) : BodiesF Z (w.setCell ⟨b, i, none⟩ u) p l :=
  h.next ⟨fun j _ hz => Below.heap_setCell _ _ _ _ (fun e => hz (by subst e; exact hb)), fun _ hj => Or.inl hj⟩
theorem bz_kp {Z : Nat → Prop} {w w' : World} {g : Nat} {p : Option Addr} {l : List St} (h : BodiesF Z w p l) (hg : Z g) (hb : Kp w.heap.size g w w') : BodiesF Z w' p l := h.next ⟨fun j hj hz => hb.block j hj (fun e => hz (by rw [e]; exact hg)), fun _ hj => Or.inl hj⟩
theorem bz_of {Z Z' : Nat → Prop} {w : World} {p : Option Addr} {l : List St} (h : BodiesF Z w p l) (hz : ∀ j, Z' j → Z j) : BodiesF Z' w p l := h.next ⟨fun _ _ _ => rfl, fun j hj => Or.inl (hz j hj)⟩
def wset13 (w : World) (g : Nat) (v0 v1 v2 v3 v4 v5 v6 v7 v8 v9 v10 v11 v12 : Value) : World := (((((((((((((w.setCell ⟨g, 0, none⟩ v0).setCell ⟨g, 1, none⟩ v1).setCell ⟨g, 2, none⟩ v2).setCell ⟨g, 3, none⟩ v3).setCell ⟨g, 4, none⟩ v4).setCell ⟨g, 5, none⟩ v5).setCell ⟨g, 6, none⟩ v6).setCell ⟨g, 7, none⟩ v7).setCell ⟨g, 8, none⟩ v8).setCell ⟨g, 9, none⟩ v9).setCell ⟨g, 10, none⟩ v10).setCell ⟨g, 11, none⟩ v11).setCell ⟨g, 12, none⟩ v12)
theorem bk_set13 {w : World} {g : Nat} {u0 u1 u2 u3 u4 u5 u6 u7 u8 u9 u10 u11 u12 : Value} {t : TypeId} {v0 v1 v2 v3 v4 v5 v6 v7 v8 v9 v10 v11 v12 : Value} (h : Bk w g #[u0, u1, u2, u3, u4, u5, u6, u7, u8, u9, u10, u11, u12] t) : Bk (wset13 w g v0 v1 v2 v3 v4 v5 v6 v7 v8 v9 v10 v11 v12) g #[v0, v1, v2, v3, v4, v5, v6, v7, v8, v9, v10, v11, v12] t := by
  have h4 := (((((((((((((h.set 0 (u := v0)).set 1 (u := v1)).set 2 (u := v2)).set 3 (u := v3)).set 4 (u := v4)).set 5 (u := v5)).set 6 (u := v6)).set 7 (u := v7)).set 8 (u := v8)).set 9 (u := v9)).set 10 (u := v10)).set 11 (u := v11)).set 12 (u := v12))
  unfold wset13
  simpa using h4
theorem kp_wset13 {B g : Nat} {w w' : World} {b : Nat} {v0 v1 v2 v3 v4 v5 v6 v7 v8 v9 v10 v11 v12 : Value} (h : Kp B g w w') (hb : B ≤ b) : Kp B g w (wset13 w' b v0 v1 v2 v3 v4 v5 v6 v7 v8 v9 v10 v11 v12) := by
  have hs : ∀ (u : World) (i : Nat) (v : Value), Kp B g w u → Kp B g w (u.setCell ⟨b, i, none⟩ v) := fun u i v hu => hu.trans (Kp.of ((Below.refl B u).setCell (p := ⟨b, i, none⟩) hb v))
  exact hs _ _ _ (hs _ _ _ (hs _ _ _ (hs _ _ _ (hs _ _ _ (hs _ _ _ (hs _ _ _ (hs _ _ _ (hs _ _ _ (hs _ _ _ (hs _ _ _ (hs _ _ _ (hs _ _ _ h))))))))))))
theorem Psr.wset13 {g : Nat} {XS : List L.T} {k ne bl b : Nat} {w : World} {v0 v1 v2 v3 v4 v5 v6 v7 v8 v9 v10 v11 v12 : Value} (h : Psr g XS k ne bl w) (hb : g < b) : Psr g XS k ne bl (P.wset13 w b v0 v1 v2 v3 v4 v5 v6 v7 v8 v9 v10 v11 v12) := ((((((((((((h.set hb).set hb).set hb).set hb).set hb).set hb).set hb).set hb).set hb).set hb).set hb).set hb).set hb
theorem kz_wset13 {Z : Nat → Prop} {w : World} {g : Nat} {v0 v1 v2 v3 v4 v5 v6 v7 v8 v9 v10 v11 v12 : Value} {p : Option Addr} {l : List Ex} (hz : Z g) (h : KidsF Z w p l) : KidsF Z (P.wset13 w g v0 v1 v2 v3 v4 v5 v6 v7 v8 v9 v10 v11 v12) p l :=
  kz_set hz (kz_set hz (kz_set hz (kz_set hz (kz_set hz (kz_set hz (kz_set hz (kz_set hz (kz_set hz (kz_set hz (kz_set hz (kz_set hz (kz_set hz h))))))))))))
theorem bz_wset13 {Z : Nat → Prop} {w : World} {g : Nat} {v0 v1 v2 v3 v4 v5 v6 v7 v8 v9 v10 v11 v12 : Value} {p : Option Addr} {l : List St} (hz : Z g) (h : BodiesF Z w p l) : BodiesF Z (P.wset13 w g v0 v1 v2 v3 v4 v5 v6 v7 v8 v9 v10 v11 v12) p l :=
  bz_set hz (bz_set hz (bz_set hz (bz_set hz (bz_set hz (bz_set hz (bz_set hz (bz_set hz (bz_set hz (bz_set hz (bz_set hz (bz_set hz (bz_set hz h))))))))))))
theorem kids_nil (Z : Nat → Prop) (w : World) (a : Option Addr) : KidsF Z w a [] := Or.inl rfl
theorem bodies_nil (Z : Nat → Prop) (w : World) (a : Option Addr) : BodiesF Z w a [] := Or.inl rfl
theorem kp_set {B g i : Nat} {w w' : World} {b : Nat} {u : Value} (h : Kp B g w w') (hb : B ≤ b) : Kp B g w (w'.setCell ⟨b, i, none⟩ u) := h.trans (Kp.of ((Below.refl B w').setCell (p := ⟨b, i, none⟩) hb u))
theorem Bk.apart {w : World} {b c i : Nat} {cs : Array Value} {t : TypeId} {u : Value} (h : Bk w b cs t) (hne : b ≠ c) : Bk (w.setCell ⟨c, i, none⟩ u) b cs t := (Below.heap_setCell _ _ _ _ hne).trans h
end Go.Proofs.YteglaeopaocilaaGreatDoor.P
namespace Go.Proofs.YteglaeopaocilaaGreatDoor.P
open Go.RowKit
open L (Str Tok Tks toks At below_2 below_box ret_bool ret_int ret_string)
open A

/-- what gives a value to a variable, from the name on -/
noncomputable def asL (o : Int) (l : T) : R St := (nL l).to fun nm r => (wL [61] r).to fun _ r => (eL [59] r).to fun a r => .ok (.mk o nm 0 a noE [] []) r
set_option maxHeartbeats 8000000 in
set_option maxRecDepth 100000 in
theorem oassignment_any (g : Nat) (XS : List L.T) (k bl : Nat) (o : Int) (w : World) (h : Psr g XS k 0 bl w) :
    Calls Tryz.prog 178 #[ptr g, .int .i64 o] w fun e w' => PRd g XS 0 bl w w' (asL o (dr XS k)) (okSt w.heap.size w') e := by
  have hbx := below_box w (.cells #[.int .i64 0, .string ⟨#[]⟩, .int .i64 0, .int .i64 0, .int .i64 0, .string ⟨#[]⟩, .slice none 0 0, .int .i64 0, .int .i64 0, .string ⟨#[]⟩, .slice none 0 0, .slice none 0 0, .slice none 0 0] 76)
  have HM := Lib.hid (Bk.new w #[.int .i64 0, .string ⟨#[]⟩, .int .i64 0, .int .i64 0, .int .i64 0, .string ⟨#[]⟩, .slice none 0 0, .int .i64 0, .int .i64 0, .string ⟨#[]⟩, .slice none 0 0, .slice none 0 0, .slice none 0 0] 76)
  have hlt0 := h.lt
  have HP := Lib.hid (h.below hbx)
  have HB : Hid (Kp w.heap.size g w _) := Kp.of hbx
  have HQ : Hid ((asL o (dr XS k)) = (nL (dr XS k)).to fun nm r => (wL [61] r).to fun _ r => (eL [59] r).to fun a r => .ok (.mk o nm 0 a noE [] []) r) := rfl
  generalize (asL o (dr XS k)) = QF at HQ ⊢
  clear hbx h
  go_enter Tryz.func178, Tryz.ntmps178
  go_wp2_with fail
  generalize w.alloc (.cells #[.int .i64 0, .string ⟨#[]⟩, .int .i64 0, .int .i64 0, .int .i64 0, .string ⟨#[]⟩, .slice none 0 0, .int .i64 0, .int .i64 0, .string ⟨#[]⟩, .slice none 0 0, .slice none 0 0, .slice none 0 0] 76) = W0 at *
  generalize hB0 : w.heap.size = B at *
  have hgB : g < B := hlt0
  have hBW : B < W0.heap.size := HM.out.lt
  have HC1 := Lib.hid (cname g XS k bl W0 HP.out)
  have hsf1 := nL_sf (dr XS k)
  generalize nL (dr XS k) = q1 at HC1 HQ hsf1
  refine HC1.out.mono ?_; intro e w1 hm
  cases q1 with
  | no r x =>
    obtain ⟨j, hj, rfl⟩ := sf_no hsf1
    obtain ⟨hb, he⟩ := PRd.no_dr hm hj
    have HBp := Lib.hid (HB.out.on hB0 hb)
    unfold fails at he
    subst he
    have HJ := Lib.hid hj
    clear hb hm hj hsf1 HC1
    go_wp2_with fail
    refine ⟨rfl, ?_⟩
    rw [HQ.out]
    exact PRd.mk_no HJ.out (hB0.symm ▸ HBp.out)
  | ok nm r =>
    obtain ⟨k1, hk1, hj1, rfl⟩ := sf_ok hsf1
    obtain ⟨hb, v, rfl, hP, hv⟩ := PRd.ok_dr hm hj1
    unfold okN at hv
    subst hv
    have hw1 : W0.heap.size ≤ w1.heap.size := hb.size
    have HB_1 := Lib.hid (HB.out.on hB0 hb)
    have HM_2 := Lib.hid (HM.out.kp (by omega) hb)
    have HP_3 := Lib.hid hP
    clear hb hm hP hsf1 HC1
    clear HB HM HP
    have HQ_4 : Hid (QF = (wL [61] (dr XS k1)).to fun _ r => (eL [59] r).to fun a r => .ok (.mk o nm 0 a noE [] []) r) := HQ.out
    clear HQ
    have hx := below_box w1 (.cells #[.int .i64 o, .string nm, .int .i64 0, .int .i64 0, .int .i64 0, .string ⟨#[]⟩, .slice none 0 0, .int .i64 0, .int .i64 0, .string ⟨#[]⟩, .slice none 0 0, .slice none 0 0, .slice none 0 0] 76)
    have hBS : B < w1.heap.size := HM_2.out.lt
    have HS := Lib.hid (Bk.new w1 #[.int .i64 o, .string nm, .int .i64 0, .int .i64 0, .int .i64 0, .string ⟨#[]⟩, .slice none 0 0, .int .i64 0, .int .i64 0, .string ⟨#[]⟩, .slice none 0 0, .slice none 0 0, .slice none 0 0] 76)
    have HB_5 := Lib.hid (HB_1.out.on hB0 (Kp.of hx))
    have HM_6 := Lib.hid (HM_2.out.below hx)
    have HP_7 := Lib.hid (HP_3.out.below hx)
    have hSz : w1.heap.size < (w1.alloc (.cells #[.int .i64 o, .string nm, .int .i64 0, .int .i64 0, .int .i64 0, .string ⟨#[]⟩, .slice none 0 0, .int .i64 0, .int .i64 0, .string ⟨#[]⟩, .slice none 0 0, .slice none 0 0, .slice none 0 0] 76)).heap.size := HS.out.lt
    clear hx HB_1 HM_2 HP_3
    go_wp2_with fail
    generalize (w1.alloc (.cells #[.int .i64 o, .string nm, .int .i64 0, .int .i64 0, .int .i64 0, .string ⟨#[]⟩, .slice none 0 0, .int .i64 0, .int .i64 0, .string ⟨#[]⟩, .slice none 0 0, .slice none 0 0, .slice none 0 0] 76)) = W1a at *
    generalize hSv : w1.heap.size = S at *
    have HC2 := Lib.hid (cexpect g XS k1 bl ⟨#[61]⟩ [61] rfl W1a HP_7.out)
    have hsf2 := wL_sf [61] (dr XS k1)
    generalize wL [61] (dr XS k1) = q2 at HC2 HQ_4 hsf2
    refine HC2.out.mono ?_; intro e w2 hm
    cases q2 with
    | no r x =>
      obtain ⟨j, hj, rfl⟩ := sf_no hsf2
      obtain ⟨hb, he⟩ := PRd.no_dr hm hj
      have HBp := Lib.hid (HB_5.out.on hB0 hb)
      unfold fails at he
      subst he
      have HJ := Lib.hid hj
      clear hb hm hj hsf2 HC2
      go_wp2_with fail
      refine ⟨rfl, ?_⟩
      rw [HQ_4.out]
      exact PRd.mk_no HJ.out (hB0.symm ▸ HBp.out)
    | ok u r =>
      obtain ⟨k2, hk2, hj2, rfl⟩ := sf_ok hsf2
      obtain ⟨hb, v, rfl, hP, hv⟩ := PRd.ok_dr hm hj2
      unfold okU at hv
      subst hv
      have hw2 : W1a.heap.size ≤ w2.heap.size := hb.size
      have HB_8 := Lib.hid (HB_5.out.on hB0 hb)
      have HM_9 := Lib.hid (HM_6.out.kp (by omega) hb)
      have HP_10 := Lib.hid hP
      have HS_11 := Lib.hid (HS.out.kp (by omega) hb)
      clear hb hm hP hsf2 HC2
      clear HB_5 HM_6 HP_7 HS
      have HQ_12 : Hid (QF = (eL [59] (dr XS k2)).to fun a r => .ok (.mk o nm 0 a noE [] []) r) := HQ_4.out
      clear HQ_4
      go_wp2_with fail
      have HC3 := Lib.hid (cexprBefore g XS k2 bl ⟨#[59]⟩ [59] rfl w2 HP_10.out)
      have hsf3 := eL_sf [59] (dr XS k2)
      generalize eL [59] (dr XS k2) = q3 at HC3 HQ_12 hsf3
      refine HC3.out.mono ?_; intro e w3 hm
      cases q3 with
      | no r x =>
        obtain ⟨j, hj, rfl⟩ := sf_no hsf3
        obtain ⟨hb, he⟩ := PRd.no_dr hm hj
        have HBp := Lib.hid (HB_8.out.on hB0 hb)
        unfold fails at he
        subst he
        have HJ := Lib.hid hj
        clear hb hm hj hsf3 HC3
        go_wp2_with fail
        refine ⟨rfl, ?_⟩
        rw [HQ_12.out]
        exact PRd.mk_no HJ.out (hB0.symm ▸ HBp.out)
      | ok t r =>
        obtain ⟨k3, hk3, hj3, rfl⟩ := sf_ok hsf3
        obtain ⟨hb, v, rfl, hP, a0, c0, rfl, hK⟩ := PRd.ok_dr hm hj3
        have hw3 : w2.heap.size ≤ w3.heap.size := hb.size
        have HB_13 := Lib.hid (HB_8.out.on hB0 hb)
        have HM_14 := Lib.hid (HM_9.out.kp (by omega) hb)
        have HP_15 := Lib.hid hP
        have HS_16 := Lib.hid (HS_11.out.kp (by omega) hb)
        have HT3 : Hid (KidsF (Zk2 B S) w3 a0 t.args) := kz_of hK (fun i hi => by rcases hi with hi | hi <;> omega)
        unfold exV
        clear hb hm hP hsf3 HC3 hK
        clear HB_8 HM_9 HP_10 HS_11
        have HQ_17 : Hid (QF = .ok (.mk o nm 0 t noE [] []) (dr XS k3)) := HQ_12.out
        clear HQ_12
        obtain ⟨s0, s1, s2, s3, s4, s5, s6, s7, s8, s9, s10, s11, s12⟩ := cells13 HS_16.out
        obtain ⟨f0, f1, f2, f3, f4, f5, f6, f7, f8, f9, f10, f11, f12⟩ := free13 HS_16.out
        have HS_21 : Hid (Bk ((((w3.setCell ⟨S, 3, none⟩ (.int .i64 t.op)).setCell ⟨S, 4, none⟩ (.int .i64 t.n)).setCell ⟨S, 5, none⟩ (.string t.s)).setCell ⟨S, 6, none⟩ (.slice a0 t.args.length c0)) S #[.int .i64 o, .string nm, .int .i64 0, .int .i64 t.op, .int .i64 t.n, .string t.s, .slice a0 t.args.length c0, .int .i64 0, .int .i64 0, .string ⟨#[]⟩, .slice none 0 0, .slice none 0 0, .slice none 0 0] 76) := by
          have hx := ((((HS_16.out.set 3 (u := .int .i64 t.op)).set 4 (u := .int .i64 t.n)).set 5 (u := .string t.s)).set 6 (u := .slice a0 t.args.length c0))
          unfold Hid; simpa using hx
        have HB_18 : Hid (Kp B g w ((((w3.setCell ⟨S, 3, none⟩ (.int .i64 t.op)).setCell ⟨S, 4, none⟩ (.int .i64 t.n)).setCell ⟨S, 5, none⟩ (.string t.s)).setCell ⟨S, 6, none⟩ (.slice a0 t.args.length c0))) := kp_set (kp_set (kp_set (kp_set (HB_13.out) (by omega)) (by omega)) (by omega)) (by omega)
        have HM_19 : Hid (Bk ((((w3.setCell ⟨S, 3, none⟩ (.int .i64 t.op)).setCell ⟨S, 4, none⟩ (.int .i64 t.n)).setCell ⟨S, 5, none⟩ (.string t.s)).setCell ⟨S, 6, none⟩ (.slice a0 t.args.length c0)) B #[.int .i64 0, .string ⟨#[]⟩, .int .i64 0, .int .i64 0, .int .i64 0, .string ⟨#[]⟩, .slice none 0 0, .int .i64 0, .int .i64 0, .string ⟨#[]⟩, .slice none 0 0, .slice none 0 0, .slice none 0 0] 76) := ((((HM_14.out).apart (by omega)).apart (by omega)).apart (by omega)).apart (by omega)
        have HP_20 : Hid (Psr g XS k3 0 bl ((((w3.setCell ⟨S, 3, none⟩ (.int .i64 t.op)).setCell ⟨S, 4, none⟩ (.int .i64 t.n)).setCell ⟨S, 5, none⟩ (.string t.s)).setCell ⟨S, 6, none⟩ (.slice a0 t.args.length c0))) := ((((HP_15.out).set (by omega)).set (by omega)).set (by omega)).set (by omega)
        have HT3_22 : Hid (KidsF (Zk2 B S) ((((w3.setCell ⟨S, 3, none⟩ (.int .i64 t.op)).setCell ⟨S, 4, none⟩ (.int .i64 t.n)).setCell ⟨S, 5, none⟩ (.string t.s)).setCell ⟨S, 6, none⟩ (.slice a0 t.args.length c0)) a0 t.args) := kz_set (Or.inr rfl) (kz_set (Or.inr rfl) (kz_set (Or.inr rfl) (kz_set (Or.inr rfl) (HT3.out))))
        have hsz : ((((w3.setCell ⟨S, 3, none⟩ (.int .i64 t.op)).setCell ⟨S, 4, none⟩ (.int .i64 t.n)).setCell ⟨S, 5, none⟩ (.string t.s)).setCell ⟨S, 6, none⟩ (.slice a0 t.args.length c0)).heap.size = w3.heap.size := by simp [World.setCell]
        clear HB_13 HM_14 HP_15 HS_16 HT3
        obtain ⟨t0, t1, t2, t3, t4, t5, t6, t7, t8, t9, t10, t11, t12⟩ := cells13 HS_21.out
        obtain ⟨r0, r1, r2, r3, r4, r5, r6, r7, r8, r9, r10, r11, r12⟩ := cells13 HM_19.out
        obtain ⟨g0, g1, g2, g3, g4, g5, g6, g7, g8, g9, g10, g11, g12⟩ := free13 HM_19.out
        go_wp2_with fail
        obtain ⟨q0, q1, q2, q3, q4, q5, q6, q7, q8, q9, q10, q11, q12⟩ := cells13 (bk_set13 (v0 := .int .i64 o) (v1 := .string nm) (v2 := .int .i64 0) (v3 := .int .i64 t.op) (v4 := .int .i64 t.n) (v5 := .string t.s) (v6 := .slice a0 t.args.length c0) (v7 := .int .i64 0) (v8 := .int .i64 0) (v9 := .string ⟨#[]⟩) (v10 := .slice none 0 0) (v11 := .slice none 0 0) (v12 := .slice none 0 0) HM_19.out)
        unfold wset13 at q0 q1 q2 q3 q4 q5 q6 q7 q8 q9 q10 q11 q12
        refine bodyPost_ret (v := .agg #[.int .i64 o, .string nm, .int .i64 0, .int .i64 t.op, .int .i64 t.n, .string t.s, .slice a0 t.args.length c0, .int .i64 0, .int .i64 0, .string ⟨#[]⟩, .slice none 0 0, .slice none 0 0, .slice none 0 0]) (by simp [results, Tryz.results178, go_sem, q0, q1, q2, q3, q4, q5, q6, q7, q8, q9, q10, q11, q12]) rfl ?_
        rw [HQ_17.out]
        exact PRd.mk_ok hj3 (kp_wset13 (b := B) (hB0.symm ▸ HB_18.out) (Nat.le_of_eq hB0)) (HP_20.out.wset13 (b := B) hgB) (okSt_0 ⟨a0, c0, none, 0, none, 0, none, 0, rfl, (kz_of (Z := Zk2 B S) (kz_wset13 (g := B) (Or.inl (Nat.lt_succ_self B)) HT3_22.out) (fun i hi => Or.inl (Nat.lt_succ_of_lt (hB0 ▸ hi)))), kids_nil _ _ _, bodies_nil _ _ _, bodies_nil _ _ _⟩)
end Go.Proofs.YteglaeopaocilaaGreatDoor.P
namespace Go.Proofs.YteglaeopaocilaaGreatDoor.P
open Go.RowKit
open L (Str Tok Tks toks At below_2 below_box ret_bool ret_int ret_string)
open A

/-- what follows the word of a put statement, of an abort statement -/
noncomputable def ptL (l : T) : R St := (eL [61] l).to fun a r => (eL [59] r).to fun b r => .ok (.mk 3 none8 0 a b [] []) r
def abL (l : T) : R St := (mL l).to fun m r => (wL [59] r).to fun _ r => .ok (.mk 8 none8 m noE noE [] []) r
set_option maxHeartbeats 8000000 in
set_option maxRecDepth 100000 in
theorem qput_any (g : Nat) (XS : List L.T) (k bl : Nat)  (w : World) (h : Psr g XS k 0 bl w) :
    Calls Tryz.prog 179 #[ptr g] w fun e w' => PRd g XS 0 bl w w' (ptL (dr XS k)) (okSt w.heap.size w') e := by
  have hbx := below_box w (.cells #[.int .i64 0, .string ⟨#[]⟩, .int .i64 0, .int .i64 0, .int .i64 0, .string ⟨#[]⟩, .slice none 0 0, .int .i64 0, .int .i64 0, .string ⟨#[]⟩, .slice none 0 0, .slice none 0 0, .slice none 0 0] 76)
  have HM := Lib.hid (Bk.new w #[.int .i64 0, .string ⟨#[]⟩, .int .i64 0, .int .i64 0, .int .i64 0, .string ⟨#[]⟩, .slice none 0 0, .int .i64 0, .int .i64 0, .string ⟨#[]⟩, .slice none 0 0, .slice none 0 0, .slice none 0 0] 76)
  have hlt0 := h.lt
  have HP := Lib.hid (h.below hbx)
  have HB : Hid (Kp w.heap.size g w _) := Kp.of hbx
  have HQ : Hid ((ptL (dr XS k)) = (eL [61] (dr XS k)).to fun a r => (eL [59] r).to fun b r => .ok (.mk 3 none8 0 a b [] []) r) := rfl
  generalize (ptL (dr XS k)) = QF at HQ ⊢
  clear hbx h
  go_enter Tryz.func179, Tryz.ntmps179
  go_wp2_with fail
  generalize w.alloc (.cells #[.int .i64 0, .string ⟨#[]⟩, .int .i64 0, .int .i64 0, .int .i64 0, .string ⟨#[]⟩, .slice none 0 0, .int .i64 0, .int .i64 0, .string ⟨#[]⟩, .slice none 0 0, .slice none 0 0, .slice none 0 0] 76) = W0 at *
  generalize hB0 : w.heap.size = B at *
  have hgB : g < B := hlt0
  have hBW : B < W0.heap.size := HM.out.lt
  have HC1 := Lib.hid (cexprBefore g XS k bl ⟨#[61]⟩ [61] rfl W0 HP.out)
  have hsf1 := eL_sf [61] (dr XS k)
  generalize eL [61] (dr XS k) = q1 at HC1 HQ hsf1
  refine HC1.out.mono ?_; intro e w1 hm
  cases q1 with
  | no r x =>
    obtain ⟨j, hj, rfl⟩ := sf_no hsf1
    obtain ⟨hb, he⟩ := PRd.no_dr hm hj
    have HBp := Lib.hid (HB.out.on hB0 hb)
    unfold fails at he
    subst he
    have HJ := Lib.hid hj
    clear hb hm hj hsf1 HC1
    go_wp2_with fail
    refine ⟨rfl, ?_⟩
    rw [HQ.out]
    exact PRd.mk_no HJ.out (hB0.symm ▸ HBp.out)
  | ok t r =>
    obtain ⟨k1, hk1, hj1, rfl⟩ := sf_ok hsf1
    obtain ⟨hb, v, rfl, hP, a0, c0, rfl, hK⟩ := PRd.ok_dr hm hj1
    have hw1 : W0.heap.size ≤ w1.heap.size := hb.size
    have HB_1 := Lib.hid (HB.out.on hB0 hb)
    have HM_2 := Lib.hid (HM.out.kp (by omega) hb)
    have HP_3 := Lib.hid hP
    have HT1 : Hid (KidsF (fun j => j < B + 1 ∨ w1.heap.size ≤ j) w1 a0 t.args) := kz_of (grow_kids hK) (fun i hi => by rcases hi with hi | hi <;> omega)
    unfold exV
    clear hb hm hP hsf1 HC1 hK
    clear HB HM HP
    have HQ_4 : Hid (QF = (eL [59] (dr XS k1)).to fun b r => .ok (.mk 3 none8 0 t b [] []) r) := HQ.out
    clear HQ
    have hx := below_box w1 (.cells #[.int .i64 3, .string ⟨#[]⟩, .int .i64 0, .int .i64 t.op, .int .i64 t.n, .string t.s, .slice a0 t.args.length c0, .int .i64 0, .int .i64 0, .string ⟨#[]⟩, .slice none 0 0, .slice none 0 0, .slice none 0 0] 76)
    have hBS : B < w1.heap.size := HM_2.out.lt
    have HS := Lib.hid (Bk.new w1 #[.int .i64 3, .string ⟨#[]⟩, .int .i64 0, .int .i64 t.op, .int .i64 t.n, .string t.s, .slice a0 t.args.length c0, .int .i64 0, .int .i64 0, .string ⟨#[]⟩, .slice none 0 0, .slice none 0 0, .slice none 0 0] 76)
    have HB_5 := Lib.hid (HB_1.out.on hB0 (Kp.of hx))
    have HM_6 := Lib.hid (HM_2.out.below hx)
    have HP_7 := Lib.hid (HP_3.out.below hx)
    have HT1_8 : Hid (KidsF (Zk2 B w1.heap.size) (w1.alloc (.cells #[.int .i64 3, .string ⟨#[]⟩, .int .i64 0, .int .i64 t.op, .int .i64 t.n, .string t.s, .slice a0 t.args.length c0, .int .i64 0, .int .i64 0, .string ⟨#[]⟩, .slice none 0 0, .slice none 0 0, .slice none 0 0] 76)) a0 t.args) := kz_kp (Z := Zk2 B w1.heap.size) (g := g) (kz_of HT1.out (fun i hi => by rcases hi with hi | hi <;> omega)) (Or.inl (by omega)) (Kp.of hx)
    have hSz : w1.heap.size < (w1.alloc (.cells #[.int .i64 3, .string ⟨#[]⟩, .int .i64 0, .int .i64 t.op, .int .i64 t.n, .string t.s, .slice a0 t.args.length c0, .int .i64 0, .int .i64 0, .string ⟨#[]⟩, .slice none 0 0, .slice none 0 0, .slice none 0 0] 76)).heap.size := HS.out.lt
    clear hx HB_1 HM_2 HP_3 HT1
    go_wp2_with fail
    generalize (w1.alloc (.cells #[.int .i64 3, .string ⟨#[]⟩, .int .i64 0, .int .i64 t.op, .int .i64 t.n, .string t.s, .slice a0 t.args.length c0, .int .i64 0, .int .i64 0, .string ⟨#[]⟩, .slice none 0 0, .slice none 0 0, .slice none 0 0] 76)) = W1a at *
    generalize hSv : w1.heap.size = S at *
    have HC2 := Lib.hid (cexprBefore g XS k1 bl ⟨#[59]⟩ [59] rfl W1a HP_7.out)
    have hsf2 := eL_sf [59] (dr XS k1)
    generalize eL [59] (dr XS k1) = q2 at HC2 HQ_4 hsf2
    refine HC2.out.mono ?_; intro e w2 hm
    cases q2 with
    | no r x =>
      obtain ⟨j, hj, rfl⟩ := sf_no hsf2
      obtain ⟨hb, he⟩ := PRd.no_dr hm hj
      have HBp := Lib.hid (HB_5.out.on hB0 hb)
      unfold fails at he
      subst he
      have HJ := Lib.hid hj
      clear hb hm hj hsf2 HC2
      go_wp2_with fail
      refine ⟨rfl, ?_⟩
      rw [HQ_4.out]
      exact PRd.mk_no HJ.out (hB0.symm ▸ HBp.out)
    | ok tb r =>
      obtain ⟨k2, hk2, hj2, rfl⟩ := sf_ok hsf2
      obtain ⟨hb, v, rfl, hP, a2, c2, rfl, hK⟩ := PRd.ok_dr hm hj2
      have hw2 : W1a.heap.size ≤ w2.heap.size := hb.size
      have HB_9 := Lib.hid (HB_5.out.on hB0 hb)
      have HM_10 := Lib.hid (HM_6.out.kp (by omega) hb)
      have HP_11 := Lib.hid hP
      have HS_12 := Lib.hid (HS.out.kp (by omega) hb)
      have HT1_13 := Lib.hid (kz_kp HT1_8.out (Or.inl (by omega)) hb)
      have HT2 : Hid (KidsF (Zk2 B S) w2 a2 tb.args) := kz_of hK (fun i hi => by rcases hi with hi | hi <;> omega)
      unfold exV
      clear hb hm hP hsf2 HC2 hK
      clear HB_5 HM_6 HP_7 HS HT1_8
      have HQ_14 : Hid (QF = .ok (.mk 3 none8 0 t tb [] []) (dr XS k2)) := HQ_4.out
      clear HQ_4
      obtain ⟨s0, s1, s2, s3, s4, s5, s6, s7, s8, s9, s10, s11, s12⟩ := cells13 HS_12.out
      obtain ⟨f0, f1, f2, f3, f4, f5, f6, f7, f8, f9, f10, f11, f12⟩ := free13 HS_12.out
      have HS_18 : Hid (Bk ((((w2.setCell ⟨S, 7, none⟩ (.int .i64 tb.op)).setCell ⟨S, 8, none⟩ (.int .i64 tb.n)).setCell ⟨S, 9, none⟩ (.string tb.s)).setCell ⟨S, 10, none⟩ (.slice a2 tb.args.length c2)) S #[.int .i64 3, .string ⟨#[]⟩, .int .i64 0, .int .i64 t.op, .int .i64 t.n, .string t.s, .slice a0 t.args.length c0, .int .i64 tb.op, .int .i64 tb.n, .string tb.s, .slice a2 tb.args.length c2, .slice none 0 0, .slice none 0 0] 76) := by
        have hx := ((((HS_12.out.set 7 (u := .int .i64 tb.op)).set 8 (u := .int .i64 tb.n)).set 9 (u := .string tb.s)).set 10 (u := .slice a2 tb.args.length c2))
        unfold Hid; simpa using hx
      have HB_15 : Hid (Kp B g w ((((w2.setCell ⟨S, 7, none⟩ (.int .i64 tb.op)).setCell ⟨S, 8, none⟩ (.int .i64 tb.n)).setCell ⟨S, 9, none⟩ (.string tb.s)).setCell ⟨S, 10, none⟩ (.slice a2 tb.args.length c2))) := kp_set (kp_set (kp_set (kp_set (HB_9.out) (by omega)) (by omega)) (by omega)) (by omega)
      have HM_16 : Hid (Bk ((((w2.setCell ⟨S, 7, none⟩ (.int .i64 tb.op)).setCell ⟨S, 8, none⟩ (.int .i64 tb.n)).setCell ⟨S, 9, none⟩ (.string tb.s)).setCell ⟨S, 10, none⟩ (.slice a2 tb.args.length c2)) B #[.int .i64 0, .string ⟨#[]⟩, .int .i64 0, .int .i64 0, .int .i64 0, .string ⟨#[]⟩, .slice none 0 0, .int .i64 0, .int .i64 0, .string ⟨#[]⟩, .slice none 0 0, .slice none 0 0, .slice none 0 0] 76) := ((((HM_10.out).apart (by omega)).apart (by omega)).apart (by omega)).apart (by omega)
      have HP_17 : Hid (Psr g XS k2 0 bl ((((w2.setCell ⟨S, 7, none⟩ (.int .i64 tb.op)).setCell ⟨S, 8, none⟩ (.int .i64 tb.n)).setCell ⟨S, 9, none⟩ (.string tb.s)).setCell ⟨S, 10, none⟩ (.slice a2 tb.args.length c2))) := ((((HP_11.out).set (by omega)).set (by omega)).set (by omega)).set (by omega)
      have HT1_19 : Hid (KidsF (Zk2 B S) ((((w2.setCell ⟨S, 7, none⟩ (.int .i64 tb.op)).setCell ⟨S, 8, none⟩ (.int .i64 tb.n)).setCell ⟨S, 9, none⟩ (.string tb.s)).setCell ⟨S, 10, none⟩ (.slice a2 tb.args.length c2)) a0 t.args) := kz_set (Or.inr rfl) (kz_set (Or.inr rfl) (kz_set (Or.inr rfl) (kz_set (Or.inr rfl) (HT1_13.out))))
      have HT2_20 : Hid (KidsF (Zk2 B S) ((((w2.setCell ⟨S, 7, none⟩ (.int .i64 tb.op)).setCell ⟨S, 8, none⟩ (.int .i64 tb.n)).setCell ⟨S, 9, none⟩ (.string tb.s)).setCell ⟨S, 10, none⟩ (.slice a2 tb.args.length c2)) a2 tb.args) := kz_set (Or.inr rfl) (kz_set (Or.inr rfl) (kz_set (Or.inr rfl) (kz_set (Or.inr rfl) (HT2.out))))
      have hsz : ((((w2.setCell ⟨S, 7, none⟩ (.int .i64 tb.op)).setCell ⟨S, 8, none⟩ (.int .i64 tb.n)).setCell ⟨S, 9, none⟩ (.string tb.s)).setCell ⟨S, 10, none⟩ (.slice a2 tb.args.length c2)).heap.size = w2.heap.size := by simp [World.setCell]
      clear HB_9 HM_10 HP_11 HS_12 HT1_13 HT2
      obtain ⟨t0, t1, t2, t3, t4, t5, t6, t7, t8, t9, t10, t11, t12⟩ := cells13 HS_18.out
      obtain ⟨r0, r1, r2, r3, r4, r5, r6, r7, r8, r9, r10, r11, r12⟩ := cells13 HM_16.out
      obtain ⟨g0, g1, g2, g3, g4, g5, g6, g7, g8, g9, g10, g11, g12⟩ := free13 HM_16.out
      go_wp2_with fail
      obtain ⟨q0, q1, q2, q3, q4, q5, q6, q7, q8, q9, q10, q11, q12⟩ := cells13 (bk_set13 (v0 := .int .i64 3) (v1 := .string ⟨#[]⟩) (v2 := .int .i64 0) (v3 := .int .i64 t.op) (v4 := .int .i64 t.n) (v5 := .string t.s) (v6 := .slice a0 t.args.length c0) (v7 := .int .i64 tb.op) (v8 := .int .i64 tb.n) (v9 := .string tb.s) (v10 := .slice a2 tb.args.length c2) (v11 := .slice none 0 0) (v12 := .slice none 0 0) HM_16.out)
      unfold wset13 at q0 q1 q2 q3 q4 q5 q6 q7 q8 q9 q10 q11 q12
      refine bodyPost_ret (v := .agg #[.int .i64 3, .string ⟨#[]⟩, .int .i64 0, .int .i64 t.op, .int .i64 t.n, .string t.s, .slice a0 t.args.length c0, .int .i64 tb.op, .int .i64 tb.n, .string tb.s, .slice a2 tb.args.length c2, .slice none 0 0, .slice none 0 0]) (by simp [results, Tryz.results179, go_sem, q0, q1, q2, q3, q4, q5, q6, q7, q8, q9, q10, q11, q12]) rfl ?_
      rw [HQ_14.out]
      exact PRd.mk_ok hj2 (kp_wset13 (b := B) (hB0.symm ▸ HB_15.out) (Nat.le_of_eq hB0)) (HP_17.out.wset13 (b := B) hgB) (okSt_0 ⟨a0, c0, a2, c2, none, 0, none, 0, rfl, (kz_of (Z := Zk2 B S) (kz_wset13 (g := B) (Or.inl (Nat.lt_succ_self B)) HT1_19.out) (fun i hi => Or.inl (Nat.lt_succ_of_lt (hB0 ▸ hi)))), (kz_of (Z := Zk2 B S) (kz_wset13 (g := B) (Or.inl (Nat.lt_succ_self B)) HT2_20.out) (fun i hi => Or.inl (Nat.lt_succ_of_lt (hB0 ▸ hi)))), bodies_nil _ _ _, bodies_nil _ _ _⟩)
set_option maxHeartbeats 8000000 in
set_option maxRecDepth 100000 in
theorem qabort_any (g : Nat) (XS : List L.T) (k bl : Nat)  (w : World) (h : Psr g XS k 0 bl w) :
    Calls Tryz.prog 183 #[ptr g] w fun e w' => PRd g XS 0 bl w w' (abL (dr XS k)) (okSt w.heap.size w') e := by
  have hbx := below_box w (.cells #[.int .i64 0, .string ⟨#[]⟩, .int .i64 0, .int .i64 0, .int .i64 0, .string ⟨#[]⟩, .slice none 0 0, .int .i64 0, .int .i64 0, .string ⟨#[]⟩, .slice none 0 0, .slice none 0 0, .slice none 0 0] 76)
  have HM := Lib.hid (Bk.new w #[.int .i64 0, .string ⟨#[]⟩, .int .i64 0, .int .i64 0, .int .i64 0, .string ⟨#[]⟩, .slice none 0 0, .int .i64 0, .int .i64 0, .string ⟨#[]⟩, .slice none 0 0, .slice none 0 0, .slice none 0 0] 76)
  have hlt0 := h.lt
  have HP := Lib.hid (h.below hbx)
  have HB : Hid (Kp w.heap.size g w _) := Kp.of hbx
  have HQ : Hid ((abL (dr XS k)) = (mL (dr XS k)).to fun m r => (wL [59] r).to fun _ r => .ok (.mk 8 none8 m noE noE [] []) r) := rfl
  generalize (abL (dr XS k)) = QF at HQ ⊢
  clear hbx h
  go_enter Tryz.func183, Tryz.ntmps183
  go_wp2_with fail
  generalize w.alloc (.cells #[.int .i64 0, .string ⟨#[]⟩, .int .i64 0, .int .i64 0, .int .i64 0, .string ⟨#[]⟩, .slice none 0 0, .int .i64 0, .int .i64 0, .string ⟨#[]⟩, .slice none 0 0, .slice none 0 0, .slice none 0 0] 76) = W0 at *
  generalize hB0 : w.heap.size = B at *
  have hgB : g < B := hlt0
  have hBW : B < W0.heap.size := HM.out.lt
  have HC1 := Lib.hid (cmax g XS k bl W0 HP.out)
  have hsf1 := mL_sf (dr XS k)
  generalize mL (dr XS k) = q1 at HC1 HQ hsf1
  refine HC1.out.mono ?_; intro e w1 hm
  cases q1 with
  | no r x =>
    obtain ⟨j, hj, rfl⟩ := sf_no hsf1
    obtain ⟨hb, he⟩ := PRd.no_dr hm hj
    have HBp := Lib.hid (HB.out.on hB0 hb)
    unfold fails at he
    subst he
    have HJ := Lib.hid hj
    clear hb hm hj hsf1 HC1
    go_wp2_with fail
    refine ⟨rfl, ?_⟩
    rw [HQ.out]
    exact PRd.mk_no HJ.out (hB0.symm ▸ HBp.out)
  | ok m r =>
    obtain ⟨k1, hk1, hj1, rfl⟩ := sf_ok hsf1
    obtain ⟨hb, v, rfl, hP, hv⟩ := PRd.ok_dr hm hj1
    unfold okM at hv
    subst hv
    have hw1 : W0.heap.size ≤ w1.heap.size := hb.size
    have HB_1 := Lib.hid (HB.out.on hB0 hb)
    have HM_2 := Lib.hid (HM.out.kp (by omega) hb)
    have HP_3 := Lib.hid hP
    clear hb hm hP hsf1 HC1
    clear HB HM HP
    have HQ_4 : Hid (QF = (wL [59] (dr XS k1)).to fun _ r => .ok (.mk 8 none8 m noE noE [] []) r) := HQ.out
    clear HQ
    have hx := below_box w1 (.cells #[.int .i64 8, .string ⟨#[]⟩, .int .i64 (cut m), .int .i64 0, .int .i64 0, .string ⟨#[]⟩, .slice none 0 0, .int .i64 0, .int .i64 0, .string ⟨#[]⟩, .slice none 0 0, .slice none 0 0, .slice none 0 0] 76)
    have hBS : B < w1.heap.size := HM_2.out.lt
    have HS := Lib.hid (Bk.new w1 #[.int .i64 8, .string ⟨#[]⟩, .int .i64 (cut m), .int .i64 0, .int .i64 0, .string ⟨#[]⟩, .slice none 0 0, .int .i64 0, .int .i64 0, .string ⟨#[]⟩, .slice none 0 0, .slice none 0 0, .slice none 0 0] 76)
    have HB_5 := Lib.hid (HB_1.out.on hB0 (Kp.of hx))
    have HM_6 := Lib.hid (HM_2.out.below hx)
    have HP_7 := Lib.hid (HP_3.out.below hx)
    have hSz : w1.heap.size < (w1.alloc (.cells #[.int .i64 8, .string ⟨#[]⟩, .int .i64 (cut m), .int .i64 0, .int .i64 0, .string ⟨#[]⟩, .slice none 0 0, .int .i64 0, .int .i64 0, .string ⟨#[]⟩, .slice none 0 0, .slice none 0 0, .slice none 0 0] 76)).heap.size := HS.out.lt
    clear hx HB_1 HM_2 HP_3
    go_wp2_with fail
    generalize (w1.alloc (.cells #[.int .i64 8, .string ⟨#[]⟩, .int .i64 (cut m), .int .i64 0, .int .i64 0, .string ⟨#[]⟩, .slice none 0 0, .int .i64 0, .int .i64 0, .string ⟨#[]⟩, .slice none 0 0, .slice none 0 0, .slice none 0 0] 76)) = W1a at *
    generalize hSv : w1.heap.size = S at *
    have HC2 := Lib.hid (cexpect g XS k1 bl ⟨#[59]⟩ [59] rfl W1a HP_7.out)
    have hsf2 := wL_sf [59] (dr XS k1)
    generalize wL [59] (dr XS k1) = q2 at HC2 HQ_4 hsf2
    refine HC2.out.mono ?_; intro e w2 hm
    cases q2 with
    | no r x =>
      obtain ⟨j, hj, rfl⟩ := sf_no hsf2
      obtain ⟨hb, he⟩ := PRd.no_dr hm hj
      have HBp := Lib.hid (HB_5.out.on hB0 hb)
      unfold fails at he
      subst he
      have HJ := Lib.hid hj
      clear hb hm hj hsf2 HC2
      go_wp2_with fail
      refine ⟨rfl, ?_⟩
      rw [HQ_4.out]
      exact PRd.mk_no HJ.out (hB0.symm ▸ HBp.out)
    | ok u r =>
      obtain ⟨k2, hk2, hj2, rfl⟩ := sf_ok hsf2
      obtain ⟨hb, v, rfl, hP, hv⟩ := PRd.ok_dr hm hj2
      unfold okU at hv
      subst hv
      have hw2 : W1a.heap.size ≤ w2.heap.size := hb.size
      have HB_8 := Lib.hid (HB_5.out.on hB0 hb)
      have HM_9 := Lib.hid (HM_6.out.kp (by omega) hb)
      have HP_10 := Lib.hid hP
      have HS_11 := Lib.hid (HS.out.kp (by omega) hb)
      clear hb hm hP hsf2 HC2
      clear HB_5 HM_6 HP_7 HS
      have HQ_12 : Hid (QF = .ok (.mk 8 none8 m noE noE [] []) (dr XS k2)) := HQ_4.out
      clear HQ_4
      obtain ⟨t0, t1, t2, t3, t4, t5, t6, t7, t8, t9, t10, t11, t12⟩ := cells13 HS_11.out
      obtain ⟨r0, r1, r2, r3, r4, r5, r6, r7, r8, r9, r10, r11, r12⟩ := cells13 HM_9.out
      obtain ⟨g0, g1, g2, g3, g4, g5, g6, g7, g8, g9, g10, g11, g12⟩ := free13 HM_9.out
      go_wp2_with fail
      obtain ⟨q0, q1, q2, q3, q4, q5, q6, q7, q8, q9, q10, q11, q12⟩ := cells13 (bk_set13 (v0 := .int .i64 8) (v1 := .string ⟨#[]⟩) (v2 := .int .i64 (cut m)) (v3 := .int .i64 0) (v4 := .int .i64 0) (v5 := .string ⟨#[]⟩) (v6 := .slice none 0 0) (v7 := .int .i64 0) (v8 := .int .i64 0) (v9 := .string ⟨#[]⟩) (v10 := .slice none 0 0) (v11 := .slice none 0 0) (v12 := .slice none 0 0) HM_9.out)
      unfold wset13 at q0 q1 q2 q3 q4 q5 q6 q7 q8 q9 q10 q11 q12
      refine bodyPost_ret (v := .agg #[.int .i64 8, .string ⟨#[]⟩, .int .i64 (cut m), .int .i64 0, .int .i64 0, .string ⟨#[]⟩, .slice none 0 0, .int .i64 0, .int .i64 0, .string ⟨#[]⟩, .slice none 0 0, .slice none 0 0, .slice none 0 0]) (by simp [results, Tryz.results183, go_sem, q0, q1, q2, q3, q4, q5, q6, q7, q8, q9, q10, q11, q12]) rfl ?_
      rw [HQ_12.out]
      exact PRd.mk_ok hj2 (kp_wset13 (b := B) (hB0.symm ▸ HB_8.out) (Nat.le_of_eq hB0)) (HP_10.out.wset13 (b := B) hgB) (okSt_m ⟨none, 0, none, 0, none, 0, none, 0, rfl, kids_nil _ _ _, kids_nil _ _ _, bodies_nil _ _ _, bodies_nil _ _ _⟩)
end Go.Proofs.YteglaeopaocilaaGreatDoor.P
namespace Go.Proofs.YteglaeopaocilaaGreatDoor.P
open Go.RowKit
open L (Str Tok Tks toks At below_2 below_box ret_bool ret_int ret_string)
open A

/-- a method that reads a block from the k-th token on -/
def CBk (g : Nat) (XS : List L.T) (k bl : Nat) : Prop := ∀ w', Psr g XS k 0 bl w' → Calls Tryz.prog 85 #[ptr g] w' fun e w'' => PRd g XS 0 bl w' w'' (gB bl (dr XS k)) (okBl w'.heap.size w'') e
/-- what follows the word of a for statement -/
noncomputable def lpL (d : Nat) (l : T) : R St := (nL l).to fun nm r => (wL [61] r).to fun _ r => (eL kTo r).to fun a r => (eL kMax r).to fun b r => (mL r).to fun m r => (gB d r).to fun bd r => .ok (.mk 6 nm m a b bd []) r
/-- what follows the word of an if statement -/
noncomputable def qelL (d : Nat) (a : Ex) (bd : List St) (r : T) : R St := if isW r kElse = true then (gB d r.tail).to fun el r => .ok (.mk 5 none8 0 a noE bd el) r else .ok (.mk 5 none8 0 a noE bd []) r
noncomputable def whL (d : Nat) (l : T) : R St := (gX 1 0 l).to fun a r => (gB d r).to fun bd r => qelL d a bd r
set_option maxHeartbeats 8000000 in
set_option maxRecDepth 100000 in
theorem qloop_any (g : Nat) (XS : List L.T) (k bl : Nat) (HBk : Hid (∀ k', k < k' → k' ≤ XS.length → CBk g XS k' bl)) (w : World) (h : Psr g XS k 0 bl w) :
    Calls Tryz.prog 182 #[ptr g] w fun e w' => PRd g XS 0 bl w w' (lpL bl (dr XS k)) (okSt w.heap.size w') e := by
  have hbx := below_box w (.cells #[.int .i64 0, .string ⟨#[]⟩, .int .i64 0, .int .i64 0, .int .i64 0, .string ⟨#[]⟩, .slice none 0 0, .int .i64 0, .int .i64 0, .string ⟨#[]⟩, .slice none 0 0, .slice none 0 0, .slice none 0 0] 76)
  have HM := Lib.hid (Bk.new w #[.int .i64 0, .string ⟨#[]⟩, .int .i64 0, .int .i64 0, .int .i64 0, .string ⟨#[]⟩, .slice none 0 0, .int .i64 0, .int .i64 0, .string ⟨#[]⟩, .slice none 0 0, .slice none 0 0, .slice none 0 0] 76)
  have hlt0 := h.lt
  have HP := Lib.hid (h.below hbx)
  have HB : Hid (Kp w.heap.size g w _) := Kp.of hbx
  have HQ : Hid ((lpL bl (dr XS k)) = (nL (dr XS k)).to fun nm r => (wL [61] r).to fun _ r => (eL kTo r).to fun a r => (eL kMax r).to fun b r => (mL r).to fun m r => (gB bl r).to fun bd r => .ok (.mk 6 nm m a b bd []) r) := rfl
  generalize (lpL bl (dr XS k)) = QF at HQ ⊢
  clear hbx h
  go_enter Tryz.func182, Tryz.ntmps182
  go_wp2_with fail
  generalize w.alloc (.cells #[.int .i64 0, .string ⟨#[]⟩, .int .i64 0, .int .i64 0, .int .i64 0, .string ⟨#[]⟩, .slice none 0 0, .int .i64 0, .int .i64 0, .string ⟨#[]⟩, .slice none 0 0, .slice none 0 0, .slice none 0 0] 76) = W0 at *
  generalize hB0 : w.heap.size = B at *
  have hgB : g < B := hlt0
  have hBW : B < W0.heap.size := HM.out.lt
  have HC1 := Lib.hid (cname g XS k bl W0 HP.out)
  have hsf1 := nL_sf (dr XS k)
  generalize nL (dr XS k) = q1 at HC1 HQ hsf1
  refine HC1.out.mono ?_; intro e w1 hm
  cases q1 with
  | no r x =>
    obtain ⟨j, hj, rfl⟩ := sf_no hsf1
    obtain ⟨hb, he⟩ := PRd.no_dr hm hj
    have HBp := Lib.hid (HB.out.on hB0 hb)
    unfold fails at he
    subst he
    have HJ := Lib.hid hj
    clear hb hm hj hsf1 HC1
    go_wp2_with fail
    refine ⟨rfl, ?_⟩
    rw [HQ.out]
    exact PRd.mk_no HJ.out (hB0.symm ▸ HBp.out)
  | ok nm r =>
    obtain ⟨k1, hk1, hj1, rfl⟩ := sf_ok hsf1
    obtain ⟨hb, v, rfl, hP, hv⟩ := PRd.ok_dr hm hj1
    unfold okN at hv
    subst hv
    have hw1 : W0.heap.size ≤ w1.heap.size := hb.size
    have HB_1 := Lib.hid (HB.out.on hB0 hb)
    have HM_2 := Lib.hid (HM.out.kp (by omega) hb)
    have HP_3 := Lib.hid hP
    clear hb hm hP hsf1 HC1
    clear HB HM HP
    have HQ_4 : Hid (QF = (wL [61] (dr XS k1)).to fun _ r => (eL kTo r).to fun a r => (eL kMax r).to fun b r => (mL r).to fun m r => (gB bl r).to fun bd r => .ok (.mk 6 nm m a b bd []) r) := HQ.out
    clear HQ
    have hx := below_box w1 (.cells #[.int .i64 6, .string nm, .int .i64 0, .int .i64 0, .int .i64 0, .string ⟨#[]⟩, .slice none 0 0, .int .i64 0, .int .i64 0, .string ⟨#[]⟩, .slice none 0 0, .slice none 0 0, .slice none 0 0] 76)
    have hBS : B < w1.heap.size := HM_2.out.lt
    have HS := Lib.hid (Bk.new w1 #[.int .i64 6, .string nm, .int .i64 0, .int .i64 0, .int .i64 0, .string ⟨#[]⟩, .slice none 0 0, .int .i64 0, .int .i64 0, .string ⟨#[]⟩, .slice none 0 0, .slice none 0 0, .slice none 0 0] 76)
    have HB_5 := Lib.hid (HB_1.out.on hB0 (Kp.of hx))
    have HM_6 := Lib.hid (HM_2.out.below hx)
    have HP_7 := Lib.hid (HP_3.out.below hx)
    have hSz : w1.heap.size < (w1.alloc (.cells #[.int .i64 6, .string nm, .int .i64 0, .int .i64 0, .int .i64 0, .string ⟨#[]⟩, .slice none 0 0, .int .i64 0, .int .i64 0, .string ⟨#[]⟩, .slice none 0 0, .slice none 0 0, .slice none 0 0] 76)).heap.size := HS.out.lt
    clear hx HB_1 HM_2 HP_3
    go_wp2_with fail
    generalize (w1.alloc (.cells #[.int .i64 6, .string nm, .int .i64 0, .int .i64 0, .int .i64 0, .string ⟨#[]⟩, .slice none 0 0, .int .i64 0, .int .i64 0, .string ⟨#[]⟩, .slice none 0 0, .slice none 0 0, .slice none 0 0] 76)) = W1a at *
    generalize hSv : w1.heap.size = S at *
    have HC2 := Lib.hid (cexpect g XS k1 bl ⟨#[61]⟩ [61] rfl W1a HP_7.out)
    have hsf2 := wL_sf [61] (dr XS k1)
    generalize wL [61] (dr XS k1) = q2 at HC2 HQ_4 hsf2
    refine HC2.out.mono ?_; intro e w2 hm
    cases q2 with
    | no r x =>
      obtain ⟨j, hj, rfl⟩ := sf_no hsf2
      obtain ⟨hb, he⟩ := PRd.no_dr hm hj
      have HBp := Lib.hid (HB_5.out.on hB0 hb)
      unfold fails at he
      subst he
      have HJ := Lib.hid hj
      clear hb hm hj hsf2 HC2
      go_wp2_with fail
      refine ⟨rfl, ?_⟩
      rw [HQ_4.out]
      exact PRd.mk_no HJ.out (hB0.symm ▸ HBp.out)
    | ok u r =>
      obtain ⟨k2, hk2, hj2, rfl⟩ := sf_ok hsf2
      obtain ⟨hb, v, rfl, hP, hv⟩ := PRd.ok_dr hm hj2
      unfold okU at hv
      subst hv
      have hw2 : W1a.heap.size ≤ w2.heap.size := hb.size
      have HB_8 := Lib.hid (HB_5.out.on hB0 hb)
      have HM_9 := Lib.hid (HM_6.out.kp (by omega) hb)
      have HP_10 := Lib.hid hP
      have HS_11 := Lib.hid (HS.out.kp (by omega) hb)
      clear hb hm hP hsf2 HC2
      clear HB_5 HM_6 HP_7 HS
      have HQ_12 : Hid (QF = (eL kTo (dr XS k2)).to fun a r => (eL kMax r).to fun b r => (mL r).to fun m r => (gB bl r).to fun bd r => .ok (.mk 6 nm m a b bd []) r) := HQ_4.out
      clear HQ_4
      go_wp2_with fail
      have HC3 := Lib.hid (cexprBefore g XS k2 bl ⟨#[116, 111]⟩ kTo rfl w2 HP_10.out)
      have hsf3 := eL_sf kTo (dr XS k2)
      generalize eL kTo (dr XS k2) = q3 at HC3 HQ_12 hsf3
      refine HC3.out.mono ?_; intro e w3 hm
      cases q3 with
      | no r x =>
        obtain ⟨j, hj, rfl⟩ := sf_no hsf3
        obtain ⟨hb, he⟩ := PRd.no_dr hm hj
        have HBp := Lib.hid (HB_8.out.on hB0 hb)
        unfold fails at he
        subst he
        have HJ := Lib.hid hj
        clear hb hm hj hsf3 HC3
        go_wp2_with fail
        refine ⟨rfl, ?_⟩
        rw [HQ_12.out]
        exact PRd.mk_no HJ.out (hB0.symm ▸ HBp.out)
      | ok t r =>
        obtain ⟨k3, hk3, hj3, rfl⟩ := sf_ok hsf3
        obtain ⟨hb, v, rfl, hP, a0, c0, rfl, hK⟩ := PRd.ok_dr hm hj3
        have hw3 : w2.heap.size ≤ w3.heap.size := hb.size
        have HB_13 := Lib.hid (HB_8.out.on hB0 hb)
        have HM_14 := Lib.hid (HM_9.out.kp (by omega) hb)
        have HP_15 := Lib.hid hP
        have HS_16 := Lib.hid (HS_11.out.kp (by omega) hb)
        have HT3 : Hid (KidsF (Zk2 B S) w3 a0 t.args) := kz_of hK (fun i hi => by rcases hi with hi | hi <;> omega)
        unfold exV
        clear hb hm hP hsf3 HC3 hK
        clear HB_8 HM_9 HP_10 HS_11
        have HQ_17 : Hid (QF = (eL kMax (dr XS k3)).to fun b r => (mL r).to fun m r => (gB bl r).to fun bd r => .ok (.mk 6 nm m t b bd []) r) := HQ_12.out
        clear HQ_12
        obtain ⟨s0, s1, s2, s3, s4, s5, s6, s7, s8, s9, s10, s11, s12⟩ := cells13 HS_16.out
        obtain ⟨f0, f1, f2, f3, f4, f5, f6, f7, f8, f9, f10, f11, f12⟩ := free13 HS_16.out
        have HS_21 : Hid (Bk ((((w3.setCell ⟨S, 3, none⟩ (.int .i64 t.op)).setCell ⟨S, 4, none⟩ (.int .i64 t.n)).setCell ⟨S, 5, none⟩ (.string t.s)).setCell ⟨S, 6, none⟩ (.slice a0 t.args.length c0)) S #[.int .i64 6, .string nm, .int .i64 0, .int .i64 t.op, .int .i64 t.n, .string t.s, .slice a0 t.args.length c0, .int .i64 0, .int .i64 0, .string ⟨#[]⟩, .slice none 0 0, .slice none 0 0, .slice none 0 0] 76) := by
          have hx := ((((HS_16.out.set 3 (u := .int .i64 t.op)).set 4 (u := .int .i64 t.n)).set 5 (u := .string t.s)).set 6 (u := .slice a0 t.args.length c0))
          unfold Hid; simpa using hx
        have HB_18 : Hid (Kp B g w ((((w3.setCell ⟨S, 3, none⟩ (.int .i64 t.op)).setCell ⟨S, 4, none⟩ (.int .i64 t.n)).setCell ⟨S, 5, none⟩ (.string t.s)).setCell ⟨S, 6, none⟩ (.slice a0 t.args.length c0))) := kp_set (kp_set (kp_set (kp_set (HB_13.out) (by omega)) (by omega)) (by omega)) (by omega)
        have HM_19 : Hid (Bk ((((w3.setCell ⟨S, 3, none⟩ (.int .i64 t.op)).setCell ⟨S, 4, none⟩ (.int .i64 t.n)).setCell ⟨S, 5, none⟩ (.string t.s)).setCell ⟨S, 6, none⟩ (.slice a0 t.args.length c0)) B #[.int .i64 0, .string ⟨#[]⟩, .int .i64 0, .int .i64 0, .int .i64 0, .string ⟨#[]⟩, .slice none 0 0, .int .i64 0, .int .i64 0, .string ⟨#[]⟩, .slice none 0 0, .slice none 0 0, .slice none 0 0] 76) := ((((HM_14.out).apart (by omega)).apart (by omega)).apart (by omega)).apart (by omega)
        have HP_20 : Hid (Psr g XS k3 0 bl ((((w3.setCell ⟨S, 3, none⟩ (.int .i64 t.op)).setCell ⟨S, 4, none⟩ (.int .i64 t.n)).setCell ⟨S, 5, none⟩ (.string t.s)).setCell ⟨S, 6, none⟩ (.slice a0 t.args.length c0))) := ((((HP_15.out).set (by omega)).set (by omega)).set (by omega)).set (by omega)
        have HT3_22 : Hid (KidsF (Zk2 B S) ((((w3.setCell ⟨S, 3, none⟩ (.int .i64 t.op)).setCell ⟨S, 4, none⟩ (.int .i64 t.n)).setCell ⟨S, 5, none⟩ (.string t.s)).setCell ⟨S, 6, none⟩ (.slice a0 t.args.length c0)) a0 t.args) := kz_set (Or.inr rfl) (kz_set (Or.inr rfl) (kz_set (Or.inr rfl) (kz_set (Or.inr rfl) (HT3.out))))
        have hsz : ((((w3.setCell ⟨S, 3, none⟩ (.int .i64 t.op)).setCell ⟨S, 4, none⟩ (.int .i64 t.n)).setCell ⟨S, 5, none⟩ (.string t.s)).setCell ⟨S, 6, none⟩ (.slice a0 t.args.length c0)).heap.size = w3.heap.size := by simp [World.setCell]
        clear HB_13 HM_14 HP_15 HS_16 HT3
        go_wp2_with fail
        clear s0 s1 s2 s3 s4 s5 s6 s7 s8 s9 s10 s11 s12 f0 f1 f2 f3 f4 f5 f6 f7 f8 f9 f10 f11 f12
        generalize ((((w3.setCell ⟨S, 3, none⟩ (.int .i64 t.op)).setCell ⟨S, 4, none⟩ (.int .i64 t.n)).setCell ⟨S, 5, none⟩ (.string t.s)).setCell ⟨S, 6, none⟩ (.slice a0 t.args.length c0)) = W3b at *
        have HC4 := Lib.hid (cexprBefore g XS k3 bl ⟨#[109, 97, 120]⟩ kMax rfl W3b HP_20.out)
        have hsf4 := eL_sf kMax (dr XS k3)
        generalize eL kMax (dr XS k3) = q4 at HC4 HQ_17 hsf4
        refine HC4.out.mono ?_; intro e w4 hm
        cases q4 with
        | no r x =>
          obtain ⟨j, hj, rfl⟩ := sf_no hsf4
          obtain ⟨hb, he⟩ := PRd.no_dr hm hj
          have HBp := Lib.hid (HB_18.out.on hB0 hb)
          unfold fails at he
          subst he
          have HJ := Lib.hid hj
          clear hb hm hj hsf4 HC4
          go_wp2_with fail
          refine ⟨rfl, ?_⟩
          rw [HQ_17.out]
          exact PRd.mk_no HJ.out (hB0.symm ▸ HBp.out)
        | ok tb r =>
          obtain ⟨k4, hk4, hj4, rfl⟩ := sf_ok hsf4
          obtain ⟨hb, v, rfl, hP, a2, c2, rfl, hK⟩ := PRd.ok_dr hm hj4
          have hw4 : W3b.heap.size ≤ w4.heap.size := hb.size
          have HB_23 := Lib.hid (HB_18.out.on hB0 hb)
          have HM_24 := Lib.hid (HM_19.out.kp (by omega) hb)
          have HP_25 := Lib.hid hP
          have HS_26 := Lib.hid (HS_21.out.kp (by omega) hb)
          have HT3_27 := Lib.hid (kz_kp HT3_22.out (Or.inl (by omega)) hb)
          have HT4 : Hid (KidsF (Zk2 B S) w4 a2 tb.args) := kz_of hK (fun i hi => by rcases hi with hi | hi <;> omega)
          unfold exV
          clear hb hm hP hsf4 HC4 hK
          clear HB_18 HM_19 HP_20 HS_21 HT3_22
          have HQ_28 : Hid (QF = (mL (dr XS k4)).to fun m r => (gB bl r).to fun bd r => .ok (.mk 6 nm m t tb bd []) r) := HQ_17.out
          clear HQ_17
          obtain ⟨s0, s1, s2, s3, s4, s5, s6, s7, s8, s9, s10, s11, s12⟩ := cells13 HS_26.out
          obtain ⟨f0, f1, f2, f3, f4, f5, f6, f7, f8, f9, f10, f11, f12⟩ := free13 HS_26.out
          have HS_32 : Hid (Bk ((((w4.setCell ⟨S, 7, none⟩ (.int .i64 tb.op)).setCell ⟨S, 8, none⟩ (.int .i64 tb.n)).setCell ⟨S, 9, none⟩ (.string tb.s)).setCell ⟨S, 10, none⟩ (.slice a2 tb.args.length c2)) S #[.int .i64 6, .string nm, .int .i64 0, .int .i64 t.op, .int .i64 t.n, .string t.s, .slice a0 t.args.length c0, .int .i64 tb.op, .int .i64 tb.n, .string tb.s, .slice a2 tb.args.length c2, .slice none 0 0, .slice none 0 0] 76) := by
            have hx := ((((HS_26.out.set 7 (u := .int .i64 tb.op)).set 8 (u := .int .i64 tb.n)).set 9 (u := .string tb.s)).set 10 (u := .slice a2 tb.args.length c2))
            unfold Hid; simpa using hx
          have HB_29 : Hid (Kp B g w ((((w4.setCell ⟨S, 7, none⟩ (.int .i64 tb.op)).setCell ⟨S, 8, none⟩ (.int .i64 tb.n)).setCell ⟨S, 9, none⟩ (.string tb.s)).setCell ⟨S, 10, none⟩ (.slice a2 tb.args.length c2))) := kp_set (kp_set (kp_set (kp_set (HB_23.out) (by omega)) (by omega)) (by omega)) (by omega)
          have HM_30 : Hid (Bk ((((w4.setCell ⟨S, 7, none⟩ (.int .i64 tb.op)).setCell ⟨S, 8, none⟩ (.int .i64 tb.n)).setCell ⟨S, 9, none⟩ (.string tb.s)).setCell ⟨S, 10, none⟩ (.slice a2 tb.args.length c2)) B #[.int .i64 0, .string ⟨#[]⟩, .int .i64 0, .int .i64 0, .int .i64 0, .string ⟨#[]⟩, .slice none 0 0, .int .i64 0, .int .i64 0, .string ⟨#[]⟩, .slice none 0 0, .slice none 0 0, .slice none 0 0] 76) := ((((HM_24.out).apart (by omega)).apart (by omega)).apart (by omega)).apart (by omega)
          have HP_31 : Hid (Psr g XS k4 0 bl ((((w4.setCell ⟨S, 7, none⟩ (.int .i64 tb.op)).setCell ⟨S, 8, none⟩ (.int .i64 tb.n)).setCell ⟨S, 9, none⟩ (.string tb.s)).setCell ⟨S, 10, none⟩ (.slice a2 tb.args.length c2))) := ((((HP_25.out).set (by omega)).set (by omega)).set (by omega)).set (by omega)
          have HT3_33 : Hid (KidsF (Zk2 B S) ((((w4.setCell ⟨S, 7, none⟩ (.int .i64 tb.op)).setCell ⟨S, 8, none⟩ (.int .i64 tb.n)).setCell ⟨S, 9, none⟩ (.string tb.s)).setCell ⟨S, 10, none⟩ (.slice a2 tb.args.length c2)) a0 t.args) := kz_set (Or.inr rfl) (kz_set (Or.inr rfl) (kz_set (Or.inr rfl) (kz_set (Or.inr rfl) (HT3_27.out))))
          have HT4_34 : Hid (KidsF (Zk2 B S) ((((w4.setCell ⟨S, 7, none⟩ (.int .i64 tb.op)).setCell ⟨S, 8, none⟩ (.int .i64 tb.n)).setCell ⟨S, 9, none⟩ (.string tb.s)).setCell ⟨S, 10, none⟩ (.slice a2 tb.args.length c2)) a2 tb.args) := kz_set (Or.inr rfl) (kz_set (Or.inr rfl) (kz_set (Or.inr rfl) (kz_set (Or.inr rfl) (HT4.out))))
          have hsz : ((((w4.setCell ⟨S, 7, none⟩ (.int .i64 tb.op)).setCell ⟨S, 8, none⟩ (.int .i64 tb.n)).setCell ⟨S, 9, none⟩ (.string tb.s)).setCell ⟨S, 10, none⟩ (.slice a2 tb.args.length c2)).heap.size = w4.heap.size := by simp [World.setCell]
          clear HB_23 HM_24 HP_25 HS_26 HT3_27 HT4
          go_wp2_with fail
          clear s0 s1 s2 s3 s4 s5 s6 s7 s8 s9 s10 s11 s12 f0 f1 f2 f3 f4 f5 f6 f7 f8 f9 f10 f11 f12
          generalize ((((w4.setCell ⟨S, 7, none⟩ (.int .i64 tb.op)).setCell ⟨S, 8, none⟩ (.int .i64 tb.n)).setCell ⟨S, 9, none⟩ (.string tb.s)).setCell ⟨S, 10, none⟩ (.slice a2 tb.args.length c2)) = W4b at *
          have HC5 := Lib.hid (cmax g XS k4 bl W4b HP_31.out)
          have hsf5 := mL_sf (dr XS k4)
          generalize mL (dr XS k4) = q5 at HC5 HQ_28 hsf5
          refine HC5.out.mono ?_; intro e w5 hm
          cases q5 with
          | no r x =>
            obtain ⟨j, hj, rfl⟩ := sf_no hsf5
            obtain ⟨hb, he⟩ := PRd.no_dr hm hj
            have HBp := Lib.hid (HB_29.out.on hB0 hb)
            unfold fails at he
            subst he
            have HJ := Lib.hid hj
            clear hb hm hj hsf5 HC5
            go_wp2_with fail
            refine ⟨rfl, ?_⟩
            rw [HQ_28.out]
            exact PRd.mk_no HJ.out (hB0.symm ▸ HBp.out)
          | ok m r =>
            obtain ⟨k5, hk5, hj5, rfl⟩ := sf_ok hsf5
            obtain ⟨hb, v, rfl, hP, hv⟩ := PRd.ok_dr hm hj5
            unfold okM at hv
            subst hv
            have hw5 : W4b.heap.size ≤ w5.heap.size := hb.size
            have HB_35 := Lib.hid (HB_29.out.on hB0 hb)
            have HM_36 := Lib.hid (HM_30.out.kp (by omega) hb)
            have HP_37 := Lib.hid hP
            have HS_38 := Lib.hid (HS_32.out.kp (by omega) hb)
            have HT3_39 := Lib.hid (kz_kp HT3_33.out (Or.inl (by omega)) hb)
            have HT4_40 := Lib.hid (kz_kp HT4_34.out (Or.inl (by omega)) hb)
            clear hb hm hP hsf5 HC5
            clear HB_29 HM_30 HP_31 HS_32 HT3_33 HT4_34
            have HQ_41 : Hid (QF = (gB bl (dr XS k5)).to fun bd r => .ok (.mk 6 nm m t tb bd []) r) := HQ_28.out
            clear HQ_28
            obtain ⟨s0, s1, s2, s3, s4, s5, s6, s7, s8, s9, s10, s11, s12⟩ := cells13 HS_38.out
            obtain ⟨f0, f1, f2, f3, f4, f5, f6, f7, f8, f9, f10, f11, f12⟩ := free13 HS_38.out
            have HS_45 : Hid (Bk (w5.setCell ⟨S, 2, none⟩ (.int .i64 (cut m))) S #[.int .i64 6, .string nm, .int .i64 (cut m), .int .i64 t.op, .int .i64 t.n, .string t.s, .slice a0 t.args.length c0, .int .i64 tb.op, .int .i64 tb.n, .string tb.s, .slice a2 tb.args.length c2, .slice none 0 0, .slice none 0 0] 76) := by
              have hx := (HS_38.out.set 2 (u := .int .i64 (cut m)))
              unfold Hid; simpa using hx
            have HB_42 : Hid (Kp B g w (w5.setCell ⟨S, 2, none⟩ (.int .i64 (cut m)))) := kp_set (HB_35.out) (by omega)
            have HM_43 : Hid (Bk (w5.setCell ⟨S, 2, none⟩ (.int .i64 (cut m))) B #[.int .i64 0, .string ⟨#[]⟩, .int .i64 0, .int .i64 0, .int .i64 0, .string ⟨#[]⟩, .slice none 0 0, .int .i64 0, .int .i64 0, .string ⟨#[]⟩, .slice none 0 0, .slice none 0 0, .slice none 0 0] 76) := (HM_36.out).apart (by omega)
            have HP_44 : Hid (Psr g XS k5 0 bl (w5.setCell ⟨S, 2, none⟩ (.int .i64 (cut m)))) := (HP_37.out).set (by omega)
            have HT3_46 : Hid (KidsF (Zk2 B S) (w5.setCell ⟨S, 2, none⟩ (.int .i64 (cut m))) a0 t.args) := kz_set (Or.inr rfl) (HT3_39.out)
            have HT4_47 : Hid (KidsF (Zk2 B S) (w5.setCell ⟨S, 2, none⟩ (.int .i64 (cut m))) a2 tb.args) := kz_set (Or.inr rfl) (HT4_40.out)
            have hsz : (w5.setCell ⟨S, 2, none⟩ (.int .i64 (cut m))).heap.size = w5.heap.size := by simp [World.setCell]
            clear HB_35 HM_36 HP_37 HS_38 HT3_39 HT4_40
            go_wp2_with fail
            clear s0 s1 s2 s3 s4 s5 s6 s7 s8 s9 s10 s11 s12 f0 f1 f2 f3 f4 f5 f6 f7 f8 f9 f10 f11 f12
            generalize (w5.setCell ⟨S, 2, none⟩ (.int .i64 (cut m))) = W5b at *
            have HC6 := Lib.hid (HBk.out k5 (by omega) (by omega) W5b HP_44.out)
            have hsf6 := (gB_is bl (dr XS k5)).2
            generalize gB bl (dr XS k5) = q6 at HC6 HQ_41 hsf6
            refine HC6.out.mono ?_; intro e w6 hm
            cases q6 with
            | no r x =>
              obtain ⟨j, hj, rfl⟩ := sf_no hsf6
              obtain ⟨hb, he⟩ := PRd.no_dr hm hj
              have HBp := Lib.hid (HB_42.out.on hB0 hb)
              unfold fails at he
              subst he
              have HJ := Lib.hid hj
              clear hb hm hj hsf6 HC6
              go_wp2_with fail
              refine ⟨rfl, ?_⟩
              rw [HQ_41.out]
              exact PRd.mk_no HJ.out (hB0.symm ▸ HBp.out)
            | ok bd r =>
              obtain ⟨k6, hk6, hj6, rfl⟩ := sf_ok hsf6
              obtain ⟨hb, v, rfl, hP, a3, c3, rfl, hK⟩ := PRd.ok_dr hm hj6
              have hw6 : W5b.heap.size ≤ w6.heap.size := hb.size
              have HB_48 := Lib.hid (HB_42.out.on hB0 hb)
              have HM_49 := Lib.hid (HM_43.out.kp (by omega) hb)
              have HP_50 := Lib.hid hP
              have HS_51 := Lib.hid (HS_45.out.kp (by omega) hb)
              have HT3_52 := Lib.hid (kz_kp HT3_46.out (Or.inl (by omega)) hb)
              have HT4_53 := Lib.hid (kz_kp HT4_47.out (Or.inl (by omega)) hb)
              have HT6 : Hid (BodiesF (Zk2 B S) w6 a3 (clipB bd)) := bz_of hK (fun i hi => by rcases hi with hi | hi <;> omega)
              clear hb hm hP hsf6 HC6 hK
              clear HB_42 HM_43 HP_44 HS_45 HT3_46 HT4_47
              have HQ_54 : Hid (QF = .ok (.mk 6 nm m t tb bd []) (dr XS k6)) := HQ_41.out
              clear HQ_41
              obtain ⟨s0, s1, s2, s3, s4, s5, s6, s7, s8, s9, s10, s11, s12⟩ := cells13 HS_51.out
              obtain ⟨f0, f1, f2, f3, f4, f5, f6, f7, f8, f9, f10, f11, f12⟩ := free13 HS_51.out
              have HS_58 : Hid (Bk (w6.setCell ⟨S, 11, none⟩ (.slice a3 bd.length c3)) S #[.int .i64 6, .string nm, .int .i64 (cut m), .int .i64 t.op, .int .i64 t.n, .string t.s, .slice a0 t.args.length c0, .int .i64 tb.op, .int .i64 tb.n, .string tb.s, .slice a2 tb.args.length c2, .slice a3 bd.length c3, .slice none 0 0] 76) := by
                have hx := (HS_51.out.set 11 (u := .slice a3 bd.length c3))
                unfold Hid; simpa using hx
              have HB_55 : Hid (Kp B g w (w6.setCell ⟨S, 11, none⟩ (.slice a3 bd.length c3))) := kp_set (HB_48.out) (by omega)
              have HM_56 : Hid (Bk (w6.setCell ⟨S, 11, none⟩ (.slice a3 bd.length c3)) B #[.int .i64 0, .string ⟨#[]⟩, .int .i64 0, .int .i64 0, .int .i64 0, .string ⟨#[]⟩, .slice none 0 0, .int .i64 0, .int .i64 0, .string ⟨#[]⟩, .slice none 0 0, .slice none 0 0, .slice none 0 0] 76) := (HM_49.out).apart (by omega)
              have HP_57 : Hid (Psr g XS k6 0 bl (w6.setCell ⟨S, 11, none⟩ (.slice a3 bd.length c3))) := (HP_50.out).set (by omega)
              have HT3_59 : Hid (KidsF (Zk2 B S) (w6.setCell ⟨S, 11, none⟩ (.slice a3 bd.length c3)) a0 t.args) := kz_set (Or.inr rfl) (HT3_52.out)
              have HT4_60 : Hid (KidsF (Zk2 B S) (w6.setCell ⟨S, 11, none⟩ (.slice a3 bd.length c3)) a2 tb.args) := kz_set (Or.inr rfl) (HT4_53.out)
              have HT6_61 : Hid (BodiesF (Zk2 B S) (w6.setCell ⟨S, 11, none⟩ (.slice a3 bd.length c3)) a3 (clipB bd)) := bz_set (Or.inr rfl) (HT6.out)
              have hsz : (w6.setCell ⟨S, 11, none⟩ (.slice a3 bd.length c3)).heap.size = w6.heap.size := by simp [World.setCell]
              clear HB_48 HM_49 HP_50 HS_51 HT3_52 HT4_53 HT6
              obtain ⟨t0, t1, t2, t3, t4, t5, t6, t7, t8, t9, t10, t11, t12⟩ := cells13 HS_58.out
              obtain ⟨r0, r1, r2, r3, r4, r5, r6, r7, r8, r9, r10, r11, r12⟩ := cells13 HM_56.out
              obtain ⟨g0, g1, g2, g3, g4, g5, g6, g7, g8, g9, g10, g11, g12⟩ := free13 HM_56.out
              go_wp2_with fail
              obtain ⟨q0, q1, q2, q3, q4, q5, q6, q7, q8, q9, q10, q11, q12⟩ := cells13 (bk_set13 (v0 := .int .i64 6) (v1 := .string nm) (v2 := .int .i64 (cut m)) (v3 := .int .i64 t.op) (v4 := .int .i64 t.n) (v5 := .string t.s) (v6 := .slice a0 t.args.length c0) (v7 := .int .i64 tb.op) (v8 := .int .i64 tb.n) (v9 := .string tb.s) (v10 := .slice a2 tb.args.length c2) (v11 := .slice a3 bd.length c3) (v12 := .slice none 0 0) HM_56.out)
              unfold wset13 at q0 q1 q2 q3 q4 q5 q6 q7 q8 q9 q10 q11 q12
              refine bodyPost_ret (v := .agg #[.int .i64 6, .string nm, .int .i64 (cut m), .int .i64 t.op, .int .i64 t.n, .string t.s, .slice a0 t.args.length c0, .int .i64 tb.op, .int .i64 tb.n, .string tb.s, .slice a2 tb.args.length c2, .slice a3 bd.length c3, .slice none 0 0]) (by simp [results, Tryz.results182, go_sem, q0, q1, q2, q3, q4, q5, q6, q7, q8, q9, q10, q11, q12]) rfl ?_
              rw [HQ_54.out]
              exact PRd.mk_ok hj6 (kp_wset13 (b := B) (hB0.symm ▸ HB_55.out) (Nat.le_of_eq hB0)) (HP_57.out.wset13 (b := B) hgB) (okSt_b ⟨a0, c0, a2, c2, a3, c3, none, 0, by rw [← clipB_len bd]; rfl, (kz_of (Z := Zk2 B S) (kz_wset13 (g := B) (Or.inl (Nat.lt_succ_self B)) HT3_59.out) (fun i hi => Or.inl (Nat.lt_succ_of_lt (hB0 ▸ hi)))), (kz_of (Z := Zk2 B S) (kz_wset13 (g := B) (Or.inl (Nat.lt_succ_self B)) HT4_60.out) (fun i hi => Or.inl (Nat.lt_succ_of_lt (hB0 ▸ hi)))), (bz_of (Z := Zk2 B S) (bz_wset13 (g := B) (Or.inl (Nat.lt_succ_self B)) HT6_61.out) (fun i hi => Or.inl (Nat.lt_succ_of_lt (hB0 ▸ hi)))), bodies_nil _ _ _⟩)
end Go.Proofs.YteglaeopaocilaaGreatDoor.P
