/-
  Declarations of texts that lie merged: what further laws need of YIS, YLQ, YRK, YLU.
-/
import Derived.Test.YtgjnddjpinhkgaaDoorS2
import Derived.Test.YtgjnddjpinhkgaaDoorS7
import Derived.Test.YtgjnddjpinhkgaaDoorS8
import Derived.Test.YtgjnddjpinhkgaaDoorR31
import Derived.Test.YtgjnddjpinhkgaaDoorR32
import Derived.Test.YtgjnddjpinhkgaaDoorM19
import Derived.Test.YtgjnddjpinhkgaaDoorQYLR
import Derived.Test.YtgjnddjpinhkgaaDoorQYLK
import Derived.Test.YtgjnddjpinhkgaaDoorQARM
import Derived.Deep.AppendLies
import Derived.Deep.QuietTactic
import Derived.BigQuiet
namespace Go.Proofs.YtgjnddjpinhkgaaDoor.P
open Go.RowKit
structure IS (F : Nat → Value → World → Prop) (W : World) (l : Array Bool) (w : World) (vs : List Value) : Prop where
  bel : Below W.heap.size W w
  f : ∀ j, On l j → F j (vs.getD j undef) w
theorem IS.step {F : Nat → Value → World → Prop} (hF : ∀ j x w w', F j x w → Below w.heap.size w w' → F j x w') {W : World} {l : Array Bool} {w w' : World} {vs : List Value} (h : IS F W l w vs) {i : Nat} (h0 : l.getD i true = false) (hi : i < vs.length) (hb : Below w.heap.size w w') {x : Value} (hx : F i x w') :
    IS F W (l.setIfInBounds i true) w' (vs.set i x) := by
  refine ⟨h.bel.trans (hb.mono h.bel.size), fun j hj => ?_⟩
  by_cases e : j = i
  · subst e; rw [getD_self hi]; exact hx
  · rw [getD_other e]
    exact hF _ _ _ _ (h.f j (((on_set h0 j).1 hj).resolve_left e)) hb
theorem IS.start (F : Nat → Value → World → Prop) (W : World) {l : Array Bool} (hl : ∀ j, ¬ On l j) (vs : List Value) : IS F W l { W with drawn := W.drawn + 1 } vs := ⟨L.below_drew W, fun j hj => absurd hj (hl j)⟩
end Go.Proofs.YtgjnddjpinhkgaaDoor.P
namespace Go.Proofs.YtgjnddjpinhkgaaDoor.Y
open Go.RowKit
open L (Str isName prt size_len below_2 below_box ret_bool ret_int eql_eq bytes_eq)
open A (Ex St Pm Pr V arity vE vEs absent exV exO exV_mk Bx okE okEs cE cEs PmsAt StrsAt PrIn OkP prV prO names valE ExsAt ExAt StsAt StAt Bodies RowK Own1 Stays)
open P (G Kd On off_of wp_region_G)
theorem isIn_drop {x : ByteArray} {l : List ByteArray} {k : Nat} (hk : k < l.length) : isIn x (l.drop k) = (decide (l[k] = x) || isIn x (l.drop (k + 1))) := by
  rw [List.drop_eq_getElem_cons hk]; unfold isIn; rw [List.any_cons]
set_option maxHeartbeats 4000000 in
set_option maxRecDepth 100000 in
theorem has_any (l : List ByteArray) (a : Option Addr) (c : Nat) (x : ByteArray) (hl : l.length ≤ 1000000000000000) (w : World) (hK : StrsAt w a l) :
    Calls Tryd.prog 20 #[.slice a l.length c, .string x] w fun e' w' => e' = .returned (.bool (isIn x l)) ∧ w' = w := by
  have HK := Lib.hid hK
  obtain ⟨R, hR⟩ : ∃ R, isIn x l = R := ⟨_, rfl⟩
  rw [hR]
  have HR : Hid (isIn x (l.drop 0) = R) := hR
  obtain ⟨m, hm⟩ : ∃ m, l.length = m := ⟨_, rfl⟩
  have HL := Lib.hid hm
  rw [hm] at hl ⊢
  clear hm hR hK
  go_enter Tryd.func20, Tryd.ntmps20
  go_wp2_with fail
  go_loopw [5] (fun s5 wr => ∃ k : Nat, k ≤ m ∧ s5 = .int .i64 k ∧ Hid (isIn x (l.drop k) = R) ∧ wr = w) (fun s5 _ => m - (intOf s5).toNat)
  case atStart => exact ⟨0, Nat.zero_le _, rfl, HR, rfl⟩
  case round =>
    obtain ⟨k, hk, rfl, HX, rfl⟩ := hrel
    by_cases hlt : k < m
    · have hlx : k < l.length := by rw [HL.out]; exact hlt
      obtain ⟨b3, i3, rfl, hcc⟩ := HK.out.open hlx
      have f0 := hcc k hlx
      have hx := HX.out
      rw [isIn_drop hlx] at hx
      generalize l[k] = q at f0 hx
      have hb := A.bytes_dec q x
      clear hcc
      by_cases hn : q = x
      · rw [decide_eq_true hn] at hb hx
        have HV : Hid (true = R) := hx
        clear hn hx
        go_wp2_with fail
        go_ret
        exact ⟨ret_bool HV.out, rfl⟩
      · rw [decide_eq_false hn] at hb hx
        have HX2 : Hid (isIn x (l.drop (k + 1)) = R) := hx
        clear hn hx
        go_wp2_with fail
        go_roundw
        case rel => exact ⟨k + 1, by omega, by go_num, HX2, trivial⟩
        case measure => simp [intOf]; omega
    · have hx := HX.out
      rw [List.drop_of_length_le (by have := HL.out; omega)] at hx
      have HV : Hid (false = R) := hx
      clear hx
      go_wp2_with fail
      go_ret
      exact ⟨ret_bool HV.out, rfl⟩
end Go.Proofs.YtgjnddjpinhkgaaDoor.Y
namespace Go.Proofs.YtgjnddjpinhkgaaDoor.A
open L (Str isName prt size_len)
theorem swap_size (f t x : ByteArray) (n : Nat) (h : x.size ≤ n) (ht : t.size ≤ n) : (swap f t x).size ≤ n := by
  unfold swap
  split
  · exact ht
  · exact h
theorem swap_64 (f t x : ByteArray) (ht : t.size ≤ 200) : (swap f t x).size / 64 ≤ x.size / 64 + 3 := by
  unfold swap
  split
  · omega
  · omega
mutual
theorem okE_ren {f t : ByteArray} (ht : t.size ≤ 1000000000000000) : ∀ e : Ex, okE e → okE (renE f t e)
  | .mk o n s l, h => by
    rw [okE] at h
    rw [renE, okE]
    refine ⟨h.1, h.2.1, ?_, by rw [renEs_len]; exact h.2.2.2.1, okEs_ren ht l h.2.2.2.2⟩
    split
    · exact swap_size f t s _ h.2.2.1 ht
    · exact h.2.2.1
theorem okEs_ren {f t : ByteArray} (ht : t.size ≤ 1000000000000000) : ∀ l : List Ex, okEs l → okEs (renEs f t l)
  | [], _ => by rw [renEs, okEs]; trivial
  | e :: r, h => by
    rw [okEs] at h
    rw [renEs, okEs]
    exact ⟨okE_ren ht e h.1, okEs_ren ht r h.2⟩
end
mutual
theorem okS_ren {f t : ByteArray} (ht : t.size ≤ 1000000000000000) : ∀ s : St, okS s → okS (renS f t s)
  | .mk o nm mx a b bd el, h => by
    rw [okS] at h
    obtain ⟨h1, h2, h3, h4, h5, h6, h7, h8, h9⟩ := h
    rw [renS, okS]
    exact ⟨h1, swap_size f t nm _ h2 ht, h3, okE_ren ht a h4, okE_ren ht b h5, by rw [renB_len]; exact h6, okB_ren ht bd h7, by rw [renB_len]; exact h8, okB_ren ht el h9⟩
theorem okB_ren {f t : ByteArray} (ht : t.size ≤ 1000000000000000) : ∀ l : List St, okB l → okB (renB f t l)
  | [], _ => by rw [renB, okB]; trivial
  | s :: r, h => by
    rw [okB] at h
    rw [renB, okB]
    exact ⟨okS_ren ht s h.1, okB_ren ht r h.2⟩
end
mutual
theorem cE_ren {f t : ByteArray} (ht : t.size ≤ 200) : ∀ e : Ex, cE (renE f t e) ≤ 4 * cE e
  | .mk o n s l => by
    rw [renE, cE, cE]
    have h1 := cEs_ren (f := f) ht l
    have h2 := swap_64 f t s ht
    split <;> omega
theorem cEs_ren {f t : ByteArray} (ht : t.size ≤ 200) : ∀ l : List Ex, cEs (renEs f t l) ≤ 4 * cEs l
  | [] => by rw [renEs, cEs]; omega
  | e :: r => by
    have h1 := cE_ren (f := f) ht e
    have h2 := cEs_ren (f := f) ht r
    rw [renEs, cEs, cEs]
    omega
end
mutual
theorem cS_ren {f t : ByteArray} (ht : t.size ≤ 200) : ∀ s : St, cS (renS f t s) ≤ 4 * cS s
  | .mk o nm mx a b bd el => by
    have h0 := swap_64 f t nm ht
    have h1 := cE_ren (f := f) ht a
    have h2 := cE_ren (f := f) ht b
    have h3 := cB_ren (f := f) ht bd
    have h4 := cB_ren (f := f) ht el
    rw [renS, cS, cS]
    omega
theorem cB_ren {f t : ByteArray} (ht : t.size ≤ 200) : ∀ l : List St, cB (renB f t l) ≤ 4 * cB l
  | [] => by rw [renB, cB]; omega
  | s :: r => by
    have h1 := cS_ren (f := f) ht s
    have h2 := cB_ren (f := f) ht r
    rw [renB, cB, cB]
    omega
end
/-- a small procedure -/
structure SmP (p : Pr) (m : Nat) : Prop where
  params : p.params.length ≤ 40
  name : p.name.size ≤ 200
  each : ∀ j (h : j < p.params.length), p.params[j].name.size ≤ 200
  body : cB p.body ≤ m
theorem small_smp {p : Pr} {m : Nat} (h : small p m = true) : SmP p m := by
  unfold small at h
  simp only [Bool.and_eq_true, decide_eq_true_iff, List.all_eq_true] at h
  obtain ⟨⟨⟨h1, h2⟩, h3⟩, h4⟩ := h
  exact ⟨h1, h2, fun j hj => h3 _ (List.getElem_mem hj), h4⟩
/-- what the contracts ask of a procedure -/
structure Pp (p : Pr) : Prop where
  ok : OkP p
  sz : cB p.body ≤ 900000
  pl : p.params.length ≤ 1000
  nm : p.name.size ≤ 281474976710656
  ps : ∀ j (h : j < p.params.length), p.params[j].name.size ≤ 281474976710656
theorem pp_no : Pp noPr := by
  have h0 : (⟨#[]⟩ : ByteArray).size = 0 := rfl
  refine ⟨⟨by show (⟨#[]⟩ : ByteArray).size ≤ _; omega, Nat.zero_le _, (fun j hj => by cases hj), Nat.zero_le _, ?_⟩, ?_, Nat.zero_le _, by show (⟨#[]⟩ : ByteArray).size ≤ _; omega, (fun j hj => by cases hj)⟩
  · show okB []
    rw [okB]; trivial
  · show cB [] ≤ _
    rw [cB]; omega
theorem pp_ren {p : Pr} {f t : ByteArray} (hok : OkP p) (h : SmP p 600) (ht : t.size ≤ 200) : Pp (ren f t p) := by
  have hl : (ren f t p).params.length = p.params.length := by unfold ren; simp
  have hn : ∀ j (hj : j < (ren f t p).params.length), (ren f t p).params[j].name.size ≤ 200 := fun j hj => by
    have hj2 : j < p.params.length := by omega
    have e : (ren f t p).params[j].name = swap f t p.params[j].name := by simp only [ren, List.getElem_map]
    rw [e]
    exact swap_size f t _ 200 (h.each j hj2) ht
  have hc : cB (ren f t p).body ≤ 4 * cB p.body := cB_ren ht p.body
  have hb := h.body
  have hnm := h.name
  refine ⟨⟨hok.name, by rw [hl]; exact hok.params, fun j hj => by have := hn j hj; omega, by show (renB f t p.body).length ≤ _; rw [renB_len]; exact hok.bodyLen, okB_ren (by omega) p.body hok.body⟩, by omega, by rw [hl]; have := h.params; omega, by show p.name.size ≤ _; omega, fun j hj => by have := hn j hj; omega⟩
theorem pp_rename {p : Pr} {f t : ByteArray} (hok : OkP p) (h : SmP p 600) (ht : t.size ≤ 200) : Pp (rename p f t).1 := by
  unfold rename
  split
  · exact pp_no
  · split
    · exact pp_no
    · split
      · exact pp_no
      · split
        · exact pp_no
        · exact pp_ren hok h ht
end Go.Proofs.YtgjnddjpinhkgaaDoor.A
namespace Go.Proofs.YtgjnddjpinhkgaaDoor.Y
open Go.RowKit
open L (Str isName prt size_len below_2 below_box ret_bool ret_int eql_eq bytes_eq)
open A (Ex St Pm Pr V exV exO Bx okE cE PmsAt StrsAt PrIn OkP prV prO names valE swap rename Pp SmP small)
open P (On off_of wp_region_inv IS)
/-- what the law asks of a renamed procedure -/
structure RnF (p q : Pr) (f t : ByteArray) : Prop where
  pp : Pp q
  two : (chk q).2 = (chk p).2
  one : (chk q).1 = (chk p).1.map (renP f t)
  len : decide ((chk p).2 = 0) = decide ((chk p).1.length = (names p).length)
def P6 (x y : Value) (va vb : List Pm) (n : Nat) : Nat → Value → World → Prop
  | 0, v, _ => v = x
  | 1, v, w => ∃ p q, v = .slice p n q ∧ PmsAt w p va
  | 2, v, _ => v = y
  | 3, v, w => ∃ p q, v = .slice p n q ∧ PmsAt w p vb
  | 4, v, w => ∃ p q, v = .slice p n q ∧ PmsAt w p va
  | 5, v, w => ∃ p q, v = .slice p n q ∧ PmsAt w p vb
  | _, _, _ => True
theorem P6.mono {x y : Value} {va vb : List Pm} {n : Nat} : ∀ j v w w', P6 x y va vb n j v w → Below w.heap.size w w' → P6 x y va vb n j v w' := by
  intro j v w w' h hb
  match j, h with
  | 0, h => exact h
  | 1, ⟨p, q, h1, h2⟩ => exact ⟨p, q, h1, h2.below hb⟩
  | 2, h => exact h
  | 3, ⟨p, q, h1, h2⟩ => exact ⟨p, q, h1, h2.below hb⟩
  | 4, ⟨p, q, h1, h2⟩ => exact ⟨p, q, h1, h2.below hb⟩
  | 5, ⟨p, q, h1, h2⟩ => exact ⟨p, q, h1, h2.below hb⟩
  | _ + 6, _ => trivial
def P7 (x y : Value) (z : Int) (n m : Nat) (b : Bool) (sa sb : Value) : Nat → Value → World → Prop
  | 0, v, _ => v = x
  | 1, v, _ => v = .int .i64 z
  | 2, v, _ => v = y
  | 3, v, _ => v = .int .i64 z
  | 4, v, _ => v = .bool false
  | 5, v, _ => v = .bool false
  | 6, v, _ => v = sa
  | 7, v, _ => v = .int .i64 (n : Int)
  | 8, v, _ => v = sb
  | 9, v, _ => v = .int .i64 (n : Int)
  | 10, v, _ => v = .bool false
  | 11, v, _ => v = .bool false
  | 12, v, _ => v = .bool false
  | 13, v, _ => v = x
  | 14, v, _ => v = .int .i64 z
  | 15, v, _ => v = .bool b
  | 16, v, _ => v = sa
  | 17, v, _ => v = .int .i64 (n : Int)
  | 18, v, _ => v = x
  | 19, v, _ => ∃ p q, v = .slice p m q
  | 20, v, _ => v = .int .i64 (m : Int)
  | 21, v, _ => v = .bool b
  | 22, v, _ => v = .bool false
  | 23, v, _ => v = .bool false
  | _, _, _ => True
theorem P7.mono {x y : Value} {z : Int} {n m : Nat} {b : Bool} {sa sb : Value} : ∀ j v w w', P7 x y z n m b sa sb j v w → Below w.heap.size w w' → P7 x y z n m b sa sb j v w' := by
  intro j v w w' h _
  match j, h with
  | 0, h => exact h
  | 1, h => exact h
  | 2, h => exact h
  | 3, h => exact h
  | 4, h => exact h
  | 5, h => exact h
  | 6, h => exact h
  | 7, h => exact h
  | 8, h => exact h
  | 9, h => exact h
  | 10, h => exact h
  | 11, h => exact h
  | 12, h => exact h
  | 13, h => exact h
  | 14, h => exact h
  | 15, h => exact h
  | 16, h => exact h
  | 17, h => exact h
  | 18, h => exact h
  | 19, h => exact h
  | 20, h => exact h
  | 21, h => exact h
  | 22, h => exact h
  | 23, h => exact h
  | _ + 24, _ => trivial
theorem rn_facts {p : Pr} {f t : ByteArray} (hok : OkP p) (hs : SmP p 600) (ht : t.size ≤ 200) (h0 : (rename p f t).2 = 0) : RnF p (rename p f t).1 f t := by
  have h : rename p f t = ((rename p f t).1, 0) := by rw [← h0]
  obtain ⟨h1, h2⟩ := chk_ren h
  refine ⟨A.pp_rename hok hs ht, h1, h2, decide_eq_decide.2 ⟨fun hz => ?_, fun hl => ?_⟩⟩
  · rw [← ((chk_main p).2 hz).names, List.length_map]
  · apply Decidable.byContradiction
    intro hz
    rw [chk_bad hz] at hl
    obtain ⟨_, _, hf, _, _⟩ := A.rename_parts h
    have := List.length_pos_of_mem hf
    have hl' : 0 = (names p).length := hl
    omega
set_option maxHeartbeats 4000000 in
set_option maxRecDepth 100000 in
theorem lawRenames_core (hR : ∀ (p : Pr) (a1 a2 : Option Addr) (c1 c2 : Nat) (f t : ByteArray) (_ : OkP p) (_ : A.cB p.body ≤ 900000) (_ : p.params.length ≤ 1000) (_ : t.size ≤ 281474976710656) (w : World) (_ : PrIn w p a1 a2), Calls Tryd.prog 22 #[prV p a1 c1 a2 c2, .string f, .string t] w (A.GivesRn w (rename p f t))) (p : Pr) (a1 a2 : Option Addr) (c1 c2 : Nat) (hok : OkP p) (hc1 : p.params.length ≤ c1) (f t : ByteArray) (w : World) (ht : Tb w) (hK : PrIn w p a1 a2) :
    Calls Tryd.prog 7 #[prV p a1 c1 a2 c2, .string f, .string t] w fun e' w' => e' = .returned (.bool true) ∧ Below w.heap.size w w' := by
  have hb := below_box w (prO p a1 c1 a2 c2)
  have hbx := Bx.new w #[.string p.name, .slice a1 p.params.length c1, .slice a2 p.body.length c2] 25
  have HS := Lib.hid (A.rsmall_any p a1 c1 a2 c2 600 (by omega) hok _ (hK.below hb))
  have HSm : Hid (small p 600 = true → SmP p 600) := fun h => A.small_smp h
  have HOk := Lib.hid hok
  have HC1 := Lib.hid hc1
  have HW := Lib.hid works_any
  have HT := Lib.hid (ht.below hb)
  have HX := Lib.hid hbx
  have HK := Lib.hid (hK.below hb)
  have HB0 := Lib.hid hb
  have hworks : ∀ wk, Below (w.alloc (.cells #[.string p.name, .slice a1 p.params.length c1, .slice a2 p.body.length c2] 25)).heap.size (w.alloc (.cells #[.string p.name, .slice a1 p.params.length c1, .slice a2 p.body.length c2] 25)) wk → Calls Tryd.prog 11 #[] wk fun e' w' => e' = .returned (.bool true) ∧ Below w.heap.size w w' := fun wk hk =>
    (HW.out wk (HT.out.below hk)).mono fun e' w' h => ⟨h.1, below_2 hb (below_2 hk h.2)⟩
  have HWk := Lib.hid hworks
  have HRn : Hid (SmP p 600 → t.size ≤ 200 → ∀ w', PrIn w' p a1 a2 → Calls Tryd.prog 22 #[prV p a1 c1 a2 c2, .string f, .string t] w' (A.GivesRn w' (rename p f t))) := fun h h2 w' k => hR p a1 a2 c1 c2 f t hok (by have := h.body; omega) (by have := h.params; omega) (by omega) w' k
  have HF : Hid (SmP p 600 → t.size ≤ 200 → (rename p f t).2 = 0 → RnF p (rename p f t).1 f t) := fun h h2 h0 => rn_facts hok h h2 h0
  unfold prV at HS HRn ⊢
  unfold prO at *
  clear hworks HW hb hbx hok hc1 ht hK hR
  generalize small p 600 = sm at *
  cases sm with
  | false =>
    go_enter Tryd.func7, Tryd.ntmps7
    go_wp2_with fail
    refine HS.out.mono ?_; rintro e' w2 ⟨rfl, hb2⟩
    have HB2 := Lib.hid hb2
    clear hb2
    go_wp2_with fail
    refine (HWk.out _ HB2.out).mono ?_; rintro e' w3 ⟨rfl, hb3⟩
    have HB3 := Lib.hid hb3
    clear hb3
    go_wp2_with fail
    go_ret
    exact ⟨rfl, HB3.out⟩
  | true =>
  have HSP := Lib.hid (HSm.out rfl)
  by_cases hf : 200 < f.size
  · have bf : decide ((f.size : Int) > 200) = true := decide_eq_true (by omega)
    go_enter Tryd.func7, Tryd.ntmps7
    go_wp2_with fail
    refine HS.out.mono ?_; rintro e' w2 ⟨rfl, hb2⟩
    have HB2 := Lib.hid hb2
    clear hb2
    go_wp2_with fail
    refine (HWk.out _ HB2.out).mono ?_; rintro e' w3 ⟨rfl, hb3⟩
    have HB3 := Lib.hid hb3
    clear hb3
    go_wp2_with fail
    go_ret
    exact ⟨rfl, HB3.out⟩
  have bf : decide ((f.size : Int) > 200) = false := decide_eq_false (by omega)
  by_cases htt : 200 < t.size
  · have bt : decide ((t.size : Int) > 200) = true := decide_eq_true (by omega)
    go_enter Tryd.func7, Tryd.ntmps7
    go_wp2_with fail
    refine HS.out.mono ?_; rintro e' w2 ⟨rfl, hb2⟩
    have HB2 := Lib.hid hb2
    clear hb2
    go_wp2_with fail
    refine (HWk.out _ HB2.out).mono ?_; rintro e' w3 ⟨rfl, hb3⟩
    have HB3 := Lib.hid hb3
    clear hb3
    go_wp2_with fail
    go_ret
    exact ⟨rfl, HB3.out⟩
  have bt : decide ((t.size : Int) > 200) = false := decide_eq_false (by omega)
  have HRn1 := Lib.hid (HRn.out HSP.out (by omega))
  have HF1 := Lib.hid (HF.out HSP.out (by omega))
  generalize rename p f t = r at *
  obtain ⟨q, e⟩ := r
  clear HF HRn HSm
  go_enter Tryd.func7, Tryd.ntmps7
  go_wp2_with fail
  refine HS.out.mono ?_; rintro e' w2 ⟨rfl, hb2⟩
  have HB2 := Lib.hid hb2
  have x0 := (HX.out.below hb2).cell 0
  have x1 := (HX.out.below hb2).cell 1
  have x2 := (HX.out.below hb2).cell 2
  simp only [List.getElem?_toArray, List.getElem?_cons_zero, List.getElem?_cons_succ] at x0 x1 x2
  have HR2 := Lib.hid (HRn1.out _ (HK.out.below hb2))
  clear hb2 HS HRn1
  go_wp2_with fail
  refine HR2.out.mono ?_; rintro e' w3 ⟨p1, q1, p2, q2, rfl, hpr, hcq, hb3⟩
  have hb3' := below_2 HB2.out hb3
  have hbq := below_box w3 (.cells #[.string q.name, .slice p1 q.params.length q1, .slice p2 q.body.length q2] 25)
  have HQ := Lib.hid (Bx.new w3 #[.string q.name, .slice p1 q.params.length q1, .slice p2 q.body.length q2] 25)
  have HKq := Lib.hid (A.PrIn.below hpr hbq)
  have HCq : Hid (q.params.length ≤ q1) := hcq
  have HB4 := Lib.hid (below_2 hb3' hbq)
  have hz3 := hb3'.size
  have hz1 : (w.alloc (.cells #[.string p.name, .slice a1 p.params.length c1, .slice a2 p.body.length c2] 25)).heap.size = w.heap.size + 1 := by simp
  have HZ3 : Hid (w.heap.size + 1 ≤ w3.heap.size) := by show _ ≤ _; omega
  clear hpr hcq hb3 hb3' hbq hz3 hz1 HR2 HB2 x0 x1 x2
  unfold prV
  by_cases he : e = 0
  case neg =>
    have be : (e != 0) = true := bne_iff_ne.2 he
    clear he
    go_wp2_with fail
    refine (HWk.out _ HB4.out).mono ?_; rintro e' w5 ⟨rfl, hb5⟩
    have HB5 := Lib.hid hb5
    clear hb5
    go_wp2_with fail
    go_ret
    exact ⟨rfl, HB5.out⟩
  subst he
  have hfa : RnF p q f t := HF1.out rfl
  have hpp := hfa.pp
  have HV1 : Hid (∀ w', Tb w' → PrIn w' p a1 a2 → Calls Tryd.prog 15 #[.agg #[.string p.name, .slice a1 p.params.length c1, .slice a2 p.body.length c2]] w' (GivesV w' (chk p).1)) := fun w' t' k => by
    have h := HSP.out
    exact oVars_any p a1 a2 c1 c2 HOk.out (by have := h.body; omega) (by have := h.params; omega) (fun j hj => by have := h.each j hj; omega) HC1.out w' t' k
  have HV2 : Hid (∀ w', Tb w' → PrIn w' q p1 p2 → Calls Tryd.prog 15 #[.agg #[.string q.name, .slice p1 q.params.length q1, .slice p2 q.body.length q2]] w' (GivesV w' (chk q).1)) := fun w' t' k =>
    oVars_any q p1 p2 q1 q2 hpp.ok hpp.sz hpp.pl hpp.ps HCq.out w' t' k
  have HC1' : Hid (∀ w', Tb w' → PrIn w' p a1 a2 → Calls Tryd.prog 12 #[.agg #[.string p.name, .slice a1 p.params.length c1, .slice a2 p.body.length c2]] w' fun e' w'' => e' = .returned (.int .i64 (chk p).2) ∧ Below w'.heap.size w' w'') := fun w' t' k => by
    have h := HSP.out
    exact oCheck_any p a1 a2 c1 c2 HOk.out (by have := h.body; omega) (by have := h.params; omega) (fun j hj => by have := h.each j hj; omega) HC1.out w' t' k
  have HC2' : Hid (∀ w', Tb w' → PrIn w' q p1 p2 → Calls Tryd.prog 12 #[.agg #[.string q.name, .slice p1 q.params.length q1, .slice p2 q.body.length q2]] w' fun e' w'' => e' = .returned (.int .i64 (chk q).2) ∧ Below w'.heap.size w' w'') := fun w' t' k =>
    oCheck_any q p1 p2 q1 q2 hpp.ok hpp.sz hpp.pl hpp.ps HCq.out w' t' k
  have HN1 : Hid (∀ w', PrIn w' p a1 a2 → Calls Tryd.prog 19 #[.agg #[.string p.name, .slice a1 p.params.length c1, .slice a2 p.body.length c2]] w' (A.GivesN w' (names p))) := fun w' k =>
    A.rnames_any p a1 a2 c1 c2 HOk.out (by have := HSP.out.params; omega) w' k
  rw [hfa.two] at HC2'
  have hone := hfa.one
  have HLe : Hid (decide ((chk p).2 = 0) = decide ((chk p).1.length = (names p).length)) := hfa.len
  have hnl : (chk p).1.length ≤ 2000 := by
    by_cases hz : (chk p).2 = 0
    · have h1 := ((chk_main p).2 hz).names
      have h2 : (chk p).1.length = (names p).length := by rw [← h1, List.length_map]
      have h3 := A.names_len p (by have := HSP.out.params; omega)
      omega
    · rw [chk_bad hz]; exact Nat.zero_le _
  have hl2 : (chk q).1.length = (chk p).1.length := by rw [hone, List.length_map]
  have HAB : Hid (∀ j (h1 : j < (chk q).1.length) (h2 : j < (chk p).1.length), (chk q).1[j] = renP f t (chk p).1[j]) := fun j h1 h2 => by simp only [hone, List.getElem_map]
  generalize (chk p).2 = z at *
  generalize (chk p).1 = va at *
  generalize (chk q).1 = vb at *
  obtain ⟨nn, hnn⟩ : ∃ m, (names p).length = m := ⟨_, rfl⟩
  have HNN := Lib.hid hnn
  rw [hnn] at HLe
  clear hnn
  clear hfa hpp HF1 HSP HOk hone
  obtain ⟨n, hn⟩ : ∃ n, va.length = n := ⟨_, rfl⟩
  have HNa := Lib.hid hn
  rw [hn] at hl2 HLe hnl
  have HNb := Lib.hid hl2
  have HBe : Hid (((n : Int) == (nn : Int)) = decide (z = 0)) := by
    show _ = _
    rw [HLe.out]
    by_cases h : n = nn
    · rw [h, decide_eq_true rfl]; exact beq_self_eq_true _
    · rw [decide_eq_false h]; exact beq_eq_false_iff_ne.2 (by omega)
  clear hn hl2
  go_upto_region 6 with fail
  have hb4 := HB4.out.size
  generalize hW6 : w3.alloc (.cells #[.string q.name, .slice p1 q.params.length q1, .slice p2 q.body.length q2] 25) = W6 at *
  clear hW6
  refine wp_region_inv rfl (fun l a w' => ∃ v0 v1 v2 v3 v4 v5 : Value, a = { tmps := #[Value.agg #[Value.string p.name, Value.slice a1 p.params.length c1, Value.slice a2 p.body.length c2], Value.string f, Value.string t, Value.pointer (some { block := w.heap.size, off := 0 }), undef, undef, Value.bool false, Value.pointer (some { block := w3.heap.size, off := 0 }), Value.int IntKind.i64 0, v4, v5, undef, undef, Value.agg #[Value.string p.name, Value.slice a1 p.params.length c1, Value.slice a2 p.body.length c2], Value.bool true, Value.bool false, Value.bool false, Value.string f, Value.int IntKind.i64 ↑f.size, Value.bool false, Value.bool false, Value.bool false, Value.string t, Value.int IntKind.i64 ↑t.size, Value.bool false, Value.bool false, undef, Value.tuple #[Value.agg #[Value.string q.name, Value.slice p1 q.params.length q1, Value.slice p2 q.body.length q2], Value.int IntKind.i64 0], Value.agg #[Value.string p.name, Value.slice a1 p.params.length c1, Value.slice a2 p.body.length c2], Value.string f, Value.string t, Value.tuple #[Value.agg #[Value.string q.name, Value.slice p1 q.params.length q1, Value.slice p2 q.body.length q2], Value.int IntKind.i64 0], Value.agg #[Value.string q.name, Value.slice p1 q.params.length q1, Value.slice p2 q.body.length q2], Value.int IntKind.i64 0, Value.int IntKind.i64 0, Value.bool false, undef, v0, v1, v2, v3, undef, undef, undef, undef, undef, undef, undef, undef, undef, undef, undef, undef, undef, undef, undef, undef, undef, undef, undef, undef, undef, undef, undef, undef, undef, undef, undef, undef, undef, undef, undef, undef, undef, undef, undef, undef, undef, undef, undef, undef, undef, undef, undef, undef, undef, undef, undef, undef, undef, undef, undef, undef, undef, undef, undef, undef, undef, undef, undef, undef], defers := [] } ∧ IS (P6 (.agg #[.string p.name, .slice a1 p.params.length c1, .slice a2 p.body.length c2]) (.agg #[.string q.name, .slice p1 q.params.length q1, .slice p2 q.body.length q2]) va vb n) W6 l w' [v0, v1, v2, v3, v4, v5]) (by kernel_rfl) ?_ ?_ ?_
  · intro l hl
    exact ⟨_, _, _, _, _, _, rfl, IS.start _ _ hl _⟩
  · rintro l a w' ⟨v0, v1, v2, v3, v4, v5, rfl, F⟩ i hi h0 hall
    match i, hi, h0, hall with
    | 0, _, h0, hall =>
      have hxx := HX.out.below (below_2 HB4.out F.bel)
      have y0 := hxx.cell 0
      have y1 := hxx.cell 1
      have y2 := hxx.cell 2
      simp only [List.getElem?_toArray, List.getElem?_cons_zero, List.getElem?_cons_succ] at y0 y1 y2
      clear hxx
      have HF := Lib.hid (F.step P6.mono h0 (show 0 < 6 by decide) (Below.refl _ _) (x := .agg #[.string p.name, .slice a1 p.params.length c1, .slice a2 p.body.length c2]) rfl)
      clear F hall h0
      refine wpOp_step (by rfl) (fun K' hK => ?_)
      have HKk := Lib.hid hK
      clear hK
      go_simp
      exact HKk.out _ _ ⟨_, _, _, _, _, _, rfl, HF.out⟩
    | 1, _, h0, hall =>
      obtain rfl : v0 = .agg #[.string p.name, .slice a1 p.params.length c1, .slice a2 p.body.length c2] := F.f 0 (hall 0 (by decide +kernel))
      have HC := Lib.hid (HV1.out w' (HT.out.below (below_2 HB4.out F.bel)) (HK.out.below (below_2 HB4.out F.bel)))
      have HF := Lib.hid (fun w'' hb x hx => F.step P6.mono h0 (show 1 < 6 by decide) (w' := w'') hb (x := x) hx)
      clear F hall h0
      refine wpOp_step (by rfl) (fun K' hK => ?_)
      have HKk := Lib.hid hK
      clear hK
      go_simp
      go_at_call 15
      refine HC.out.mono ?_; rintro e' w5 ⟨p', q', rfl, _, hp', hb5⟩
      have HF5 := Lib.hid (HF.out w5 hb5 _ (show P6 _ _ _ _ n 1 (.slice p' va.length q') w5 from ⟨p', q', by rw [HNa.out], hp'⟩))
      exact HKk.out _ _ ⟨_, _, _, _, _, _, rfl, HF5.out⟩
    | 2, _, h0, hall =>
      have hxx := HQ.out.below F.bel
      have y0 := hxx.cell 0
      have y1 := hxx.cell 1
      have y2 := hxx.cell 2
      simp only [List.getElem?_toArray, List.getElem?_cons_zero, List.getElem?_cons_succ] at y0 y1 y2
      clear hxx
      have HF := Lib.hid (F.step P6.mono h0 (show 2 < 6 by decide) (Below.refl _ _) (x := .agg #[.string q.name, .slice p1 q.params.length q1, .slice p2 q.body.length q2]) rfl)
      clear F hall h0
      refine wpOp_step (by rfl) (fun K' hK => ?_)
      have HKk := Lib.hid hK
      clear hK
      go_simp
      exact HKk.out _ _ ⟨_, _, _, _, _, _, rfl, HF.out⟩
    | 3, _, h0, hall =>
      obtain rfl : v2 = .agg #[.string q.name, .slice p1 q.params.length q1, .slice p2 q.body.length q2] := F.f 2 (hall 2 (by decide +kernel))
      have HC := Lib.hid (HV2.out w' (HT.out.below (below_2 HB4.out F.bel)) (HKq.out.below F.bel))
      have HF := Lib.hid (fun w'' hb x hx => F.step P6.mono h0 (show 3 < 6 by decide) (w' := w'') hb (x := x) hx)
      clear F hall h0
      refine wpOp_step (by rfl) (fun K' hK => ?_)
      have HKk := Lib.hid hK
      clear hK
      go_simp
      go_at_call 15
      refine HC.out.mono ?_; rintro e' w5 ⟨p', q', rfl, _, hp', hb5⟩
      have HF5 := Lib.hid (HF.out w5 hb5 _ (show P6 _ _ _ _ n 3 (.slice p' vb.length q') w5 from ⟨p', q', by rw [HNb.out], hp'⟩))
      exact HKk.out _ _ ⟨_, _, _, _, _, _, rfl, HF5.out⟩
    | 4, _, h0, hall =>
      obtain ⟨pa, qa, rfl, hs⟩ : ∃ p q, v1 = .slice p n q ∧ PmsAt w' p va := F.f 1 (hall 1 (by decide +kernel))
      have HF := Lib.hid (F.step P6.mono h0 (show 4 < 6 by decide) (Below.refl _ _) (x := .slice pa n qa) ⟨pa, qa, rfl, hs⟩)
      clear F hall h0
      refine wpOp_step (by rfl) (fun K' hK => ?_)
      have HKk := Lib.hid hK
      clear hK
      go_simp
      exact HKk.out _ _ ⟨_, _, _, _, _, _, rfl, HF.out⟩
    | 5, _, h0, hall =>
      obtain ⟨pa, qa, rfl, hs⟩ : ∃ p q, v3 = .slice p n q ∧ PmsAt w' p vb := F.f 3 (hall 3 (by decide +kernel))
      have HF := Lib.hid (F.step P6.mono h0 (show 5 < 6 by decide) (Below.refl _ _) (x := .slice pa n qa) ⟨pa, qa, rfl, hs⟩)
      clear F hall h0
      refine wpOp_step (by rfl) (fun K' hK => ?_)
      have HKk := Lib.hid hK
      clear hK
      go_simp
      exact HKk.out _ _ ⟨_, _, _, _, _, _, rfl, HF.out⟩
    | i + 6, hi, _, _ => exact absurd hi (by show ¬ (i + 6 < 6); omega)
  rintro l6 a w5 ⟨r0, r1, r2, r3, r4, r5, rfl, F⟩ hall
  obtain ⟨pa, qa, rfl, hpa⟩ : ∃ p q, r4 = .slice p n q ∧ PmsAt w5 p va := F.f 4 (hall 4 (by decide))
  obtain ⟨pb, qb, rfl, hpb⟩ : ∃ p q, r5 = .slice p n q ∧ PmsAt w5 p vb := F.f 5 (hall 5 (by decide))
  have HPa := Lib.hid hpa
  have HPb := Lib.hid hpb
  have HB5 := Lib.hid (below_2 HB4.out F.bel)
  have HQ5 := Lib.hid (HQ.out.below F.bel)
  have HKq5 := Lib.hid (HKq.out.below F.bel)
  clear hpa hpb F hall HV1 HV2 HQ HKq HB4 hb4
  go_upto_region 7 with fail
  refine wp_region_inv rfl (fun l a w' => ∃ v0 v1 v2 v3 v4 v5 v6 v7 v8 v9 v10 v11 v12 v13 v14 v15 v16 v17 v18 v19 v20 v21 v22 v23 : Value, a = { tmps := #[Value.agg #[Value.string p.name, Value.slice a1 p.params.length c1, Value.slice a2 p.body.length c2], Value.string f, Value.string t, Value.pointer (some { block := w.heap.size, off := 0 }), undef, undef, Value.bool false, Value.pointer (some { block := w3.heap.size, off := 0 }), Value.int IntKind.i64 0, Value.slice pa n qa, Value.slice pb n qb, undef, undef, Value.agg #[Value.string p.name, Value.slice a1 p.params.length c1, Value.slice a2 p.body.length c2], Value.bool true, Value.bool false, Value.bool false, Value.string f, Value.int IntKind.i64 ↑f.size, Value.bool false, Value.bool false, Value.bool false, Value.string t, Value.int IntKind.i64 ↑t.size, Value.bool false, Value.bool false, undef, Value.tuple #[Value.agg #[Value.string q.name, Value.slice p1 q.params.length q1, Value.slice p2 q.body.length q2], Value.int IntKind.i64 0], Value.agg #[Value.string p.name, Value.slice a1 p.params.length c1, Value.slice a2 p.body.length c2], Value.string f, Value.string t, Value.tuple #[Value.agg #[Value.string q.name, Value.slice p1 q.params.length q1, Value.slice p2 q.body.length q2], Value.int IntKind.i64 0], Value.agg #[Value.string q.name, Value.slice p1 q.params.length q1, Value.slice p2 q.body.length q2], Value.int IntKind.i64 0, Value.int IntKind.i64 0, Value.bool false, undef, r0, r1, r2, r3, v0, v1, v2, v3, v4, v5, v6, v7, v8, v9, v10, v11, v12, v13, v14, v15, v16, v17, v18, v19, v20, v21, v22, v23, undef, undef, undef, undef, undef, undef, undef, undef, undef, undef, undef, undef, undef, undef, undef, undef, undef, undef, undef, undef, undef, undef, undef, undef, undef, undef, undef, undef, undef, undef, undef, undef, undef, undef, undef, undef], defers := [] } ∧ IS (P7 (.agg #[.string p.name, .slice a1 p.params.length c1, .slice a2 p.body.length c2]) (.agg #[.string q.name, .slice p1 q.params.length q1, .slice p2 q.body.length q2]) z n nn (decide (z = 0)) (.slice pa n qa) (.slice pb n qb)) w5 l w' [v0, v1, v2, v3, v4, v5, v6, v7, v8, v9, v10, v11, v12, v13, v14, v15, v16, v17, v18, v19, v20, v21, v22, v23]) (by kernel_rfl) ?_ ?_ ?_
  · intro l hl
    exact ⟨_, _, _, _, _, _, _, _, _, _, _, _, _, _, _, _, _, _, _, _, _, _, _, _, rfl, IS.start _ _ hl _⟩
  · rintro l a w' ⟨v0, v1, v2, v3, v4, v5, v6, v7, v8, v9, v10, v11, v12, v13, v14, v15, v16, v17, v18, v19, v20, v21, v22, v23, rfl, F⟩ i hi h0 hall
    match i, hi, h0, hall with
    | 0, _, h0, hall =>
      have hxx := HX.out.below (below_2 HB5.out F.bel)
      have y0 := hxx.cell 0
      have y1 := hxx.cell 1
      have y2 := hxx.cell 2
      simp only [List.getElem?_toArray, List.getElem?_cons_zero, List.getElem?_cons_succ] at y0 y1 y2
      clear hxx
      have HF := Lib.hid (F.step P7.mono h0 (show 0 < 24 by decide) (Below.refl _ _) (x := .agg #[.string p.name, .slice a1 p.params.length c1, .slice a2 p.body.length c2]) rfl)
      clear F hall h0
      refine wpOp_step (by rfl) (fun K' hK => ?_)
      have HKk := Lib.hid hK
      clear hK
      go_simp
      exact HKk.out _ _ ⟨_, _, _, _, _, _, _, _, _, _, _, _, _, _, _, _, _, _, _, _, _, _, _, _, rfl, HF.out⟩
    | 1, _, h0, hall =>
      obtain rfl : v0 = .agg #[.string p.name, .slice a1 p.params.length c1, .slice a2 p.body.length c2] := F.f 0 (hall 0 (by decide +kernel))
      have HC := Lib.hid (HC1'.out w' (HT.out.below (below_2 HB5.out F.bel)) (HK.out.below (below_2 HB5.out F.bel)))
      have HF := Lib.hid (fun w'' hb x hx => F.step P7.mono h0 (show 1 < 24 by decide) (w' := w'') hb (x := x) hx)
      clear F hall h0
      refine wpOp_step (by rfl) (fun K' hK => ?_)
      have HKk := Lib.hid hK
      clear hK
      go_simp
      go_at_call 12
      refine HC.out.mono ?_; rintro e' w5 ⟨rfl, hb5⟩
      have HF5 := Lib.hid (HF.out w5 hb5 _ (show P7 _ _ _ _ _ _ _ _ 1 (.int .i64 z) w5 from rfl))
      exact HKk.out _ _ ⟨_, _, _, _, _, _, _, _, _, _, _, _, _, _, _, _, _, _, _, _, _, _, _, _, rfl, HF5.out⟩
    | 2, _, h0, hall =>
      have hxx := HQ5.out.below F.bel
      have y0 := hxx.cell 0
      have y1 := hxx.cell 1
      have y2 := hxx.cell 2
      simp only [List.getElem?_toArray, List.getElem?_cons_zero, List.getElem?_cons_succ] at y0 y1 y2
      clear hxx
      have HF := Lib.hid (F.step P7.mono h0 (show 2 < 24 by decide) (Below.refl _ _) (x := .agg #[.string q.name, .slice p1 q.params.length q1, .slice p2 q.body.length q2]) rfl)
      clear F hall h0
      refine wpOp_step (by rfl) (fun K' hK => ?_)
      have HKk := Lib.hid hK
      clear hK
      go_simp
      exact HKk.out _ _ ⟨_, _, _, _, _, _, _, _, _, _, _, _, _, _, _, _, _, _, _, _, _, _, _, _, rfl, HF.out⟩
    | 3, _, h0, hall =>
      obtain rfl : v2 = .agg #[.string q.name, .slice p1 q.params.length q1, .slice p2 q.body.length q2] := F.f 2 (hall 2 (by decide +kernel))
      have HC := Lib.hid (HC2'.out w' (HT.out.below (below_2 HB5.out F.bel)) (HKq5.out.below F.bel))
      have HF := Lib.hid (fun w'' hb x hx => F.step P7.mono h0 (show 3 < 24 by decide) (w' := w'') hb (x := x) hx)
      clear F hall h0
      refine wpOp_step (by rfl) (fun K' hK => ?_)
      have HKk := Lib.hid hK
      clear hK
      go_simp
      go_at_call 12
      refine HC.out.mono ?_; rintro e' w5 ⟨rfl, hb5⟩
      have HF5 := Lib.hid (HF.out w5 hb5 _ (show P7 _ _ _ _ _ _ _ _ 3 (.int .i64 z) w5 from rfl))
      exact HKk.out _ _ ⟨_, _, _, _, _, _, _, _, _, _, _, _, _, _, _, _, _, _, _, _, _, _, _, _, rfl, HF5.out⟩
    | 4, _, h0, hall =>
      obtain rfl : v1 = .int .i64 z := F.f 1 (hall 1 (by decide +kernel))
      obtain rfl : v3 = .int .i64 z := F.f 3 (hall 3 (by decide +kernel))
      have HF := Lib.hid (F.step P7.mono h0 (show 4 < 24 by decide) (Below.refl _ _) (x := .bool false) rfl)
      clear F hall h0
      refine wpOp_step (by rfl) (fun K' hK => ?_)
      have HKk := Lib.hid hK
      clear hK
      go_simp
      exact HKk.out _ _ ⟨_, _, _, _, _, _, _, _, _, _, _, _, _, _, _, _, _, _, _, _, _, _, _, _, rfl, HF.out⟩
    | 5, _, h0, hall =>
      obtain rfl : v4 = .bool false := F.f 4 (hall 4 (by decide +kernel))
      have HF := Lib.hid (F.step P7.mono h0 (show 5 < 24 by decide) (Below.refl _ _) (x := .bool false) rfl)
      clear F hall h0
      refine wpOp_step (by rfl) (fun K' hK => ?_)
      have HKk := Lib.hid hK
      clear hK
      go_simp
      exact HKk.out _ _ ⟨_, _, _, _, _, _, _, _, _, _, _, _, _, _, _, _, _, _, _, _, _, _, _, _, rfl, HF.out⟩
    | 6, _, h0, hall =>
      obtain rfl : v5 = .bool false := F.f 5 (hall 5 (by decide +kernel))
      have HF := Lib.hid (F.step P7.mono h0 (show 6 < 24 by decide) (Below.refl _ _) (x := .slice pa n qa) rfl)
      clear F hall h0
      refine wpOp_step (by rfl) (fun K' hK => ?_)
      have HKk := Lib.hid hK
      clear hK
      go_simp
      exact HKk.out _ _ ⟨_, _, _, _, _, _, _, _, _, _, _, _, _, _, _, _, _, _, _, _, _, _, _, _, rfl, HF.out⟩
    | 7, _, h0, hall =>
      obtain rfl : v5 = .bool false := F.f 5 (hall 5 (by decide +kernel))
      obtain rfl : v6 = .slice pa n qa := F.f 6 (hall 6 (by decide +kernel))
      have HF := Lib.hid (F.step P7.mono h0 (show 7 < 24 by decide) (Below.refl _ _) (x := .int .i64 (n : Int)) rfl)
      clear F hall h0
      refine wpOp_step (by rfl) (fun K' hK => ?_)
      have HKk := Lib.hid hK
      clear hK
      go_simp
      exact HKk.out _ _ ⟨_, _, _, _, _, _, _, _, _, _, _, _, _, _, _, _, _, _, _, _, _, _, _, _, rfl, HF.out⟩
    | 8, _, h0, hall =>
      obtain rfl : v5 = .bool false := F.f 5 (hall 5 (by decide +kernel))
      have HF := Lib.hid (F.step P7.mono h0 (show 8 < 24 by decide) (Below.refl _ _) (x := .slice pb n qb) rfl)
      clear F hall h0
      refine wpOp_step (by rfl) (fun K' hK => ?_)
      have HKk := Lib.hid hK
      clear hK
      go_simp
      exact HKk.out _ _ ⟨_, _, _, _, _, _, _, _, _, _, _, _, _, _, _, _, _, _, _, _, _, _, _, _, rfl, HF.out⟩
    | 9, _, h0, hall =>
      obtain rfl : v5 = .bool false := F.f 5 (hall 5 (by decide +kernel))
      obtain rfl : v8 = .slice pb n qb := F.f 8 (hall 8 (by decide +kernel))
      have HF := Lib.hid (F.step P7.mono h0 (show 9 < 24 by decide) (Below.refl _ _) (x := .int .i64 (n : Int)) rfl)
      clear F hall h0
      refine wpOp_step (by rfl) (fun K' hK => ?_)
      have HKk := Lib.hid hK
      clear hK
      go_simp
      exact HKk.out _ _ ⟨_, _, _, _, _, _, _, _, _, _, _, _, _, _, _, _, _, _, _, _, _, _, _, _, rfl, HF.out⟩
    | 10, _, h0, hall =>
      obtain rfl : v5 = .bool false := F.f 5 (hall 5 (by decide +kernel))
      obtain rfl : v7 = .int .i64 (n : Int) := F.f 7 (hall 7 (by decide +kernel))
      obtain rfl : v9 = .int .i64 (n : Int) := F.f 9 (hall 9 (by decide +kernel))
      have HF := Lib.hid (F.step P7.mono h0 (show 10 < 24 by decide) (Below.refl _ _) (x := .bool false) rfl)
      clear F hall h0
      refine wpOp_step (by rfl) (fun K' hK => ?_)
      have HKk := Lib.hid hK
      clear hK
      go_simp
      exact HKk.out _ _ ⟨_, _, _, _, _, _, _, _, _, _, _, _, _, _, _, _, _, _, _, _, _, _, _, _, rfl, HF.out⟩
    | 11, _, h0, hall =>
      obtain rfl : v5 = .bool false := F.f 5 (hall 5 (by decide +kernel))
      obtain rfl : v10 = .bool false := F.f 10 (hall 10 (by decide +kernel))
      have HF := Lib.hid (F.step P7.mono h0 (show 11 < 24 by decide) (Below.refl _ _) (x := .bool false) rfl)
      clear F hall h0
      refine wpOp_step (by rfl) (fun K' hK => ?_)
      have HKk := Lib.hid hK
      clear hK
      go_simp
      exact HKk.out _ _ ⟨_, _, _, _, _, _, _, _, _, _, _, _, _, _, _, _, _, _, _, _, _, _, _, _, rfl, HF.out⟩
    | 12, _, h0, hall =>
      obtain rfl : v11 = .bool false := F.f 11 (hall 11 (by decide +kernel))
      have HF := Lib.hid (F.step P7.mono h0 (show 12 < 24 by decide) (Below.refl _ _) (x := .bool false) rfl)
      clear F hall h0
      refine wpOp_step (by rfl) (fun K' hK => ?_)
      have HKk := Lib.hid hK
      clear hK
      go_simp
      exact HKk.out _ _ ⟨_, _, _, _, _, _, _, _, _, _, _, _, _, _, _, _, _, _, _, _, _, _, _, _, rfl, HF.out⟩
    | 13, _, h0, hall =>
      obtain rfl : v12 = .bool false := F.f 12 (hall 12 (by decide +kernel))
      have hxx := HX.out.below (below_2 HB5.out F.bel)
      have y0 := hxx.cell 0
      have y1 := hxx.cell 1
      have y2 := hxx.cell 2
      simp only [List.getElem?_toArray, List.getElem?_cons_zero, List.getElem?_cons_succ] at y0 y1 y2
      clear hxx
      have HF := Lib.hid (F.step P7.mono h0 (show 13 < 24 by decide) (Below.refl _ _) (x := .agg #[.string p.name, .slice a1 p.params.length c1, .slice a2 p.body.length c2]) rfl)
      clear F hall h0
      refine wpOp_step (by rfl) (fun K' hK => ?_)
      have HKk := Lib.hid hK
      clear hK
      go_simp
      exact HKk.out _ _ ⟨_, _, _, _, _, _, _, _, _, _, _, _, _, _, _, _, _, _, _, _, _, _, _, _, rfl, HF.out⟩
    | 14, _, h0, hall =>
      obtain rfl : v12 = .bool false := F.f 12 (hall 12 (by decide +kernel))
      obtain rfl : v13 = .agg #[.string p.name, .slice a1 p.params.length c1, .slice a2 p.body.length c2] := F.f 13 (hall 13 (by decide +kernel))
      have HC := Lib.hid (HC1'.out w' (HT.out.below (below_2 HB5.out F.bel)) (HK.out.below (below_2 HB5.out F.bel)))
      have HF := Lib.hid (fun w'' hb x hx => F.step P7.mono h0 (show 14 < 24 by decide) (w' := w'') hb (x := x) hx)
      clear F hall h0
      refine wpOp_step (by rfl) (fun K' hK => ?_)
      have HKk := Lib.hid hK
      clear hK
      go_simp
      go_at_call 12
      refine HC.out.mono ?_; rintro e' w5 ⟨rfl, hb5⟩
      have HF5 := Lib.hid (HF.out w5 hb5 _ (show P7 _ _ _ _ _ _ _ _ 14 (.int .i64 z) w5 from rfl))
      exact HKk.out _ _ ⟨_, _, _, _, _, _, _, _, _, _, _, _, _, _, _, _, _, _, _, _, _, _, _, _, rfl, HF5.out⟩
    | 15, _, h0, hall =>
      obtain rfl : v12 = .bool false := F.f 12 (hall 12 (by decide +kernel))
      obtain rfl : v14 = .int .i64 z := F.f 14 (hall 14 (by decide +kernel))
      have bz : (z == 0) = decide (z = 0) := rfl
      have HF := Lib.hid (F.step P7.mono h0 (show 15 < 24 by decide) (Below.refl _ _) (x := .bool (decide (z = 0))) rfl)
      clear F hall h0
      refine wpOp_step (by rfl) (fun K' hK => ?_)
      have HKk := Lib.hid hK
      clear hK
      go_simp
      exact HKk.out _ _ ⟨_, _, _, _, _, _, _, _, _, _, _, _, _, _, _, _, _, _, _, _, _, _, _, _, rfl, HF.out⟩
    | 16, _, h0, hall =>
      obtain rfl : v12 = .bool false := F.f 12 (hall 12 (by decide +kernel))
      have HF := Lib.hid (F.step P7.mono h0 (show 16 < 24 by decide) (Below.refl _ _) (x := .slice pa n qa) rfl)
      clear F hall h0
      refine wpOp_step (by rfl) (fun K' hK => ?_)
      have HKk := Lib.hid hK
      clear hK
      go_simp
      exact HKk.out _ _ ⟨_, _, _, _, _, _, _, _, _, _, _, _, _, _, _, _, _, _, _, _, _, _, _, _, rfl, HF.out⟩
    | 17, _, h0, hall =>
      obtain rfl : v12 = .bool false := F.f 12 (hall 12 (by decide +kernel))
      obtain rfl : v16 = .slice pa n qa := F.f 16 (hall 16 (by decide +kernel))
      have HF := Lib.hid (F.step P7.mono h0 (show 17 < 24 by decide) (Below.refl _ _) (x := .int .i64 (n : Int)) rfl)
      clear F hall h0
      refine wpOp_step (by rfl) (fun K' hK => ?_)
      have HKk := Lib.hid hK
      clear hK
      go_simp
      exact HKk.out _ _ ⟨_, _, _, _, _, _, _, _, _, _, _, _, _, _, _, _, _, _, _, _, _, _, _, _, rfl, HF.out⟩
    | 18, _, h0, hall =>
      obtain rfl : v12 = .bool false := F.f 12 (hall 12 (by decide +kernel))
      have hxx := HX.out.below (below_2 HB5.out F.bel)
      have y0 := hxx.cell 0
      have y1 := hxx.cell 1
      have y2 := hxx.cell 2
      simp only [List.getElem?_toArray, List.getElem?_cons_zero, List.getElem?_cons_succ] at y0 y1 y2
      clear hxx
      have HF := Lib.hid (F.step P7.mono h0 (show 18 < 24 by decide) (Below.refl _ _) (x := .agg #[.string p.name, .slice a1 p.params.length c1, .slice a2 p.body.length c2]) rfl)
      clear F hall h0
      refine wpOp_step (by rfl) (fun K' hK => ?_)
      have HKk := Lib.hid hK
      clear hK
      go_simp
      exact HKk.out _ _ ⟨_, _, _, _, _, _, _, _, _, _, _, _, _, _, _, _, _, _, _, _, _, _, _, _, rfl, HF.out⟩
    | 19, _, h0, hall =>
      obtain rfl : v12 = .bool false := F.f 12 (hall 12 (by decide +kernel))
      obtain rfl : v18 = .agg #[.string p.name, .slice a1 p.params.length c1, .slice a2 p.body.length c2] := F.f 18 (hall 18 (by decide +kernel))
      have HC := Lib.hid (HN1.out w' (HK.out.below (below_2 HB5.out F.bel)))
      have HF := Lib.hid (fun w'' hb x hx => F.step P7.mono h0 (show 19 < 24 by decide) (w' := w'') hb (x := x) hx)
      clear F hall h0
      refine wpOp_step (by rfl) (fun K' hK => ?_)
      have HKk := Lib.hid hK
      clear hK
      go_simp
      go_at_call 19
      refine HC.out.mono ?_; rintro e' w5 ⟨p', q', rfl, _, hp', hb5⟩
      have HF5 := Lib.hid (HF.out w5 hb5 _ (show P7 _ _ _ _ _ _ _ _ 19 (.slice p' (names p).length q') w5 from ⟨p', q', by rw [HNN.out]⟩))
      exact HKk.out _ _ ⟨_, _, _, _, _, _, _, _, _, _, _, _, _, _, _, _, _, _, _, _, _, _, _, _, rfl, HF5.out⟩
    | 20, _, h0, hall =>
      obtain rfl : v12 = .bool false := F.f 12 (hall 12 (by decide +kernel))
      obtain ⟨pc, qc, rfl⟩ : ∃ p q, v19 = .slice p nn q := F.f 19 (hall 19 (by decide +kernel))
      have HF := Lib.hid (F.step P7.mono h0 (show 20 < 24 by decide) (Below.refl _ _) (x := .int .i64 (nn : Int)) rfl)
      clear F hall h0
      refine wpOp_step (by rfl) (fun K' hK => ?_)
      have HKk := Lib.hid hK
      clear hK
      go_simp
      exact HKk.out _ _ ⟨_, _, _, _, _, _, _, _, _, _, _, _, _, _, _, _, _, _, _, _, _, _, _, _, rfl, HF.out⟩
    | 21, _, h0, hall =>
      obtain rfl : v12 = .bool false := F.f 12 (hall 12 (by decide +kernel))
      obtain rfl : v17 = .int .i64 (n : Int) := F.f 17 (hall 17 (by decide +kernel))
      obtain rfl : v20 = .int .i64 (nn : Int) := F.f 20 (hall 20 (by decide +kernel))
      have bz : ((n : Int) == (nn : Int)) = decide (z = 0) := HBe.out
      have HF := Lib.hid (F.step P7.mono h0 (show 21 < 24 by decide) (Below.refl _ _) (x := .bool (decide (z = 0))) rfl)
      clear F hall h0
      refine wpOp_step (by rfl) (fun K' hK => ?_)
      have HKk := Lib.hid hK
      clear hK
      go_simp
      exact HKk.out _ _ ⟨_, _, _, _, _, _, _, _, _, _, _, _, _, _, _, _, _, _, _, _, _, _, _, _, rfl, HF.out⟩
    | 22, _, h0, hall =>
      obtain rfl : v12 = .bool false := F.f 12 (hall 12 (by decide +kernel))
      obtain rfl : v15 = .bool (decide (z = 0)) := F.f 15 (hall 15 (by decide +kernel))
      obtain rfl : v21 = .bool (decide (z = 0)) := F.f 21 (hall 21 (by decide +kernel))
      have HF := Lib.hid (F.step P7.mono h0 (show 22 < 24 by decide) (Below.refl _ _) (x := .bool false) rfl)
      clear F hall h0
      refine wpOp_step (by rfl) (fun K' hK => ?_)
      have HKk := Lib.hid hK
      clear hK
      go_simp
      exact HKk.out _ _ ⟨_, _, _, _, _, _, _, _, _, _, _, _, _, _, _, _, _, _, _, _, _, _, _, _, rfl, HF.out⟩
    | 23, _, h0, hall =>
      obtain rfl : v12 = .bool false := F.f 12 (hall 12 (by decide +kernel))
      obtain rfl : v22 = .bool false := F.f 22 (hall 22 (by decide +kernel))
      have HF := Lib.hid (F.step P7.mono h0 (show 23 < 24 by decide) (Below.refl _ _) (x := .bool false) rfl)
      clear F hall h0
      refine wpOp_step (by rfl) (fun K' hK => ?_)
      have HKk := Lib.hid hK
      clear hK
      go_simp
      exact HKk.out _ _ ⟨_, _, _, _, _, _, _, _, _, _, _, _, _, _, _, _, _, _, _, _, _, _, _, _, rfl, HF.out⟩
    | i + 24, hi, _, _ => exact absurd hi (by show ¬ (i + 24 < 24); omega)
  rintro l7 a w6 ⟨v0, v1, v2, v3, v4, v5, v6, v7, v8, v9, v10, v11, v12, v13, v14, v15, v16, v17, v18, v19, v20, v21, v22, v23, rfl, F⟩ hall
  obtain rfl : v23 = .bool false := F.f 23 (hall 23 (by decide))
  have HB6 := Lib.hid (below_2 HB5.out F.bel)
  have HPa6 := Lib.hid (HPa.out.below F.bel)
  have HPb6 := Lib.hid (HPb.out.below F.bel)
  clear F hall HPa HPb HC1' HC2' HN1 HQ5 HKq5 HB5
  go_wp2_with fail
  go_loopw [11] (fun s11 wr => ∃ (i : Nat), i ≤ n ∧ s11 = .int .i64 i ∧ Hid (Below w6.heap.size w6 wr)) (fun i _ => n - (intOf i).toNat)
  case atStart => exact ⟨0, Nat.zero_le _, rfl, Below.refl _ _⟩
  case round =>
    obtain ⟨i, hi, rfl, HBs⟩ := hrel
    by_cases hlt : i < n
    · have hxa : i < va.length := by rw [HNa.out]; exact hlt
      have hxb : i < vb.length := by rw [HNb.out]; exact hlt
      have HLT := Lib.hid hlt
      obtain ⟨ba, ia, rfl, hca⟩ := (HPa6.out.below HBs.out).open hxa
      obtain ⟨bb, ib, rfl, hcb⟩ := (HPb6.out.below HBs.out).open hxb
      obtain ⟨f0, f1⟩ := hca i hxa
      obtain ⟨g0, g1⟩ := hcb i hxb
      have hab := HAB.out i hxb hxa
      generalize va[i] = x at f0 f1 hab
      rw [hab] at g0 g1
      have g0' : wr.cell? ⟨bb, ib + i * 2, none⟩ = some (.string (swap f t x.name)) := g0
      have g1' : wr.cell? ⟨bb, ib + i * 2 + 1, none⟩ = some (.int .i64 x.ty) := g1
      clear g0 g1 hca hcb hab
      by_cases hxf : x.name = f
      · have bx := A.eql_yes hxf
        have hsw : swap f t x.name = t := by unfold A.swap; rw [if_pos hxf]
        rw [hsw] at g0'
        clear hxf hsw
        go_wp2_with fail
        go_quiet (fail)
        go_wp2_with fail
        go_roundw
        case rel => exact ⟨i + 1, HLT.out, by go_num, below_2 HBs.out (A.below_dn _ _)⟩
        case measure => have := HLT.out; simp [intOf]; omega
      · have bx := A.eql_no hxf
        have hsw : swap f t x.name = x.name := by unfold A.swap; rw [if_neg hxf]
        rw [hsw] at g0'
        clear hxf hsw
        go_wp2_with fail
        go_quiet (fail)
        go_wp2_with fail
        go_roundw
        case rel => exact ⟨i + 1, HLT.out, by go_num, below_2 HBs.out (A.below_dn _ _)⟩
        case measure => have := HLT.out; simp [intOf]; omega
    · have HB7 := Lib.hid (below_2 HB6.out HBs.out)
      go_wp2_with fail
      refine (HWk.out _ HB7.out).mono ?_; rintro e' w8 ⟨rfl, hb8⟩
      have HB8 := Lib.hid hb8
      clear hb8
      go_wp2_with fail
      go_ret
      exact ⟨rfl, HB8.out⟩
theorem lawRenames_any (p : Pr) (a1 a2 : Option Addr) (c1 c2 : Nat) (hok : OkP p) (hc1 : p.params.length ≤ c1) (f t : ByteArray) (w : World) (ht : Tb w) (hK : PrIn w p a1 a2) :
    Calls Tryd.prog 7 #[prV p a1 c1 a2 c2, .string f, .string t] w fun e' w' => e' = .returned (.bool true) ∧ Below w.heap.size w w' :=
  lawRenames_core (fun p a1 a2 c1 c2 f t h1 h2 h3 h4 w h5 => A.rrename_any A.rstmt p a1 a2 c1 c2 f t h1 h2 h3 h4 w h5) p a1 a2 c1 c2 hok hc1 f t w ht hK
end Go.Proofs.YtgjnddjpinhkgaaDoor.Y
