/-
  The laws of layer 11: a list with one more name.
  The reference of layer 11: a scope with one more variable: contract.
  The laws of layer 11: which statements use only variables that are visible.
  The reference of layer 11: body: contract.
  The reference of layer 11: Check: contract.
-/
import Derived.Test.YtnelpgeiioflmaaGreatDoorM18
import Derived.Test.YtnelpgeiioflmaaGreatDoorM17
import Derived.Test.YtnelpgeiioflmaaGreatDoorSYProc
import Derived.Test.YtnelpgeiioflmaaGreatDoorM11
import Derived.Test.YtnelpgeiioflmaaGreatDoorM13
import Derived.Deep.QuietTactic
import Derived.BigQuiet
namespace Go.Proofs.YtnelpgeiioflmaaGreatDoor.Y
open Go.RowKit
open L (Str isName prt size_len below_2 below_box ret_bool ret_int eql_eq bytes_eq)
open A (Ex St Pm Pr V arity vE vEs absent exV exO exV_mk Bx okE okEs cE cEs PmsAt StrsAt PrIn OkP prV prO names valE ExsAt ExAt StsAt StAt Bodies RowK Own1 Stays kN)
open P (On off_of)

theorem flat_getN (l : List ByteArray) (j : Nat) (u : Value) (h : (kN.cs l)[j]? = some u) : ∃ hj : j < l.length, u = .string l[j] := by
  have hlt := (List.getElem?_eq_some_iff.1 h).1
  rw [RowK.cs_len] at hlt
  have hs : kN.size = 1 := rfl
  rw [hs] at hlt
  have hj : j < l.length := by omega
  have hg := RowK.cs_get kN l j hj 0 (by decide)
  rw [hs, Nat.mul_one, Nat.add_zero, h] at hg
  exact ⟨hj, Option.some.inj hg⟩
theorem wpList_append_strs {w : World} {ops : Array Oper} {rest : List Oper} {o : Oper} {a : Act} {Q : Exit → Act → World → Prop} (hgd : o.guard = none) (s x : Operand)
    (ho : o.op = .call { callee := .builtin .append, args := #[s, x], argTypes := #[29, 29] })
    (base : Nat) (Z : Nat → Prop) (p : Option Addr) (n q : Nat) (l m : List ByteArray) (hn : n = l.length) (hs : a.eval s = .slice p n q) (hown : Own1 kN w base Z (.slice p l.length q) l)
    (xa : Option Addr) (mm xc : Nat) (hmm : mm = m.length) (hx : a.eval x = .slice xa mm xc) (hP : StrsAt w xa m) (hl : l.length + m.length ≤ 1000000) (hbase : base ≤ w.heap.size) (hZ : ∀ k, Z k → k < base)
    (h : ∀ p' q' w', Own1 kN w' base Z (.slice p' (l ++ m).length q') (l ++ m) → w.grownBy w' (Value.slice p l.length q).ownBlock → Go.wpList Tryz.prog ops Q rest (a.put o.dst (.slice p' (n + mm) q')) w') :
    Go.wpList Tryz.prog ops Q (o :: rest) a w := by
  subst hn hmm
  obtain ⟨i0, hi, hz0, hz1, hz2⟩ := A.info_parts3 kN.info
  have zero : m = [] → Go.wpList Tryz.prog ops Q (o :: rest) a w := by
    rintro rfl
    obtain ⟨p2, q2, hv, hle⟩ := hown.shape
    injection hv with h1 h2 h3
    subst h1 h3
    refine wpList_plain hgd fun K hK' => ?_
    have hrun := run_append_0 (P := Tryz.prog) w 29 o.type 9 i0 kN.und hi p l.length q hle xa xc
    unfold Oper.wp
    simp [execOp, ho, resolve, invoke, builtin, hs, hx, hrun, Result.andThen]
    refine hK' _ _ ?_
    have := h p q w (by rw [List.append_nil]; exact hown) (World.grownBy.refl _ _)
    simpa using this
  rcases hP with h0 | ⟨b, i, rfl, hc⟩
  · exact zero h0
  · by_cases h0 : m.length = 0
    · exact zero (List.eq_nil_of_length_eq_zero h0)
    · refine wpList_append_lies _ hgd s x kN.t ho base kN.e i0 _ kN.size kN.bytes kN.und hi hz0 hz1 hz2 kN.zs kN.pos (.slice p l.length q) l.length (kN.cs l) hs hown.row ⟨b, i, none⟩ m.length xc (kN.cs m) hx (RowK.cs_len kN m) ?_ ?_ (by omega) (by unfold maxLen; omega) ?_ hbase w.heap.size rfl ?_
      · intro j u hu
        obtain ⟨hj, rfl⟩ := flat_getN m j u hu
        rw [WideShapes.add_plain]
        exact hc j hj
      · intro u hu
        obtain ⟨y, hy, hu⟩ := List.mem_flatMap.1 hu
        exact kN.one y u hu
      · show (l.length + m.length) * 16 ≤ _
        omega
      · intro g cap w' h1 h2 h3 _
        refine h (some ⟨g, 0, none⟩) cap w' ⟨?_, fun g' hg hz => ?_, fun _ _ => trivial⟩ h2
        · rw [List.length_append, RowK.cs_app]; exact h1
        · have hk2 : g = g' := by injection hg
          subst hk2
          have := hZ g hz
          rcases h3 with h3 | h3
          · have := (hown.lt g h3).1; omega
          · omega
end Go.Proofs.YtnelpgeiioflmaaGreatDoor.Y
namespace Go.Proofs.YtnelpgeiioflmaaGreatDoor.Y
open Go.RowKit
open L (Str isName prt size_len below_2 below_box ret_bool ret_int eql_eq bytes_eq)
open A (Ex St Pm Pr exV exO Bx okE PmsAt StrsAt RowK Own1 Stays kN)

structure SW (w0 w : World) (x0 x1 c0 c1 : Value) : Prop where
  bel : Below w0.heap.size w0 w
  sz : w0.heap.size + 3 ≤ w.heap.size
  b1 : Bx w w0.heap.size #[x0, x1] 64
  b2 : Bx w (w0.heap.size + 1) #[.slice none 0 0, .slice none 0 0] 64
  b3 : Bx w (w0.heap.size + 1 + 1) #[c0, c1] 64
namespace SW
variable {w0 w w' : World} {x0 x1 c0 c1 : Value}
theorem new (w0 : World) (x0 x1 : Value) : SW w0 (((w0.alloc (.cells #[x0, x1] 64)).alloc (.cells #[.slice none 0 0, .slice none 0 0] 64)).alloc (.cells #[.slice none 0 0, .slice none 0 0] 64)) x0 x1 (.slice none 0 0) (.slice none 0 0) := by
  have h1 := below_box w0 (.cells #[x0, x1] 64)
  have h2 := below_box (w0.alloc (.cells #[x0, x1] 64)) (.cells #[.slice none 0 0, .slice none 0 0] 64)
  have h3 := below_box ((w0.alloc (.cells #[x0, x1] 64)).alloc (.cells #[.slice none 0 0, .slice none 0 0] 64)) (.cells #[.slice none 0 0, .slice none 0 0] 64)
  have z1 : (w0.alloc (.cells #[x0, x1] 64)).heap.size = w0.heap.size + 1 := by simp
  have z2 : ((w0.alloc (.cells #[x0, x1] 64)).alloc (.cells #[.slice none 0 0, .slice none 0 0] 64)).heap.size = w0.heap.size + 1 + 1 := by simp
  have q2 := Bx.new (w0.alloc (.cells #[x0, x1] 64)) #[.slice none 0 0, .slice none 0 0] 64
  have q3 := Bx.new ((w0.alloc (.cells #[x0, x1] 64)).alloc (.cells #[.slice none 0 0, .slice none 0 0] 64)) #[.slice none 0 0, .slice none 0 0] 64
  rw [z1] at q2
  rw [z2] at q3
  exact ⟨below_2 (below_2 h1 h2) h3, by simp, ((Bx.new w0 _ _).below h2).below h3, q2.below h3, q3⟩
theorem kept (h : SW w0 w x0 x1 c0 c1) {own : Option Nat} (hg : w.grownBy w' own) (ho : ∀ g, own = some g → w0.heap.size + 3 ≤ g) : SW w0 w' x0 x1 c0 c1 := by
  have hsz := h.sz
  have hs := hg.size
  have hk : ∀ k, k < w0.heap.size + 3 → w'.heap[k]? = w.heap[k]? := fun k hk => hg.block k (by omega) (fun e => by have := ho k e.symm; omega)
  exact ⟨h.bel.grown hg (by omega) (fun g hgo => by have := ho g hgo; omega), by omega, h.b1.keep (hk _ (by omega)), h.b2.keep (hk _ (by omega)), h.b3.keep (hk _ (by omega))⟩
theorem alloc (h : SW w0 w x0 x1 c0 c1) (o : Obj) : SW w0 (w.alloc o) x0 x1 c0 c1 := by
  have hb := below_box w o
  have hs := hb.size
  have hsz := h.sz
  exact ⟨h.bel.trans (hb.mono h.bel.size), by omega, h.b1.below hb, h.b2.below hb, h.b3.below hb⟩
theorem put0 (h : SW w0 w x0 x1 c0 c1) (v : Value) : SW w0 (w.setCell ⟨w0.heap.size + 1 + 1, 0, none⟩ v) x0 x1 v c1 := by
  have hsz := h.sz
  exact ⟨h.bel.setCell (by show w0.heap.size ≤ w0.heap.size + 1 + 1; omega) _, by simpa using hsz, h.b1.keep (Below.heap_setCell _ _ _ _ (by show w0.heap.size ≠ w0.heap.size + 1 + 1; omega)), h.b2.keep (Below.heap_setCell _ _ _ _ (by show w0.heap.size + 1 ≠ w0.heap.size + 1 + 1; omega)), h.b3.set 0⟩
theorem put1 (h : SW w0 w x0 x1 c0 c1) (v : Value) : SW w0 (w.setCell ⟨w0.heap.size + 1 + 1, 1, none⟩ v) x0 x1 c0 v := by
  have hsz := h.sz
  exact ⟨h.bel.setCell (by show w0.heap.size ≤ w0.heap.size + 1 + 1; omega) _, by simpa using hsz, h.b1.keep (Below.heap_setCell _ _ _ _ (by show w0.heap.size ≠ w0.heap.size + 1 + 1; omega)), h.b2.keep (Below.heap_setCell _ _ _ _ (by show w0.heap.size + 1 ≠ w0.heap.size + 1 + 1; omega)), h.b3.set 1⟩
end SW
theorem own_put {α : Type} {K : RowK α} {w : World} {N b0 i : Nat} {v u : Value} {l : List α} (h : Own1 K w b0 (fun j => j < N + 3) v l) : Own1 K (w.setCell ⟨N + 1 + 1, i, none⟩ u) b0 (fun j => j < N + 3) v l :=
  h.next ⟨fun k _ hz => Below.heap_setCell _ _ _ _ (fun e => hz (by have : k = N + 1 + 1 := e; show k < N + 3; omega)), fun _ hk => Or.inl hk⟩
def GivesW (w : World) (vs : List Pm) (ls : List ByteArray) (e' : Ending) (w' : World) : Prop :=
  ∃ p q p2 q2, e' = .returned (.agg #[.slice p vs.length q, .slice p2 ls.length q2]) ∧ PmsAt w' p vs ∧ StrsAt w' p2 ls ∧ (∀ g i, p = some ⟨g, i, none⟩ → w.heap.size ≤ g) ∧ (∀ g i, p2 = some ⟨g, i, none⟩ → w.heap.size ≤ g) ∧ Below w.heap.size w w'
set_option maxHeartbeats 4000000 in
set_option maxRecDepth 100000 in
theorem rwith_any (vs : List Pm) (ls : List ByteArray) (va : Option Addr) (vc : Nat) (la : Option Addr) (lc : Nat) (x : ByteArray) (t : Int) (b : Bool) (hv : vs.length ≤ 100000) (hl : ls.length ≤ 100000) (w : World) (hP : PmsAt w va vs) (hS : StrsAt w la ls) :
    Calls Tryz.prog 45 #[.agg #[.slice va vs.length vc, .slice la ls.length lc], .string x, .int .i64 t, .bool b] w (GivesW w (vs ++ [⟨x, t⟩]) (if b = true then ls ++ [x] else ls)) := by
  have hw := SW.new w (.slice va vs.length vc) (.slice la ls.length lc)
  have HW := Lib.hid hw
  have HZ : Hid ((((w.alloc (.cells #[.slice va vs.length vc, .slice la ls.length lc] 64)).alloc (.cells #[.slice none 0 0, .slice none 0 0] 64)).alloc (.cells #[.slice none 0 0, .slice none 0 0] 64)).heap.size = w.heap.size + 3) := by show _ = _; simp
  have HP := Lib.hid (fun w' (h : Below w.heap.size w w') => hP.below h)
  have HS := Lib.hid (fun w' (h : Below w.heap.size w w') => hS.below h)
  have LV : Hid (([] : List Pm).length + vs.length ≤ 1000000) := by show _ ≤ _; simp; omega
  have LS : Hid (([] : List ByteArray).length + ls.length ≤ 1000000) := by show _ ≤ _; simp; omega
  have HV := Lib.hid hv
  have HLs := Lib.hid hl
  obtain ⟨n, hn⟩ : ∃ n, vs.length = n := ⟨_, rfl⟩
  have HN := Lib.hid hn
  obtain ⟨m, hm⟩ : ∃ m, ls.length = m := ⟨_, rfl⟩
  have HM := Lib.hid hm
  rw [hn, hm] at HW HZ ⊢
  clear hn hm hP hS hw hv hl
  generalize hW3 : ((w.alloc (.cells #[.slice va n vc, .slice la m lc] 64)).alloc (.cells #[.slice none 0 0, .slice none 0 0] 64)).alloc (.cells #[.slice none 0 0, .slice none 0 0] 64) = W3 at HW HZ
  go_enter Tryz.func45, Tryz.ntmps45
  have d0 := HW.out.b1.cell 0
  have d1 := HW.out.b1.cell 1
  have d2 := HW.out.b3.cell 0
  have d3 := HW.out.b3.cell 1
  have d4 := HW.out.b3.free 0
  simp only [List.getElem?_toArray, List.getElem?_cons_zero, List.getElem?_cons_succ] at d0 d1 d2 d3
  cases b with
  | false =>
    go_wp2_with (at_builtin; first
    | (refine wpList_append_pms rfl (.tmp 11) (.tmp 13) rfl (w.heap.size + 3) (fun j => j < w.heap.size + 3) none 0 0 [] vs rfl rfl Own1.nil va n vc HN.out.symm rfl (HP.out _ HW.out.bel) LV.out (by rw [HZ.out]; exact Nat.le_refl _) (fun _ h => h) ?_; intro p4 q4 w4 hown4 hgrow4; have HO4 : Hid (Own1 kP w4 (w.heap.size + 3) (fun j => j < w.heap.size + 3) (.slice p4 vs.length q4) vs) := hown4; have HW4 := Lib.hid (HW.out.kept hgrow4 (fun g hg => by cases hg)); have a0 := HW4.out.b3.cell 0; have a1 := HW4.out.b3.cell 1; have a2 := HW4.out.b3.free 0; have a3 := HW4.out.b1.cell 1; simp only [List.getElem?_toArray, List.getElem?_cons_zero, List.getElem?_cons_succ] at a0 a1 a3; have HW4' := Lib.hid (HW4.out.put0 (.slice p4 vs.length q4)); have HO4' := Lib.hid (own_put (i := 0) (u := .slice p4 vs.length q4) HO4.out); rw [HN.out] at HW4' HO4' HO4; rw [Nat.zero_add]; clear hown4 hgrow4)
    | (refine kP.wpList rfl (.tmp 17) (.tmp 21) rfl (w.heap.size + 3) (.slice p4 n q4) vs rfl HO4'.out.row ⟨x, t⟩ _ rfl w4.heap.size rfl (by simp) (by have := HV.out; omega) HW4'.out.sz ?_; intro g5 c5 w5 hown5 hgrow5 hlie5; have HO5 := Lib.hid (HO4'.out.push (y := ⟨x, t⟩) trivial (fun k hk => Nat.lt_of_lt_of_le hk HW4'.out.sz) hown5 hgrow5 hlie5); have HW5 := Lib.hid ((HW4'.out.alloc _).kept hgrow5 (fun g hg => (HO4'.out.lt g hg).1)); have b0 := HW5.out.b3.cell 0; have b1 := HW5.out.b3.cell 1; have b2 := HW5.out.b3.free 0; have b3 := HW5.out.b1.cell 1; simp only [List.getElem?_toArray, List.getElem?_cons_zero, List.getElem?_cons_succ] at b0 b1 b3; clear hown5 hgrow5 hlie5; have HW5' := Lib.hid (HW5.out.put0 (.slice (some ⟨g5, 0, none⟩) (vs.length + 1) c5)); have HO5' := Lib.hid (own_put (i := 0) (u := .slice (some ⟨g5, 0, none⟩) (vs.length + 1) c5) HO5.out); rw [HN.out] at HW5' HO5' HO5 ⊢)
    | (refine wpList_append_strs rfl (.tmp 25) (.tmp 27) rfl (w5.setCell ⟨w.heap.size + 1 + 1, 0, none⟩ (.slice (some ⟨g5, 0, none⟩) (n + 1) c5)).heap.size (fun j => j < w.heap.size + 3) none 0 0 [] ls rfl rfl Own1.nil la m lc HM.out.symm rfl (HS.out _ HW5'.out.bel) LS.out (Nat.le_refl _) (fun k hk => Nat.lt_of_lt_of_le hk HW5'.out.sz) ?_; intro p6 q6 w6 hown6 hgrow6; have HO6 : Hid (Own1 kN w6 (w5.setCell ⟨w.heap.size + 1 + 1, 0, none⟩ (.slice (some ⟨g5, 0, none⟩) (n + 1) c5)).heap.size (fun j => j < w.heap.size + 3) (.slice p6 ls.length q6) ls) := hown6; have HW6 := Lib.hid (HW5'.out.kept hgrow6 (fun g hg => by cases hg)); have HT6 : Hid (∀ k, w.heap.size + 3 ≤ k → k < (w5.setCell ⟨w.heap.size + 1 + 1, 0, none⟩ (.slice (some ⟨g5, 0, none⟩) (n + 1) c5)).heap.size → w6.heap[k]? = (w5.setCell ⟨w.heap.size + 1 + 1, 0, none⟩ (.slice (some ⟨g5, 0, none⟩) (n + 1) c5)).heap[k]?) := (fun k _ hk => hgrow6.block k hk (fun e => by cases e)); have HG6 : Hid ((w5.setCell ⟨w.heap.size + 1 + 1, 0, none⟩ (.slice (some ⟨g5, 0, none⟩) (n + 1) c5)).heap.size ≤ w6.heap.size) := hgrow6.size; have k0 := HW6.out.b3.cell 0; have k1 := HW6.out.b3.cell 1; have k2 := HW6.out.b3.free 1; have e0 := HW6.out.b2.cell 0; have e1 := HW6.out.b2.cell 1; have e2 := HW6.out.b2.free 0; have e3 := HW6.out.b2.free 1; simp only [List.getElem?_toArray, List.getElem?_cons_zero, List.getElem?_cons_succ] at k0 k1 e0 e1; have HW6' := Lib.hid (HW6.out.put1 (.slice p6 ls.length q6)); have HO6' := Lib.hid (own_put (i := 1) (u := .slice p6 ls.length q6) HO6.out); rw [HM.out] at HW6' HO6' HO6; rw [Nat.zero_add]; clear hown6 hgrow6)
    | (refine kN.wpList rfl (.tmp 32) (.tmp 34) rfl (w5.setCell ⟨w.heap.size + 1 + 1, 0, none⟩ (.slice (some ⟨g5, 0, none⟩) (n + 1) c5)).heap.size (.slice p6 m q6) ls rfl HO6'.out.row x _ rfl w6.heap.size rfl (by simp) (by have := HLs.out; omega) (by have := HG6.out; simp only [World.size_setCell] at this ⊢; exact this) ?_; intro g7 c7 w7 hown7 hgrow7 hlie7; have HO7 := Lib.hid (HO6'.out.push (y := x) trivial (fun k hk => Nat.lt_of_lt_of_le hk HW6'.out.sz) hown7 hgrow7 hlie7); have HW7 := Lib.hid ((HW6'.out.alloc _).kept hgrow7 (fun g hg => Nat.le_trans HW5'.out.sz (HO6'.out.lt g hg).1)); have HT7 : Hid (∀ k, w.heap.size + 3 ≤ k → k < (w5.setCell ⟨w.heap.size + 1 + 1, 0, none⟩ (.slice (some ⟨g5, 0, none⟩) (n + 1) c5)).heap.size → w7.heap[k]? = (w5.setCell ⟨w.heap.size + 1 + 1, 0, none⟩ (.slice (some ⟨g5, 0, none⟩) (n + 1) c5)).heap[k]?) := (fun k h1 h2 => by have hg := HG6.out; have hs : (w6.setCell ⟨w.heap.size + 1 + 1, 1, none⟩ (.slice p6 m q6)).heap.size = w6.heap.size := (by simp); refine ((hgrow7.block k (by simp only [World.size_alloc]; omega) (fun e => by have := (HO6'.out.lt k e.symm).1; omega)).trans (Below.heap_alloc _ _ k (by omega))).trans ?_; rw [Below.heap_setCell _ _ _ _ (by show k ≠ w.heap.size + 1 + 1; omega)]; exact HT6.out k h1 h2); have k3 := HW7.out.b3.cell 0; have k4 := HW7.out.b3.cell 1; have k5 := HW7.out.b3.free 1; have e4 := HW7.out.b2.cell 0; have e5 := HW7.out.b2.cell 1; have e6 := HW7.out.b2.free 0; have e7 := HW7.out.b2.free 1; simp only [List.getElem?_toArray, List.getElem?_cons_zero, List.getElem?_cons_succ] at k3 k4 e4 e5; clear hown7 hgrow7 hlie7; rw [HM.out] at HO7 ⊢))
    have hq := HW6'.out.b2.set 0 (u := (.slice (some ⟨g5, 0, none⟩) (n + 1) c5))
    have q0 := hq.cell 0
    have q1 := (hq.set 1 (u := (.slice p6 m q6))).cell 1
    simp at q0 q1
    have HR6 : Hid (Own1 kN (w6.setCell ⟨w.heap.size + 1 + 1, 1, none⟩ (.slice p6 m q6)) (w5.setCell ⟨w.heap.size + 1 + 1, 0, none⟩ (.slice (some ⟨g5, 0, none⟩) (n + 1) c5)).heap.size (fun j => j < w.heap.size + 3) (.slice p6 ls.length q6) ls) := by show Own1 _ _ _ _ _ _; rw [HM.out]; exact HO6'.out
    have HT8 : Hid (∀ k, w.heap.size + 3 ≤ k → k < (w5.setCell ⟨w.heap.size + 1 + 1, 0, none⟩ (.slice (some ⟨g5, 0, none⟩) (n + 1) c5)).heap.size → (((w6.setCell ⟨w.heap.size + 1 + 1, 1, none⟩ (.slice p6 m q6)).setCell ⟨w.heap.size + 1, 0, none⟩ (.slice (some ⟨g5, 0, none⟩) (n + 1) c5)).setCell ⟨w.heap.size + 1, 1, none⟩ (.slice p6 m q6)).heap[k]? = (w5.setCell ⟨w.heap.size + 1 + 1, 0, none⟩ (.slice (some ⟨g5, 0, none⟩) (n + 1) c5)).heap[k]?) := fun k h1 h2 => by
      rw [Below.heap_setCell _ _ _ _ (by show k ≠ w.heap.size + 1; omega), Below.heap_setCell _ _ _ _ (by show k ≠ w.heap.size + 1; omega), Below.heap_setCell _ _ _ _ (by show k ≠ w.heap.size + 1 + 1; omega)]
      exact HT6.out k h1 h2
    refine bodyPost_ret (v := .agg #[(.slice (some ⟨g5, 0, none⟩) (n + 1) c5), (.slice p6 m q6)]) (by simp [results, Tryz.results45, go_sem, q0, q1]) rfl ?_
    have hl5 : (vs ++ [(⟨x, t⟩ : Pm)]).length = n + 1 := by rw [List.length_append, HN.out]; rfl
    have hr5 : Own1 kP (w5.setCell ⟨w.heap.size + 1 + 1, 0, none⟩ (.slice (some ⟨g5, 0, none⟩) (n + 1) c5)) (w.heap.size + 3) (fun j => j < w.heap.size + 3) (.slice (some ⟨g5, 0, none⟩) (vs ++ [(⟨x, t⟩ : Pm)]).length c5) (vs ++ [⟨x, t⟩]) := by rw [hl5]; exact HO5'.out
    have hlx : (ls).length = m := by rw [HM.out]
    show GivesW w (vs ++ [⟨x, t⟩]) (ls) _ _
    refine ⟨some ⟨g5, 0, none⟩, c5, p6, q6, by rw [hl5, hlx], own_pms (hr5.next (Z' := (fun j => j < w.heap.size + 3)) ⟨fun k hk hz => HT8.out k (Nat.le_of_not_lt hz) hk, fun _ h => Or.inl h⟩), ?_, (fun g i hg => by have := (HO5'.out.lt g (by injection hg with h; injection h with h; rw [h]; rfl)).1; omega), (fun g i hg => by have := (HR6.out.lt g (by rw [hg]; rfl)).1; have h2 := HW5'.out.sz; omega), ?_⟩
    · refine A.Own1.strs (HR6.out.next (Z' := (fun j => j < w.heap.size + 3)) ⟨fun k _ hz => ?_, fun _ h => Or.inl h⟩)
      have hne : k ≠ w.heap.size + 1 := fun e => hz (by show k < w.heap.size + 3; omega)
      rw [Below.heap_setCell _ _ _ _ hne, Below.heap_setCell _ _ _ _ hne]
    · exact (HW6'.out.bel.setCell (p := ⟨w.heap.size + 1, 0, none⟩) (Nat.le_succ _) _).setCell (p := ⟨w.heap.size + 1, 1, none⟩) (Nat.le_succ _) _
  | true =>
    go_wp2_with (at_builtin; first
    | (refine wpList_append_pms rfl (.tmp 11) (.tmp 13) rfl (w.heap.size + 3) (fun j => j < w.heap.size + 3) none 0 0 [] vs rfl rfl Own1.nil va n vc HN.out.symm rfl (HP.out _ HW.out.bel) LV.out (by rw [HZ.out]; exact Nat.le_refl _) (fun _ h => h) ?_; intro p4 q4 w4 hown4 hgrow4; have HO4 : Hid (Own1 kP w4 (w.heap.size + 3) (fun j => j < w.heap.size + 3) (.slice p4 vs.length q4) vs) := hown4; have HW4 := Lib.hid (HW.out.kept hgrow4 (fun g hg => by cases hg)); have a0 := HW4.out.b3.cell 0; have a1 := HW4.out.b3.cell 1; have a2 := HW4.out.b3.free 0; have a3 := HW4.out.b1.cell 1; simp only [List.getElem?_toArray, List.getElem?_cons_zero, List.getElem?_cons_succ] at a0 a1 a3; have HW4' := Lib.hid (HW4.out.put0 (.slice p4 vs.length q4)); have HO4' := Lib.hid (own_put (i := 0) (u := .slice p4 vs.length q4) HO4.out); rw [HN.out] at HW4' HO4' HO4; rw [Nat.zero_add]; clear hown4 hgrow4)
    | (refine kP.wpList rfl (.tmp 17) (.tmp 21) rfl (w.heap.size + 3) (.slice p4 n q4) vs rfl HO4'.out.row ⟨x, t⟩ _ rfl w4.heap.size rfl (by simp) (by have := HV.out; omega) HW4'.out.sz ?_; intro g5 c5 w5 hown5 hgrow5 hlie5; have HO5 := Lib.hid (HO4'.out.push (y := ⟨x, t⟩) trivial (fun k hk => Nat.lt_of_lt_of_le hk HW4'.out.sz) hown5 hgrow5 hlie5); have HW5 := Lib.hid ((HW4'.out.alloc _).kept hgrow5 (fun g hg => (HO4'.out.lt g hg).1)); have b0 := HW5.out.b3.cell 0; have b1 := HW5.out.b3.cell 1; have b2 := HW5.out.b3.free 0; have b3 := HW5.out.b1.cell 1; simp only [List.getElem?_toArray, List.getElem?_cons_zero, List.getElem?_cons_succ] at b0 b1 b3; clear hown5 hgrow5 hlie5; have HW5' := Lib.hid (HW5.out.put0 (.slice (some ⟨g5, 0, none⟩) (vs.length + 1) c5)); have HO5' := Lib.hid (own_put (i := 0) (u := .slice (some ⟨g5, 0, none⟩) (vs.length + 1) c5) HO5.out); rw [HN.out] at HW5' HO5' HO5 ⊢)
    | (refine wpList_append_strs rfl (.tmp 25) (.tmp 27) rfl (w5.setCell ⟨w.heap.size + 1 + 1, 0, none⟩ (.slice (some ⟨g5, 0, none⟩) (n + 1) c5)).heap.size (fun j => j < w.heap.size + 3) none 0 0 [] ls rfl rfl Own1.nil la m lc HM.out.symm rfl (HS.out _ HW5'.out.bel) LS.out (Nat.le_refl _) (fun k hk => Nat.lt_of_lt_of_le hk HW5'.out.sz) ?_; intro p6 q6 w6 hown6 hgrow6; have HO6 : Hid (Own1 kN w6 (w5.setCell ⟨w.heap.size + 1 + 1, 0, none⟩ (.slice (some ⟨g5, 0, none⟩) (n + 1) c5)).heap.size (fun j => j < w.heap.size + 3) (.slice p6 ls.length q6) ls) := hown6; have HW6 := Lib.hid (HW5'.out.kept hgrow6 (fun g hg => by cases hg)); have HT6 : Hid (∀ k, w.heap.size + 3 ≤ k → k < (w5.setCell ⟨w.heap.size + 1 + 1, 0, none⟩ (.slice (some ⟨g5, 0, none⟩) (n + 1) c5)).heap.size → w6.heap[k]? = (w5.setCell ⟨w.heap.size + 1 + 1, 0, none⟩ (.slice (some ⟨g5, 0, none⟩) (n + 1) c5)).heap[k]?) := (fun k _ hk => hgrow6.block k hk (fun e => by cases e)); have HG6 : Hid ((w5.setCell ⟨w.heap.size + 1 + 1, 0, none⟩ (.slice (some ⟨g5, 0, none⟩) (n + 1) c5)).heap.size ≤ w6.heap.size) := hgrow6.size; have k0 := HW6.out.b3.cell 0; have k1 := HW6.out.b3.cell 1; have k2 := HW6.out.b3.free 1; have e0 := HW6.out.b2.cell 0; have e1 := HW6.out.b2.cell 1; have e2 := HW6.out.b2.free 0; have e3 := HW6.out.b2.free 1; simp only [List.getElem?_toArray, List.getElem?_cons_zero, List.getElem?_cons_succ] at k0 k1 e0 e1; have HW6' := Lib.hid (HW6.out.put1 (.slice p6 ls.length q6)); have HO6' := Lib.hid (own_put (i := 1) (u := .slice p6 ls.length q6) HO6.out); rw [HM.out] at HW6' HO6' HO6; rw [Nat.zero_add]; clear hown6 hgrow6)
    | (refine kN.wpList rfl (.tmp 32) (.tmp 34) rfl (w5.setCell ⟨w.heap.size + 1 + 1, 0, none⟩ (.slice (some ⟨g5, 0, none⟩) (n + 1) c5)).heap.size (.slice p6 m q6) ls rfl HO6'.out.row x _ rfl w6.heap.size rfl (by simp) (by have := HLs.out; omega) (by have := HG6.out; simp only [World.size_setCell] at this ⊢; exact this) ?_; intro g7 c7 w7 hown7 hgrow7 hlie7; have HO7 := Lib.hid (HO6'.out.push (y := x) trivial (fun k hk => Nat.lt_of_lt_of_le hk HW6'.out.sz) hown7 hgrow7 hlie7); have HW7 := Lib.hid ((HW6'.out.alloc _).kept hgrow7 (fun g hg => Nat.le_trans HW5'.out.sz (HO6'.out.lt g hg).1)); have HT7 : Hid (∀ k, w.heap.size + 3 ≤ k → k < (w5.setCell ⟨w.heap.size + 1 + 1, 0, none⟩ (.slice (some ⟨g5, 0, none⟩) (n + 1) c5)).heap.size → w7.heap[k]? = (w5.setCell ⟨w.heap.size + 1 + 1, 0, none⟩ (.slice (some ⟨g5, 0, none⟩) (n + 1) c5)).heap[k]?) := (fun k h1 h2 => by have hg := HG6.out; have hs : (w6.setCell ⟨w.heap.size + 1 + 1, 1, none⟩ (.slice p6 m q6)).heap.size = w6.heap.size := (by simp); refine ((hgrow7.block k (by simp only [World.size_alloc]; omega) (fun e => by have := (HO6'.out.lt k e.symm).1; omega)).trans (Below.heap_alloc _ _ k (by omega))).trans ?_; rw [Below.heap_setCell _ _ _ _ (by show k ≠ w.heap.size + 1 + 1; omega)]; exact HT6.out k h1 h2); have k3 := HW7.out.b3.cell 0; have k4 := HW7.out.b3.cell 1; have k5 := HW7.out.b3.free 1; have e4 := HW7.out.b2.cell 0; have e5 := HW7.out.b2.cell 1; have e6 := HW7.out.b2.free 0; have e7 := HW7.out.b2.free 1; simp only [List.getElem?_toArray, List.getElem?_cons_zero, List.getElem?_cons_succ] at k3 k4 e4 e5; clear hown7 hgrow7 hlie7; rw [HM.out] at HO7 ⊢))
    have hl7 : (ls ++ [x]).length = m + 1 := by rw [List.length_append, HM.out]; rfl
    have HR6 : Hid (Own1 kN (w7.setCell ⟨w.heap.size + 1 + 1, 1, none⟩ (.slice (some ⟨g7, 0, none⟩) (m + 1) c7)) (w5.setCell ⟨w.heap.size + 1 + 1, 0, none⟩ (.slice (some ⟨g5, 0, none⟩) (n + 1) c5)).heap.size (fun j => j < w.heap.size + 3) (.slice (some ⟨g7, 0, none⟩) (ls ++ [x]).length c7) (ls ++ [x])) := by show Own1 _ _ _ _ _ _; rw [hl7]; exact own_put (i := 1) (u := .slice (some ⟨g7, 0, none⟩) (m + 1) c7) HO7.out
    have HW7' := Lib.hid (HW7.out.put1 (.slice (some ⟨g7, 0, none⟩) (m + 1) c7))
    have hq := HW7'.out.b2.set 0 (u := (.slice (some ⟨g5, 0, none⟩) (n + 1) c5))
    have q0 := hq.cell 0
    have q1 := (hq.set 1 (u := (.slice (some ⟨g7, 0, none⟩) (m + 1) c7))).cell 1
    simp at q0 q1
    have HT8 : Hid (∀ k, w.heap.size + 3 ≤ k → k < (w5.setCell ⟨w.heap.size + 1 + 1, 0, none⟩ (.slice (some ⟨g5, 0, none⟩) (n + 1) c5)).heap.size → (((w7.setCell ⟨w.heap.size + 1 + 1, 1, none⟩ (.slice (some ⟨g7, 0, none⟩) (m + 1) c7)).setCell ⟨w.heap.size + 1, 0, none⟩ (.slice (some ⟨g5, 0, none⟩) (n + 1) c5)).setCell ⟨w.heap.size + 1, 1, none⟩ (.slice (some ⟨g7, 0, none⟩) (m + 1) c7)).heap[k]? = (w5.setCell ⟨w.heap.size + 1 + 1, 0, none⟩ (.slice (some ⟨g5, 0, none⟩) (n + 1) c5)).heap[k]?) := fun k h1 h2 => by
      rw [Below.heap_setCell _ _ _ _ (by show k ≠ w.heap.size + 1; omega), Below.heap_setCell _ _ _ _ (by show k ≠ w.heap.size + 1; omega), Below.heap_setCell _ _ _ _ (by show k ≠ w.heap.size + 1 + 1; omega)]
      exact HT7.out k h1 h2
    refine bodyPost_ret (v := .agg #[(.slice (some ⟨g5, 0, none⟩) (n + 1) c5), (.slice (some ⟨g7, 0, none⟩) (m + 1) c7)]) (by simp [results, Tryz.results45, go_sem, q0, q1]) rfl ?_
    have hl5 : (vs ++ [(⟨x, t⟩ : Pm)]).length = n + 1 := by rw [List.length_append, HN.out]; rfl
    have hr5 : Own1 kP (w5.setCell ⟨w.heap.size + 1 + 1, 0, none⟩ (.slice (some ⟨g5, 0, none⟩) (n + 1) c5)) (w.heap.size + 3) (fun j => j < w.heap.size + 3) (.slice (some ⟨g5, 0, none⟩) (vs ++ [(⟨x, t⟩ : Pm)]).length c5) (vs ++ [⟨x, t⟩]) := by rw [hl5]; exact HO5'.out
    have hlx : (ls ++ [x]).length = (m + 1) := by rw [List.length_append, HM.out]; rfl
    show GivesW w (vs ++ [⟨x, t⟩]) (ls ++ [x]) _ _
    refine ⟨some ⟨g5, 0, none⟩, c5, (some ⟨g7, 0, none⟩), c7, by rw [hl5, hlx], own_pms (hr5.next (Z' := (fun j => j < w.heap.size + 3)) ⟨fun k hk hz => HT8.out k (Nat.le_of_not_lt hz) hk, fun _ h => Or.inl h⟩), ?_, (fun g i hg => by have := (HO5'.out.lt g (by injection hg with h; injection h with h; rw [h]; rfl)).1; omega), (fun g i hg => by have := (HR6.out.lt g (by rw [hg]; rfl)).1; have h2 := HW5'.out.sz; omega), ?_⟩
    · refine A.Own1.strs (HR6.out.next (Z' := (fun j => j < w.heap.size + 3)) ⟨fun k _ hz => ?_, fun _ h => Or.inl h⟩)
      have hne : k ≠ w.heap.size + 1 := fun e => hz (by show k < w.heap.size + 3; omega)
      rw [Below.heap_setCell _ _ _ _ hne, Below.heap_setCell _ _ _ _ hne]
    · exact (HW7'.out.bel.setCell (p := ⟨w.heap.size + 1, 0, none⟩) (Nat.le_succ _) _).setCell (p := ⟨w.heap.size + 1, 1, none⟩) (Nat.le_succ _) _
end Go.Proofs.YtnelpgeiioflmaaGreatDoor.Y
namespace Go.Proofs.YtnelpgeiioflmaaGreatDoor.Y
open Go.RowKit
open L (Str isName prt size_len below_2 below_box ret_bool ret_int eql_eq bytes_eq)
open A (Ex St Pm Pr V arity vE vEs absent exV exO exV_mk Bx okE okEs cE cEs PmsAt StrsAt PrIn OkP prV prO names valE ExsAt ExAt StsAt StAt Bodies RowK Own1 Stays kN okB okS cB cS)
open P (On off_of wp_region_inv IS)

theorem cB_drop {l : List St} {k : Nat} (hk : k < l.length) : cB (l.drop k) = cS l[k] + cB (l.drop (k + 1)) := by
  rw [List.drop_eq_getElem_cons hk, cB]
theorem cB_drop_le {l : List St} : ∀ k, cB (l.drop k) ≤ cB l := by
  intro k
  induction k generalizing l with
  | zero => exact Nat.le_refl _
  | succ k ih =>
    cases l with
    | nil => exact Nat.le_refl _
    | cons s r => rw [List.drop_succ_cons, cB]; have := @ih r; omega
theorem cS_open (s : St) : cS s = 1 + s.name.size / 64 + cE s.a + cE s.b + cB s.body + cB s.els := by
  obtain ⟨o, nm, mx, a, b, bd, el⟩ := s
  rw [cS]; rfl
end Go.Proofs.YtnelpgeiioflmaaGreatDoor.Y
namespace Go.Proofs.YtnelpgeiioflmaaGreatDoor.Y
open Go.RowKit
open L (Str isName prt size_len below_2 below_box ret_bool ret_int eql_eq bytes_eq)
open A (Ex St Pm Pr V arity vE vEs absent exV exO exV_mk Bx okE okEs cE cEs PmsAt StrsAt PrIn OkP prV prO names valE ExsAt ExAt StsAt StAt RowK Own1 Stays kN okB okS cB cS)
open P (On off_of wp_region_inv IS)

def rfV (o e0 as1 : Int) (wb : Bool) (rb re rl : Int) : Int :=
  if (if (if e0 = 0 ∧ o = 2 then as1 else e0) = 0 ∧ wb = true then 10 else (if e0 = 0 ∧ o = 2 then as1 else e0)) = 0 ∧ o = 5 then (if rb = 0 then re else rb)
  else if (if (if e0 = 0 ∧ o = 2 then as1 else e0) = 0 ∧ wb = true then 10 else (if e0 = 0 ∧ o = 2 then as1 else e0)) = 0 ∧ o = 6 then rl
  else (if (if e0 = 0 ∧ o = 2 then as1 else e0) = 0 ∧ wb = true then 10 else (if e0 = 0 ∧ o = 2 then as1 else e0))
theorem rfS_open (vs : List Pm) (ls : List ByteArray) (s : St) : rfS vs ls s = rfV s.op (opsR vs s.op s.a s.b).2.2 (asgR vs ls s.name (opsR vs s.op s.a s.b).1) (wrong s.op (opsR vs s.op s.a s.b).1 (opsR vs s.op s.a s.b).2.1) (rfB vs ls s.body) (rfB vs ls s.els) (rfB (vs ++ [⟨s.name, 1⟩]) (ls ++ [s.name]) s.body) := by
  obtain ⟨o, nm, mx, a, b, bd, el⟩ := s
  rw [rfS]; rfl
theorem rfB_drop {vs : List Pm} {ls : List ByteArray} {l : List St} {k : Nat} (hk : k < l.length) : rfB vs ls (l.drop k) = if rfS vs ls l[k] ≠ 0 then rfS vs ls l[k] else rfB (if l[k].op = 1 then vs ++ [⟨l[k].name, (opsR vs l[k].op l[k].a l[k].b).1⟩] else vs) ls (l.drop (k + 1)) := by
  rw [List.drop_eq_getElem_cons hk, rfB]
theorem pms_put {w : World} {p : Option Addr} {l : List Pm} {b i : Nat} {v : Value} (h : PmsAt w p l) (hp : ∀ g i, p = some ⟨g, i, none⟩ → g ≠ b) : PmsAt (w.setCell ⟨b, i, none⟩ v) p l := by
  rcases h with h | ⟨g, j, ha, h⟩
  · exact Or.inl h
  · have hk := Below.heap_setCell w ⟨b, i, none⟩ v g (hp g j ha)
    exact Or.inr ⟨g, j, ha, fun q hq => ⟨(World.cell?_of_block (w := w) hk).trans (h q hq).1, (World.cell?_of_block (w := w) hk).trans (h q hq).2⟩⟩
theorem strs_put {w : World} {p : Option Addr} {l : List ByteArray} {b i : Nat} {v : Value} (h : StrsAt w p l) (hp : ∀ g i, p = some ⟨g, i, none⟩ → g ≠ b) : StrsAt (w.setCell ⟨b, i, none⟩ v) p l := by
  rcases h with h | ⟨g, j, ha, h⟩
  · exact Or.inl h
  · have hk := Below.heap_setCell w ⟨b, i, none⟩ v g (hp g j ha)
    exact Or.inr ⟨g, j, ha, fun q hq => (World.cell?_of_block (w := w) hk).trans (h q hq)⟩
def QB (l : List St) : Prop := ∀ (a : Option Addr) (c : Nat) (vs : List Pm) (va : Option Addr) (vc : Nat) (ls : List ByteArray) (la : Option Addr) (lc : Nat) (w : World), okB l → l.length ≤ 1000000000000000 → PmsAt w va vs → StrsAt w la ls → A.Bodies w a l →
  vs.length + cB l ≤ 90000 → ls.length + cB l ≤ 90000 → Calls Tryz.prog 46 #[.agg #[.slice va vs.length vc, .slice la ls.length lc], .slice a l.length c] w fun e' w' => e' = .returned (.int .i64 (rfB vs ls l)) ∧ Below w.heap.size w w'
def P15 (M : Nat) (s0 : ByteArray) (x y : Value) (l1 : List Pm) (l2 : List ByteArray) (n1 n2 : Nat) (r : Int) : Nat → Value → World → Prop
  | 0, v, _ => v = x
  | 1, v, _ => v = .pointer (some ⟨M, 1, none⟩)
  | 2, v, _ => v = .string s0
  | 3, v, w => ∃ p q p2 q2, v = .agg #[.slice p n1 q, .slice p2 n2 q2] ∧ PmsAt w p l1 ∧ StrsAt w p2 l2
  | 4, v, _ => v = .pointer (some ⟨M, 11, none⟩)
  | 5, v, _ => v = y
  | 6, v, _ => v = .int .i64 r
  | 7, v, _ => v = .int .i64 r
  | _, _, _ => True
theorem P15.mono {M : Nat} {s0 : ByteArray} {x y : Value} {l1 : List Pm} {l2 : List ByteArray} {n1 n2 : Nat} {r : Int} : ∀ j v w w', P15 M s0 x y l1 l2 n1 n2 r j v w → Below w.heap.size w w' → P15 M s0 x y l1 l2 n1 n2 r j v w' := by
  intro j v w w' h hb
  match j, h with
  | 0, h => exact h
  | 1, h => exact h
  | 2, h => exact h
  | 3, ⟨p, q, p2, q2, h1, h2, h3⟩ => exact ⟨p, q, p2, q2, h1, h2.below hb, h3.below hb⟩
  | 4, h => exact h
  | 5, h => exact h
  | 6, h => exact h
  | 7, h => exact h
  | _ + 8, _ => trivial
set_option maxHeartbeats 8000000 in
set_option maxRecDepth 100000 in
theorem body_step {l : List St} (hq : ∀ j (h : j < l.length), QB (l[j]).body ∧ QB (l[j]).els) : QB l := by
  intro a c vs va0 vc0 ls la0 lc0 w hok hl hS hLs hK hn1 hn2
  have HST := Lib.hid hq
  have HOK := Lib.hid hok
  have hb0 := below_box w (.cells #[.slice va0 vs.length vc0, .slice la0 ls.length lc0] 64)
  have HK := Lib.hid (fun w' (h : Below w.heap.size w w') => hK.below h)
  obtain ⟨R, hR⟩ : ∃ R, rfB vs ls l = R := ⟨_, rfl⟩
  rw [hR]
  have HR : Hid (rfB vs ls (l.drop 0) = R) := hR
  have HN1 : Hid (vs.length + cB (l.drop 0) ≤ 90000) := hn1
  have HN2 := Lib.hid hn2
  have hbx := Bx.new w #[.slice va0 vs.length vc0, .slice la0 ls.length lc0] 64
  obtain ⟨m, hm⟩ : ∃ m, l.length = m := ⟨_, rfl⟩
  have HL := Lib.hid hm
  obtain ⟨nl, hnl⟩ : ∃ m, ls.length = m := ⟨_, rfl⟩
  have HNL := Lib.hid hnl
  have HS0 := Lib.hid (hS.below hb0)
  have HL0 := Lib.hid (hLs.below hb0)
  have HB0 := Lib.hid hb0
  have HX0 := Lib.hid hbx
  rw [hm] at hl ⊢
  rw [hnl] at HX0 HS0 HL0 HB0 ⊢
  clear hm hR hS hLs hK hn1 hn2 hq hok hnl hb0 hbx
  go_enter Tryz.func46, Tryz.ntmps46
  go_wp2_with fail
  go_loopw [5] (fun s5 wr => ∃ (k : Nat) (sn : List Pm) (va : Option Addr) (vc : Nat) (la : Option Addr) (lc : Nat), k ≤ m ∧ s5 = .int .i64 k ∧ Hid (rfB sn ls (l.drop k) = R) ∧ Hid (sn.length + cB (l.drop k) ≤ 90000) ∧ Hid (Bx wr w.heap.size #[.slice va sn.length vc, .slice la nl lc] 64) ∧ Hid (PmsAt wr va sn) ∧ Hid (StrsAt wr la ls) ∧ Hid (Below w.heap.size w wr)) (fun s5 _ => m - (intOf s5).toNat)
  case atStart => exact ⟨0, vs, va0, vc0, la0, lc0, Nat.zero_le _, rfl, HR, HN1, HX0.out, HS0.out, HL0.out, HB0.out⟩
  case round =>
    obtain ⟨k, sn, va, vc, la, lc, hk, rfl, HX, HN, HBx, HSk, HLk, HBr⟩ := hrel
    by_cases hlt : k < m
    · have hlx : k < l.length := by rw [HL.out]; exact hlt
      obtain ⟨b3, i3, rfl, hat⟩ := (HK.out w (Below.refl _ _)).open hlx
      obtain ⟨a1, c1, a2, c2, a3, c3, a4, c4, hcc0, hkk⟩ := hat.open
      have hcc := hcc0.below HBr.out
      have hoks := A.okS_open (HOK.out.get k hlx)
      have hcd := cB_drop hlx
      have hcs := cS_open l[k]
      have hcl := cB_drop_le (l := l) k
      have hnn := HN.out
      have hnn2 := HN2.out
      have hsn : sn.length ≤ 90000 := by omega
      have hx := HX.out
      rw [rfB_drop hlx, rfS_open] at hx
      obtain ⟨hqb, hqe⟩ := HST.out k hlx
      have hlsl : ls.length ≤ 90000 := by omega
      have OP : Hid (∀ wk, Below wr.heap.size wr wk → Calls Tryz.prog 67 #[.agg #[.slice va sn.length vc, .slice la nl lc], .agg (stF l[k] a1 c1 a2 c2 a3 c3 a4 c4)] wk fun e' w' => e' = .returned (.tuple #[.int .i64 (opsR sn (l[k]).op (l[k]).a (l[k]).b).1, .int .i64 (opsR sn (l[k]).op (l[k]).a (l[k]).b).2.1, .int .i64 (opsR sn (l[k]).op (l[k]).a (l[k]).b).2.2]) ∧ Below wk.heap.size wk w') := fun wk hb =>
        roperands_any sn va vc la nl lc l[k] a1 c1 a2 c2 a3 c3 a4 c4 (by omega) wk hoks.a hoks.b (HSk.out.below hb) ((hkk.a.below HBr.out).below hb) ((hkk.b.below HBr.out).below hb)
      have AS : Hid (∀ wk t, Below wr.heap.size wr wk → Calls Tryz.prog 68 #[.agg #[.slice va sn.length vc, .slice la nl lc], .string (l[k]).name, .int .i64 t] wk fun e' w' => e' = .returned (.int .i64 (asgR sn ls (l[k]).name t)) ∧ Below wk.heap.size wk w') := fun wk t hb => by
        have := rassign_any sn ls va vc la lc (l[k]).name t (by omega) (by omega) wk (HSk.out.below hb) (HLk.out.below hb)
        rw [HNL.out] at this
        exact this
      have WI : Hid (∀ wk t (b : Bool), Below wr.heap.size wr wk → Calls Tryz.prog 45 #[.agg #[.slice va sn.length vc, .slice la nl lc], .string (l[k]).name, .int .i64 t, .bool b] wk (GivesW wk (sn ++ [⟨(l[k]).name, t⟩]) (if b = true then ls ++ [(l[k]).name] else ls))) := fun wk t b hb => by
        have := rwith_any sn ls va vc la lc (l[k]).name t b (by omega) (by omega) wk (HSk.out.below hb) (HLk.out.below hb)
        rw [HNL.out] at this
        exact this
      have SB : Hid (∀ wk, Below wr.heap.size wr wk → Calls Tryz.prog 46 #[.agg #[.slice va sn.length vc, .slice la nl lc], .slice a3 (l[k]).body.length c3] wk fun e' w' => e' = .returned (.int .i64 (rfB sn ls (l[k]).body)) ∧ Below wk.heap.size wk w') := fun wk hb => by
        have := hqb a3 c3 sn va vc ls la lc wk hoks.body hoks.bodyLen (HSk.out.below hb) (HLk.out.below hb) ((hkk.body.below HBr.out).below hb) (by omega) (by omega)
        rw [HNL.out] at this
        exact this
      have SE : Hid (∀ wk, Below wr.heap.size wr wk → Calls Tryz.prog 46 #[.agg #[.slice va sn.length vc, .slice la nl lc], .slice a4 (l[k]).els.length c4] wk fun e' w' => e' = .returned (.int .i64 (rfB sn ls (l[k]).els)) ∧ Below wk.heap.size wk w') := fun wk hb => by
        have := hqe a4 c4 sn va vc ls la lc wk hoks.els hoks.elsLen (HSk.out.below hb) (HLk.out.below hb) ((hkk.els.below HBr.out).below hb) (by omega) (by omega)
        rw [HNL.out] at this
        exact this
      have SL : Hid (∀ wk p q p2 q2, Below wr.heap.size wr wk → PmsAt wk p (sn ++ [⟨(l[k]).name, 1⟩]) → StrsAt wk p2 (ls ++ [(l[k]).name]) → Calls Tryz.prog 46 #[.agg #[.slice p (sn.length + 1) q, .slice p2 (nl + 1) q2], .slice a3 (l[k]).body.length c3] wk fun e' w' => e' = .returned (.int .i64 (rfB (sn ++ [⟨(l[k]).name, 1⟩]) (ls ++ [(l[k]).name]) (l[k]).body)) ∧ Below wk.heap.size wk w') := fun wk p q p2 q2 hb h1 h2 => by
        have := hqb a3 c3 (sn ++ [⟨(l[k]).name, 1⟩]) p q (ls ++ [(l[k]).name]) p2 q2 wk hoks.body hoks.bodyLen h1 h2 ((hkk.body.below HBr.out).below hb) (by rw [List.length_append]; simp only [List.length_cons, List.length_nil]; omega) (by rw [List.length_append]; simp only [List.length_cons, List.length_nil]; omega)
        rw [List.length_append, List.length_append, HNL.out] at this
        exact this
      have HN3 : Hid (sn.length + cB (l.drop (k + 1)) ≤ 90000) := by show _ ≤ _; omega
      have HN4 : Hid (∀ p : Pm, (sn ++ [p]).length + cB (l.drop (k + 1)) ≤ 90000) := fun p => by rw [List.length_append]; simp only [List.length_cons, List.length_nil]; omega
      have HL4 : Hid (∀ p : Pm, (sn ++ [p]).length = sn.length + 1) := fun p => by simp
      have HL5 : Hid ((ls ++ [(l[k]).name]).length = nl + 1) := by show _ = _; rw [List.length_append, HNL.out]; rfl
      have hbz := below_box wr (A.stO l[k] a1 c1 a2 c2 a3 c3 a4 c4)
      have hxz := Bx.new wr (stF l[k] a1 c1 a2 c2 a3 c3 a4 c4) 44
      have f0 := hcc.k0
      have f1 := hcc.k1
      have f2 := hcc.k2
      have f3 := hcc.k3
      have f4 := hcc.k4
      have f5 := hcc.k5
      have f6 := hcc.k6
      have f7 := hcc.k7
      have f8 := hcc.k8
      have f9 := hcc.k9
      have f10 := hcc.k10
      have f11 := hcc.k11
      have f12 := hcc.k12
      clear hat hcc0 hkk hcc hoks hqb hqe hcd hcs hcl hnn hnn2 HX HN
      unfold A.stO at hbz
      unfold stF at OP hxz
      generalize hop : opsR sn (l[k]).op (l[k]).a (l[k]).b = ty at *
      obtain ⟨t1, t2, e0⟩ := ty
      clear hop
      have hx' : (if rfV (l[k]).op e0 (asgR sn ls (l[k]).name t1) (wrong (l[k]).op t1 t2) (rfB sn ls (l[k]).body) (rfB sn ls (l[k]).els) (rfB (sn ++ [⟨(l[k]).name, 1⟩]) (ls ++ [(l[k]).name]) (l[k]).body) ≠ 0 then _ else rfB (if (l[k]).op = 1 then sn ++ [⟨(l[k]).name, t1⟩] else sn) ls (l.drop (k + 1))) = R := hx
      have AS1 := Lib.hid (fun wk => AS.out wk t1)
      have WR := Lib.hid (fun wk => rwrong_any (l[k]).op t1 t2 wk)
      clear hx AS
      generalize (l[k]).a.args.length = n1 at *
      generalize (l[k]).b.args.length = n2 at *
      generalize (l[k]).a.op = o1 at *
      generalize (l[k]).a.n = m1 at *
      generalize (l[k]).a.s = s1 at *
      generalize (l[k]).b.op = o2 at *
      generalize (l[k]).b.n = m2 at *
      generalize (l[k]).b.s = s2 at *
      have HW2 : Hid ((l[k]).op = 2 → wrong (l[k]).op t1 t2 = false) := fun h => by rw [h]; unfold wrong; rfl
      generalize asgR sn ls (l[k]).name t1 = as1 at *
      generalize wrong (l[k]).op t1 t2 = wb at *
      generalize rfB sn ls (l[k]).body = rb at *
      generalize rfB sn ls (l[k]).els = re at *
      generalize rfB (sn ++ [⟨(l[k]).name, 1⟩]) (ls ++ [(l[k]).name]) (l[k]).body = rl at *
      generalize (l[k]).body.length = n3 at *
      generalize (l[k]).els.length = n4 at *
      generalize (l[k]).op = o0 at *
      generalize (l[k]).name = s0 at *
      generalize (l[k]).mx = m0 at *
      have HR1 : Hid (∀ v, rfV o0 e0 as1 wb rb re rl = v → v ≠ 0 → v = R) := fun v h1 h2 => by rw [h1, if_pos h2] at hx'; exact hx'
      have HR0 : Hid (rfV o0 e0 as1 wb rb re rl = 0 → rfB (if o0 = 1 then sn ++ [⟨s0, t1⟩] else sn) ls (l.drop (k + 1)) = R) := fun h1 => by rw [h1, if_neg (fun z => z rfl)] at hx'; exact hx'
      have HXz := Lib.hid hxz
      have HBz := Lib.hid hbz
      have HSz := Lib.hid (HBx.out.below hbz)
      have g0 := HBx.out.cell 0
      have g1 := HBx.out.cell 1
      have z0 := HSz.out.cell 0
      have z1 := HSz.out.cell 1
      have y0 := hxz.cell 0
      have y1 := hxz.cell 1
      have y2 := hxz.cell 2
      have y3 := hxz.cell 3
      have y4 := hxz.cell 4
      have y5 := hxz.cell 5
      have y6 := hxz.cell 6
      have y7 := hxz.cell 7
      have y8 := hxz.cell 8
      have y9 := hxz.cell 9
      have y10 := hxz.cell 10
      have y11 := hxz.cell 11
      have y12 := hxz.cell 12
      simp only [List.getElem?_toArray, List.getElem?_cons_zero, List.getElem?_cons_succ] at g0 g1 z0 z1 y0 y1 y2 y3 y4 y5 y6 y7 y8 y9 y10 y11 y12
      clear hxz hbz hx'
      go_wp2_with fail
      refine (OP.out _ HBz.out).mono ?_; rintro e' w1 ⟨rfl, hb⟩
      have HBw1 := Lib.hid (below_2 HBz.out hb)
      have HXw1 := Lib.hid (HXz.out.below hb)
      have HSw1 := Lib.hid (HSz.out.below hb)
      clear hb
      have yw10 := HXw1.out.cell 0
      have yw11 := HXw1.out.cell 1
      have yw12 := HXw1.out.cell 2
      have yw13 := HXw1.out.cell 3
      have yw14 := HXw1.out.cell 4
      have yw15 := HXw1.out.cell 5
      have yw16 := HXw1.out.cell 6
      have yw17 := HXw1.out.cell 7
      have yw18 := HXw1.out.cell 8
      have yw19 := HXw1.out.cell 9
      have yw110 := HXw1.out.cell 10
      have yw111 := HXw1.out.cell 11
      have yw112 := HXw1.out.cell 12
      have zw10 := HSw1.out.cell 0
      have zw11 := HSw1.out.cell 1
      simp only [List.getElem?_toArray, List.getElem?_cons_zero, List.getElem?_cons_succ] at yw10 yw11 yw12 yw13 yw14 yw15 yw16 yw17 yw18 yw19 yw110 yw111 yw112 zw10 zw11
      by_cases he : e0 = 0
      case neg =>
        have be : (e0 == 0) = false := beq_eq_false_iff_ne.2 he
        have bn : (e0 != 0) = true := bne_iff_ne.2 he
        have HE := Lib.hid he
        clear he
        have HV : Hid (e0 = R) := HR1.out _ (by simp [rfV, HE.out]) HE.out
        go_wp2_with fail
        go_ret
        exact ⟨ret_int HV.out, below_2 HBr.out HBw1.out⟩
      subst he
      by_cases h2 : o0 = 2
      · subst h2
        obtain rfl : wb = false := HW2.out rfl
        go_wp2_with fail
        refine (AS1.out _ HBw1.out).mono ?_; rintro e' w2 ⟨rfl, hb⟩
        have HBw2 := Lib.hid (below_2 HBw1.out hb)
        have HXw2 := Lib.hid (HXw1.out.below hb)
        have HSw2 := Lib.hid (HSw1.out.below hb)
        clear hb
        have yw20 := HXw2.out.cell 0
        have yw21 := HXw2.out.cell 1
        have yw22 := HXw2.out.cell 2
        have yw23 := HXw2.out.cell 3
        have yw24 := HXw2.out.cell 4
        have yw25 := HXw2.out.cell 5
        have yw26 := HXw2.out.cell 6
        have yw27 := HXw2.out.cell 7
        have yw28 := HXw2.out.cell 8
        have yw29 := HXw2.out.cell 9
        have yw210 := HXw2.out.cell 10
        have yw211 := HXw2.out.cell 11
        have yw212 := HXw2.out.cell 12
        have zw20 := HSw2.out.cell 0
        have zw21 := HSw2.out.cell 1
        simp only [List.getElem?_toArray, List.getElem?_cons_zero, List.getElem?_cons_succ] at yw20 yw21 yw22 yw23 yw24 yw25 yw26 yw27 yw28 yw29 yw210 yw211 yw212 zw20 zw21
        by_cases ha : as1 = 0
        case neg =>
          have be : (as1 == 0) = false := beq_eq_false_iff_ne.2 ha
          have bn : (as1 != 0) = true := bne_iff_ne.2 ha
          have HE := Lib.hid ha
          clear ha
          have HV : Hid (as1 = R) := HR1.out _ (by simp [rfV, HE.out]) HE.out
          go_wp2_with fail
          go_ret
          exact ⟨ret_int HV.out, below_2 HBr.out HBw2.out⟩
        subst ha
        go_wp2_with fail
        refine (WR.out _).mono ?_; rintro e' wx ⟨rfl, rfl⟩
        have HX2 : Hid (rfB sn ls (l.drop (k + 1)) = R) := by show _ = _; have := HR0.out (by simp [rfV]); simpa using this
        go_wp2_with fail
        go_roundw
        case rel => exact ⟨k + 1, sn, va, vc, la, lc, by omega, by go_num, HX2, HN3, HSw2.out, HSk.out.below HBw2.out, HLk.out.below HBw2.out, below_2 HBr.out HBw2.out⟩
        case measure => simp [intOf]; omega
      have e2 : (o0 == 2) = false := beq_eq_false_iff_ne.2 h2
      have H2 := Lib.hid h2
      clear h2
      go_wp2_with fail
      refine (WR.out _).mono ?_; rintro e' wx ⟨rfl, rfl⟩
      cases wb with
      | true =>
        have HV : Hid (10 = R) := HR1.out _ (by simp [rfV, H2.out]) (by decide)
        go_wp2_with fail
        go_ret
        exact ⟨ret_int HV.out, below_2 HBr.out HBw1.out⟩
      | false =>
        by_cases h5 : o0 = 5
        · subst h5
          go_wp2_with fail
          refine (SB.out _ HBw1.out).mono ?_; rintro e' w2 ⟨rfl, hb⟩
          have HBw2 := Lib.hid (below_2 HBw1.out hb)
          have HXw2 := Lib.hid (HXw1.out.below hb)
          have HSw2 := Lib.hid (HSw1.out.below hb)
          clear hb
          have yw20 := HXw2.out.cell 0
          have yw21 := HXw2.out.cell 1
          have yw22 := HXw2.out.cell 2
          have yw23 := HXw2.out.cell 3
          have yw24 := HXw2.out.cell 4
          have yw25 := HXw2.out.cell 5
          have yw26 := HXw2.out.cell 6
          have yw27 := HXw2.out.cell 7
          have yw28 := HXw2.out.cell 8
          have yw29 := HXw2.out.cell 9
          have yw210 := HXw2.out.cell 10
          have yw211 := HXw2.out.cell 11
          have yw212 := HXw2.out.cell 12
          have zw20 := HSw2.out.cell 0
          have zw21 := HSw2.out.cell 1
          simp only [List.getElem?_toArray, List.getElem?_cons_zero, List.getElem?_cons_succ] at yw20 yw21 yw22 yw23 yw24 yw25 yw26 yw27 yw28 yw29 yw210 yw211 yw212 zw20 zw21
          by_cases ha : rb = 0
          case neg =>
            have be : (rb == 0) = false := beq_eq_false_iff_ne.2 ha
            have bn : (rb != 0) = true := bne_iff_ne.2 ha
            have HE := Lib.hid ha
            clear ha
            have HV : Hid (rb = R) := HR1.out _ (by simp [rfV, HE.out]) HE.out
            go_wp2_with fail
            go_ret
            exact ⟨ret_int HV.out, below_2 HBr.out HBw2.out⟩
          subst ha
          go_wp2_with fail
          refine (SE.out _ HBw2.out).mono ?_; rintro e' w4 ⟨rfl, hb⟩
          have HBw4 := Lib.hid (below_2 HBw2.out hb)
          have HXw4 := Lib.hid (HXw2.out.below hb)
          have HSw4 := Lib.hid (HSw2.out.below hb)
          clear hb
          have yw40 := HXw4.out.cell 0
          have yw41 := HXw4.out.cell 1
          have yw42 := HXw4.out.cell 2
          have yw43 := HXw4.out.cell 3
          have yw44 := HXw4.out.cell 4
          have yw45 := HXw4.out.cell 5
          have yw46 := HXw4.out.cell 6
          have yw47 := HXw4.out.cell 7
          have yw48 := HXw4.out.cell 8
          have yw49 := HXw4.out.cell 9
          have yw410 := HXw4.out.cell 10
          have yw411 := HXw4.out.cell 11
          have yw412 := HXw4.out.cell 12
          have zw40 := HSw4.out.cell 0
          have zw41 := HSw4.out.cell 1
          simp only [List.getElem?_toArray, List.getElem?_cons_zero, List.getElem?_cons_succ] at yw40 yw41 yw42 yw43 yw44 yw45 yw46 yw47 yw48 yw49 yw410 yw411 yw412 zw40 zw41
          by_cases ha : re = 0
          case neg =>
            have be : (re == 0) = false := beq_eq_false_iff_ne.2 ha
            have bn : (re != 0) = true := bne_iff_ne.2 ha
            have HE := Lib.hid ha
            clear ha
            have HV : Hid (re = R) := HR1.out _ (by simp [rfV]) HE.out
            go_wp2_with fail
            go_ret
            exact ⟨ret_int HV.out, below_2 HBr.out HBw4.out⟩
          subst ha
          have HX2 : Hid (rfB sn ls (l.drop (k + 1)) = R) := by show _ = _; have := HR0.out (by simp [rfV]); simpa using this
          go_wp2_with fail
          go_roundw
          case rel => exact ⟨k + 1, sn, va, vc, la, lc, by omega, by go_num, HX2, HN3, HSw4.out, HSk.out.below HBw4.out, HLk.out.below HBw4.out, below_2 HBr.out HBw4.out⟩
          case measure => simp [intOf]; omega
        have e5 : (o0 == 5) = false := beq_eq_false_iff_ne.2 h5
        have H5 := Lib.hid h5
        clear h5
        by_cases h6 : o0 = 6
        · subst h6
          clear e2 e5
          go_wp2_with fail
          refine wp_region_inv rfl (fun l a w' => ∃ v0 v1 v2 v3 v4 v5 v6 v7 : Value, a = { tmps := #[Value.agg #[Value.slice va0 vs.length vc0, Value.slice la0 nl lc0], Value.slice (some { block := b3, off := i3 }) m c, Value.pointer (some { block := w.heap.size, off := 0 }), undef, u4, Value.int IntKind.i64 ↑k, Value.pointer (some { block := wr.heap.size, off := 0 }), Value.int IntKind.i64 t1, Value.int IntKind.i64 t2, v7, Value.int IntKind.i64 ↑k, Value.slice (some { block := b3, off := i3 }) m c, Value.int IntKind.i64 ↑m, Value.bool true, u14, u15, Value.slice (some { block := b3, off := i3 }) m c, Value.int IntKind.i64 ↑k, Value.pointer (some { block := b3, off := i3 + k * 13 }), Value.agg #[Value.int IntKind.i64 6, Value.string s0, Value.int IntKind.i64 m0, Value.int IntKind.i64 o1, Value.int IntKind.i64 m1, Value.string s1, Value.slice a1 n1 c1, Value.int IntKind.i64 o2, Value.int IntKind.i64 m2, Value.string s2, Value.slice a2 n2 c2, Value.slice a3 n3 c3, Value.slice a4 n4 c4], Value.tuple #[Value.int IntKind.i64 t1, Value.int IntKind.i64 t2, Value.int IntKind.i64 0], Value.agg #[Value.slice va sn.length vc, Value.slice la nl lc], Value.agg #[Value.int IntKind.i64 6, Value.string s0, Value.int IntKind.i64 m0, Value.int IntKind.i64 o1, Value.int IntKind.i64 m1, Value.string s1, Value.slice a1 n1 c1, Value.int IntKind.i64 o2, Value.int IntKind.i64 m2, Value.string s2, Value.slice a2 n2 c2, Value.slice a3 n3 c3, Value.slice a4 n4 c4], Value.tuple #[Value.int IntKind.i64 t1, Value.int IntKind.i64 t2, Value.int IntKind.i64 0], Value.int IntKind.i64 t1, Value.int IntKind.i64 t2, Value.int IntKind.i64 0, Value.int IntKind.i64 0, Value.bool true, Value.bool true, Value.pointer (some { block := wr.heap.size, off := 0 }), Value.int IntKind.i64 6, Value.bool false, Value.bool false, u34, u35, u36, u37, u38, Value.int IntKind.i64 0, Value.bool true, Value.bool true, Value.pointer (some { block := wr.heap.size, off := 0 }), Value.int IntKind.i64 6, Value.int IntKind.i64 t1, Value.int IntKind.i64 t2, Value.bool false, Value.bool false, Value.int IntKind.i64 0, Value.bool true, Value.bool true, Value.pointer (some { block := wr.heap.size, off := 0 }), Value.int IntKind.i64 6, Value.bool false, Value.bool false, u55, u56, u57, u58, u59, u60, u61, u62, u63, u64, Value.int IntKind.i64 0, Value.bool true, Value.bool true, Value.pointer (some { block := wr.heap.size, off := 0 }), Value.int IntKind.i64 6, Value.bool true, Value.bool true, v0, v1, v2, v3, v4, v5, v6, u79, u80, u81, u82, u83, u84, u85, u86, u87, u88, u89], defers := [] } ∧ IS (P15 wr.heap.size s0 (.agg #[.slice va sn.length vc, .slice la nl lc]) (.slice a3 n3 c3) (sn ++ [⟨s0, 1⟩]) (ls ++ [s0]) (sn.length + 1) (nl + 1) rl) wx l w' [v0, v1, v2, v3, v4, v5, v6, v7]) (by kernel_rfl) ?_ ?_ ?_
          · intro l hl
            exact ⟨_, _, _, _, _, _, _, _, rfl, IS.start _ _ hl _⟩
          · rintro l a w' ⟨v0, v1, v2, v3, v4, v5, v6, v7, rfl, F⟩ i hi h0 hall
            match i, hi, h0, hall with
            | 0, _, h0, hall =>
              have hxx := HSw1.out.below F.bel
              have q0 := hxx.cell 0
              have q1 := hxx.cell 1
              simp only [List.getElem?_toArray, List.getElem?_cons_zero, List.getElem?_cons_succ] at q0 q1
              clear hxx
              have HF := Lib.hid (F.step P15.mono h0 (show 0 < 8 by decide) (Below.refl _ _) (x := .agg #[.slice va sn.length vc, .slice la nl lc]) rfl)
              clear F hall h0
              refine wpOp_step (by rfl) (fun K' hK => ?_)
              have HKk := Lib.hid hK
              clear hK
              go_simp
              exact HKk.out _ _ ⟨_, _, _, _, _, _, _, _, rfl, HF.out⟩
            | 1, _, h0, hall =>
              have HF := Lib.hid (F.step P15.mono h0 (show 1 < 8 by decide) (Below.refl _ _) (x := .pointer (some ⟨wr.heap.size, 1, none⟩)) rfl)
              clear F hall h0
              refine wpOp_step (by rfl) (fun K' hK => ?_)
              have HKk := Lib.hid hK
              clear hK
              go_simp
              exact HKk.out _ _ ⟨_, _, _, _, _, _, _, _, rfl, HF.out⟩
            | 2, _, h0, hall =>
              obtain rfl : v1 = .pointer (some ⟨wr.heap.size, 1, none⟩) := F.f 1 (hall 1 (by decide +kernel))
              have hxx := HXw1.out.below F.bel
              have q1 := hxx.cell 1
              have q11 := hxx.cell 11
              simp only [List.getElem?_toArray, List.getElem?_cons_zero, List.getElem?_cons_succ] at q1 q11
              clear hxx
              have HF := Lib.hid (F.step P15.mono h0 (show 2 < 8 by decide) (Below.refl _ _) (x := .string s0) rfl)
              clear F hall h0
              refine wpOp_step (by rfl) (fun K' hK => ?_)
              have HKk := Lib.hid hK
              clear hK
              go_simp
              exact HKk.out _ _ ⟨_, _, _, _, _, _, _, _, rfl, HF.out⟩
            | 3, _, h0, hall =>
              obtain rfl : v0 = .agg #[.slice va sn.length vc, .slice la nl lc] := F.f 0 (hall 0 (by decide +kernel))
              obtain rfl : v2 = .string s0 := F.f 2 (hall 2 (by decide +kernel))
              have HC := Lib.hid (WI.out w' 1 true (below_2 HBw1.out F.bel))
              have HF := Lib.hid (fun w'' hb x hx => F.step P15.mono h0 (show 3 < 8 by decide) (w' := w'') hb (x := x) hx)
              clear F hall h0
              refine wpOp_step (by rfl) (fun K' hK => ?_)
              have HKk := Lib.hid hK
              clear hK
              go_simp
              go_at_call 45
              refine HC.out.mono ?_; rintro e' w5 ⟨p', q', p2', q2', rfl, hp', hs', _, _, hb5⟩
              have HF5 := Lib.hid (HF.out w5 hb5 _ (show P15 _ _ _ _ _ _ _ _ _ 3 (.agg #[.slice p' (sn ++ [(⟨s0, 1⟩ : Pm)]).length q', .slice p2' (ls ++ [s0]).length q2']) w5 from ⟨p', q', p2', q2', by rw [HL4.out, HL5.out], hp', hs'⟩))
              exact HKk.out _ _ ⟨_, _, _, _, _, _, _, _, rfl, HF5.out⟩
            | 4, _, h0, hall =>
              have HF := Lib.hid (F.step P15.mono h0 (show 4 < 8 by decide) (Below.refl _ _) (x := .pointer (some ⟨wr.heap.size, 11, none⟩)) rfl)
              clear F hall h0
              refine wpOp_step (by rfl) (fun K' hK => ?_)
              have HKk := Lib.hid hK
              clear hK
              go_simp
              exact HKk.out _ _ ⟨_, _, _, _, _, _, _, _, rfl, HF.out⟩
            | 5, _, h0, hall =>
              obtain rfl : v4 = .pointer (some ⟨wr.heap.size, 11, none⟩) := F.f 4 (hall 4 (by decide +kernel))
              have hxx := HXw1.out.below F.bel
              have q1 := hxx.cell 1
              have q11 := hxx.cell 11
              simp only [List.getElem?_toArray, List.getElem?_cons_zero, List.getElem?_cons_succ] at q1 q11
              clear hxx
              have HF := Lib.hid (F.step P15.mono h0 (show 5 < 8 by decide) (Below.refl _ _) (x := .slice a3 n3 c3) rfl)
              clear F hall h0
              refine wpOp_step (by rfl) (fun K' hK => ?_)
              have HKk := Lib.hid hK
              clear hK
              go_simp
              exact HKk.out _ _ ⟨_, _, _, _, _, _, _, _, rfl, HF.out⟩
            | 6, _, h0, hall =>
              obtain ⟨p9, q9, p8, q8, rfl, hp9, hs8⟩ : ∃ p q p2 q2, v3 = .agg #[.slice p (sn.length + 1) q, .slice p2 (nl + 1) q2] ∧ PmsAt w' p (sn ++ [(⟨s0, 1⟩ : Pm)]) ∧ StrsAt w' p2 (ls ++ [s0]) := F.f 3 (hall 3 (by decide +kernel))
              obtain rfl : v5 = .slice a3 n3 c3 := F.f 5 (hall 5 (by decide +kernel))
              have HC := Lib.hid (SL.out w' p9 q9 p8 q8 (below_2 HBw1.out F.bel) hp9 hs8)
              have HF := Lib.hid (fun w'' hb x hx => F.step P15.mono h0 (show 6 < 8 by decide) (w' := w'') hb (x := x) hx)
              clear F hall h0
              refine wpOp_step (by rfl) (fun K' hK => ?_)
              have HKk := Lib.hid hK
              clear hK
              go_simp
              go_at_call 46
              refine HC.out.mono ?_; rintro e' w5 ⟨rfl, hb5⟩
              have HF5 := Lib.hid (HF.out w5 hb5 _ (show P15 _ _ _ _ _ _ _ _ _ 6 (.int .i64 rl) w5 from rfl))
              exact HKk.out _ _ ⟨_, _, _, _, _, _, _, _, rfl, HF5.out⟩
            | 7, _, h0, hall =>
              obtain rfl : v6 = .int .i64 rl := F.f 6 (hall 6 (by decide +kernel))
              have HF := Lib.hid (F.step P15.mono h0 (show 7 < 8 by decide) (Below.refl _ _) (x := .int .i64 rl) rfl)
              clear F hall h0
              refine wpOp_step (by rfl) (fun K' hK => ?_)
              have HKk := Lib.hid hK
              clear hK
              go_simp
              exact HKk.out _ _ ⟨_, _, _, _, _, _, _, _, rfl, HF.out⟩
            | i + 8, hi, _, _ => exact absurd hi (by show ¬ (i + 8 < 8); omega)
          rintro l9 a wf ⟨r0, r1, r2, r3, r4, r5, r6, r7, rfl, F⟩ hall
          obtain rfl : r7 = .int .i64 rl := F.f 7 (hall 7 (by decide))
          have hb := F.bel
          have HBwf := Lib.hid (below_2 HBw1.out hb)
          have HXwf := Lib.hid (HXw1.out.below hb)
          have HSwf := Lib.hid (HSw1.out.below hb)
          clear hb F hall
          have ywf0 := HXwf.out.cell 0
          have ywf1 := HXwf.out.cell 1
          have ywf2 := HXwf.out.cell 2
          have ywf3 := HXwf.out.cell 3
          have ywf4 := HXwf.out.cell 4
          have ywf5 := HXwf.out.cell 5
          have ywf6 := HXwf.out.cell 6
          have ywf7 := HXwf.out.cell 7
          have ywf8 := HXwf.out.cell 8
          have ywf9 := HXwf.out.cell 9
          have ywf10 := HXwf.out.cell 10
          have ywf11 := HXwf.out.cell 11
          have ywf12 := HXwf.out.cell 12
          have zwf0 := HSwf.out.cell 0
          have zwf1 := HSwf.out.cell 1
          simp only [List.getElem?_toArray, List.getElem?_cons_zero, List.getElem?_cons_succ] at ywf0 ywf1 ywf2 ywf3 ywf4 ywf5 ywf6 ywf7 ywf8 ywf9 ywf10 ywf11 ywf12 zwf0 zwf1
          by_cases ha : rl = 0
          case neg =>
            have be : (rl == 0) = false := beq_eq_false_iff_ne.2 ha
            have bn : (rl != 0) = true := bne_iff_ne.2 ha
            have HE := Lib.hid ha
            clear ha
            have HV : Hid (rl = R) := HR1.out _ (by simp [rfV]) HE.out
            go_wp2_with fail
            go_ret
            exact ⟨ret_int HV.out, below_2 HBr.out HBwf.out⟩
          subst ha
          have HX2 : Hid (rfB sn ls (l.drop (k + 1)) = R) := by show _ = _; have := HR0.out (by simp [rfV]); simpa using this
          go_wp2_with fail
          go_roundw
          case rel => exact ⟨k + 1, sn, va, vc, la, lc, by omega, by go_num, HX2, HN3, HSwf.out, HSk.out.below HBwf.out, HLk.out.below HBwf.out, below_2 HBr.out HBwf.out⟩
          case measure => simp [intOf]; omega
        have e6 : (o0 == 6) = false := beq_eq_false_iff_ne.2 h6
        have H6 := Lib.hid h6
        clear h6
        by_cases h1 : o0 = 1
        · subst h1
          have HX2 : Hid (rfB (sn ++ [⟨s0, t1⟩]) ls (l.drop (k + 1)) = R) := by show _ = _; have := HR0.out (by simp [rfV]); simpa using this
          go_wp2_with fail
          refine (WI.out _ t1 false HBw1.out).mono ?_; rintro e' w5 ⟨p5, q5, p6, q6, rfl, hp5, hs6, hf5, hf6, hb⟩
          have HBw5 := Lib.hid (below_2 HBw1.out hb)
          have HSw5 := Lib.hid (HSw1.out.below hb)
          have HXw5 := Lib.hid (HXw1.out.below hb)
          have yw50 := HXw5.out.cell 0
          have yw51 := HXw5.out.cell 1
          have yw52 := HXw5.out.cell 2
          have yw53 := HXw5.out.cell 3
          have yw54 := HXw5.out.cell 4
          have yw55 := HXw5.out.cell 5
          have yw56 := HXw5.out.cell 6
          have yw57 := HXw5.out.cell 7
          have yw58 := HXw5.out.cell 8
          have yw59 := HXw5.out.cell 9
          have yw510 := HXw5.out.cell 10
          have yw511 := HXw5.out.cell 11
          have yw512 := HXw5.out.cell 12
          have zw50 := HSw5.out.cell 0
          have zw51 := HSw5.out.cell 1
          simp only [List.getElem?_toArray, List.getElem?_cons_zero, List.getElem?_cons_succ] at yw50 yw51 yw52 yw53 yw54 yw55 yw56 yw57 yw58 yw59 yw510 yw511 yw512 zw50 zw51
          have k0 := HSw5.out.free 0
          have k1 := HSw5.out.free 1
          have hnw : w.heap.size < wx.heap.size := Nat.lt_of_lt_of_le HBx.out.lt (HBw1.out.size)
          have HP5 : Hid (PmsAt ((w5.setCell ⟨w.heap.size, 0, none⟩ (.slice p5 (sn.length + 1) q5)).setCell ⟨w.heap.size, 1, none⟩ (.slice p6 nl q6)) p5 (sn ++ [⟨s0, t1⟩])) := pms_put (pms_put hp5 (fun g i hg => by have := hf5 g i hg; omega)) (fun g i hg => by have := hf5 g i hg; omega)
          have HS6 : Hid (StrsAt ((w5.setCell ⟨w.heap.size, 0, none⟩ (.slice p5 (sn.length + 1) q5)).setCell ⟨w.heap.size, 1, none⟩ (.slice p6 nl q6)) p6 ls) := strs_put (strs_put hs6 (fun g i hg => by have := hf6 g i hg; omega)) (fun g i hg => by have := hf6 g i hg; omega)
          have HBX6 := Lib.hid ((HSw5.out.set 0 (u := .slice p5 (sn.length + 1) q5)).set 1 (u := .slice p6 nl q6))
          have HBE : Hid (Below w.heap.size w ((w5.setCell ⟨w.heap.size, 0, none⟩ (.slice p5 (sn.length + 1) q5)).setCell ⟨w.heap.size, 1, none⟩ (.slice p6 nl q6))) := ((below_2 HBr.out HBw5.out).setCell (Nat.le_refl _) _).setCell (Nat.le_refl _) _
          clear hp5 hs6 hf5 hf6 hb hnw
          simp only [HL4.out, HNL.out, Bool.false_eq_true, ↓reduceIte]
          go_wp2_with fail
          go_roundw
          case rel => exact ⟨k + 1, sn ++ [⟨s0, t1⟩], p5, q5, p6, q6, by omega, by go_num, HX2, HN4.out _, by show Bx _ _ _ _; rw [HL4.out]; exact HBX6.out, HP5, HS6, HBE⟩
          case measure => simp [intOf]; omega
        have e1 : (o0 == 1) = false := beq_eq_false_iff_ne.2 h1
        have H1 := Lib.hid h1
        clear h1
        have HX2 : Hid (rfB sn ls (l.drop (k + 1)) = R) := by show _ = _; have := HR0.out (by simp [rfV, H2.out, H5.out, H6.out]); simpa [H1.out] using this
        go_wp2_with fail
        go_roundw
        case rel => exact ⟨k + 1, sn, va, vc, la, lc, by omega, by go_num, HX2, HN3, HSw1.out, HSk.out.below HBw1.out, HLk.out.below HBw1.out, below_2 HBr.out HBw1.out⟩
        case measure => simp [intOf]; omega
    · have hx := HX.out
      rw [List.drop_of_length_le (by have := HL.out; omega), rfB] at hx
      have HV : Hid (0 = R) := hx
      clear hx
      go_wp2_with fail
      go_ret
      exact ⟨ret_int HV.out, HBr.out⟩
end Go.Proofs.YtnelpgeiioflmaaGreatDoor.Y
namespace Go.Proofs.YtnelpgeiioflmaaGreatDoor.Y
open Go.RowKit
open L (Str isName prt size_len below_2 below_box ret_bool ret_int eql_eq bytes_eq)
open A (Ex St Pm Pr Bx PmsAt StrsAt PrIn OkP prV prO names valE cB)
open P (On on_set off_of wp_region_inv IS)

theorem body_any : ∀ l, QB l := A.body_ind fun _ ih => body_step ih
theorem isIn_takeN {l : List ByteArray} {i k : Nat} (hk : k < i) (hi : i < l.length) (h : l[k] = l[i]) : rep [] l = true := by
  cases hr : rep [] l
  · have := (rep_nil.1 hr)
    have h2 := (List.getElem_inj (h₀ := by omega) (h₁ := hi) this).1 h
    omega
  · rfl
theorem rep_no {l : List ByteArray} (h : ∀ i (hi : i < l.length) k (hk : k < i), l[k] ≠ l[i]) : rep [] l = false := by
  rw [rep_nil]
  rw [List.nodup_iff_pairwise_ne, List.pairwise_iff_getElem]
  exact fun i j hi hj hij => h j hj i hij
def P10 (M : Nat) (N : Nat) (x r : Value) (i3 k : Nat) (b3 : Nat) (nm : ByteArray) (ty : Int) (l1 : List Pm) : Nat → Value → World → Prop
  | 0, v, _ => v = x
  | 1, v, _ => v = .pointer (some ⟨M, 1, none⟩)
  | 2, v, _ => v = r
  | 3, v, _ => v = .int .i64 (k : Int)
  | 4, v, _ => v = .pointer (some ⟨b3, i3 + k * 2, none⟩)
  | 5, v, _ => v = .pointer (some ⟨b3, i3 + k * 2, none⟩)
  | 6, v, _ => v = .string nm
  | 7, v, _ => v = .pointer (some ⟨M, 1, none⟩)
  | 8, v, _ => v = r
  | 9, v, _ => v = .int .i64 (k : Int)
  | 10, v, _ => v = .pointer (some ⟨b3, i3 + k * 2, none⟩)
  | 11, v, _ => v = .pointer (some ⟨b3, i3 + k * 2 + 1, none⟩)
  | 12, v, _ => v = .int .i64 ty
  | 13, v, w => ∃ p q p2 q2, v = .agg #[.slice p (k + 1) q, .slice p2 0 q2] ∧ PmsAt w p l1 ∧ (∀ g i, p = some ⟨g, i, none⟩ → N < g) ∧ (∀ g i, p2 = some ⟨g, i, none⟩ → N < g)
  | _, _, _ => True
theorem P10.mono {M N : Nat} {x r : Value} {i3 k b3 : Nat} {nm : ByteArray} {ty : Int} {l1 : List Pm} : ∀ j v w w', P10 M N x r i3 k b3 nm ty l1 j v w → Below w.heap.size w w' → P10 M N x r i3 k b3 nm ty l1 j v w' := by
  intro j v w w' h hb
  match j, h with
  | 0, h => exact h
  | 1, h => exact h
  | 2, h => exact h
  | 3, h => exact h
  | 4, h => exact h
  | 5, h => exact h
  | 6, h => exact h
  | 7, h => exact h
  | 8, h => exact h
  | 9, h => exact h
  | 10, h => exact h
  | 11, h => exact h
  | 12, h => exact h
  | 13, ⟨p, q, p2, q2, h1, h2, h3, h4⟩ => exact ⟨p, q, p2, q2, h1, h2.below hb, h3, h4⟩
  | _ + 14, _ => trivial
set_option maxHeartbeats 8000000 in
set_option maxRecDepth 100000 in
theorem rCheck_any (p : Pr) (a1 a2 : Option Addr) (c1 c2 : Nat) (hok : OkP p) (hsz : cB p.body ≤ 80000) (hpl : p.params.length ≤ 1000) (w : World) (hK : PrIn w p a1 a2) :
    Calls Tryz.prog 20 #[prV p a1 c1 a2 c2] w fun e' w' => e' = .returned (.int .i64 (chkR p)) ∧ Below w.heap.size w w' := by
  have hb := below_box w (prO p a1 c1 a2 c2)
  have hbx := Bx.new w #[.string p.name, .slice a1 p.params.length c1, .slice a2 p.body.length c2] 25
  have HV := Lib.hid (A.rvalidate_any A.rstmt p a1 a2 c1 c2 hok (by omega) _ (hK.below hb))
  have HNm : Hid (∀ w', PrIn w' p a1 a2 → Calls Tryz.prog 23 #[prV p a1 c1 a2 c2] w' (A.GivesN w' (names p))) := fun w' k => A.rnames_any p a1 a2 c1 c2 hok (by omega) w' k
  have HBd : Hid (∀ w' va vc la lc, PrIn w' p a1 a2 → PmsAt w' va p.params → Calls Tryz.prog 46 #[.agg #[.slice va p.params.length vc, .slice la 0 lc], .slice a2 p.body.length c2] w' fun e' w'' => e' = .returned (.int .i64 (rfB p.params [] p.body)) ∧ Below w'.heap.size w' w'') := fun w' va vc la lc k h =>
    body_any p.body a2 c2 p.params va vc [] la lc w' hok.body hok.bodyLen h (Or.inl rfl) k.body (by omega) (by show 0 + _ ≤ _; omega)
  have HNL : Hid ((names p).length ≤ 2000) := A.names_len p hpl
  have HX := Lib.hid hbx
  have HK := Lib.hid (hK.below hb)
  have HB := Lib.hid hb
  obtain ⟨R, hR⟩ : ∃ R, chkR p = R := ⟨_, rfl⟩
  rw [hR]
  unfold chkR at hR
  have HR := Lib.hid hR
  unfold prV at HV HNm ⊢
  unfold prO at *
  obtain ⟨m, hm⟩ : ∃ m, p.params.length = m := ⟨_, rfl⟩
  have HM := Lib.hid hm
  rw [hm] at HV HNm HBd HX HK HB hpl ⊢
  clear hb hbx hok hsz hK hR hm
  generalize valE p = x at *
  by_cases h0 : x = 0
  case neg =>
    have b1 : (x != 0) = true := bne_iff_ne.2 h0
    have HW : Hid (x = R) := by show _ = _; rw [← HR.out, if_pos h0]
    clear h0
    go_enter Tryz.func20, Tryz.ntmps20
    go_wp2_with fail
    refine HV.out.mono ?_; rintro e' w2 ⟨rfl, hb2⟩
    have HB2 := Lib.hid (below_2 HB.out hb2)
    clear hb2
    go_wp2_with fail
    go_ret
    exact ⟨ret_int HW.out, HB2.out⟩
  subst h0
  go_enter Tryz.func20, Tryz.ntmps20
  go_wp2_with fail
  refine HV.out.mono ?_; rintro e' w2 ⟨rfl, hb2⟩
  have hbs := below_box w2 (.cells #[.slice none 0 0, .slice none 0 0] 64)
  have HSc := Lib.hid (Bx.new w2 #[.slice none 0 0, .slice none 0 0] 64)
  have HB2 := Lib.hid hb2
  have HBs := Lib.hid hbs
  have hz1 : (w.alloc (.cells #[.string p.name, .slice a1 m c1, .slice a2 p.body.length c2] 25)).heap.size = w.heap.size + 1 := by simp
  have hz2 := hb2.size
  have HZ2 : Hid (w.heap.size + 1 ≤ w2.heap.size) := by show _ ≤ _; omega
  clear hb2 hbs HV hz1 hz2
  go_wp2_with fail
  go_loopw [5] (fun s5 wr => ∃ (k : Nat) (va : Option Addr) (vc : Nat) (la : Option Addr) (lc : Nat), k ≤ m ∧ s5 = .int .i64 k ∧ Hid (∀ q ∈ p.params.take k, decide (q.ty = 3) = false) ∧ Hid (Bx wr w2.heap.size #[.slice va k vc, .slice la 0 lc] 64) ∧ Hid (PmsAt wr va (p.params.take k)) ∧ Hid (Below w2.heap.size w2 wr)) (fun s5 _ => m - (intOf s5).toNat)
  case atStart => exact ⟨0, none, 0, none, 0, Nat.zero_le _, rfl, (fun q hq => by simp at hq), HSc.out, Or.inl (by simp), HBs.out⟩
  case round =>
    obtain ⟨k, va, vc, la, lc, hk, rfl, HQ, HBx, HP, HBr⟩ := hrel
    have HBw := Lib.hid (HB2.out.trans (HBr.out.mono HB2.out.size))
    have hbx := HX.out.below HBw.out
    have x0 := hbx.cell 0
    have x1 := hbx.cell 1
    have x2 := hbx.cell 2
    have z0 := HBx.out.cell 0
    have z1 := HBx.out.cell 1
    have k0 := HBx.out.free 0
    have k1 := HBx.out.free 1
    simp only [List.getElem?_toArray, List.getElem?_cons_zero, List.getElem?_cons_succ] at x0 x1 x2 z0 z1
    clear hbx
    by_cases hlt : k < m
    · have hlx : k < p.params.length := by rw [HM.out]; exact hlt
      obtain ⟨b3, i3, rfl, hcc⟩ := (HK.out.below HBw.out).params.open hlx
      obtain ⟨f0, f1⟩ := hcc k hlx
      have htk : p.params.take (k + 1) = p.params.take k ++ [p.params[k]] := List.take_succ_eq_append_getElem hlx
      have hany : p.params[k].ty = 3 → anyB p = true := fun h => List.any_eq_true.2 ⟨_, List.getElem_mem hlx, decide_eq_true h⟩
      generalize p.params[k] = q at f0 f1 htk hany
      clear hcc
      by_cases ht : q.ty = 3
      · have HW : Hid (10 = R) := by show _ = _; rw [← HR.out, if_neg (fun z => z rfl), if_pos (hany ht)]
        rw [ht] at f1
        clear ht htk hany
        go_wp2_with fail
        go_ret
        exact ⟨ret_int HW.out, below_2 HB.out HBw.out⟩
      have bt : (q.ty == 3) = false := beq_eq_false_iff_ne.2 ht
      have HTK := Lib.hid htk
      have HQ2 : Hid (∀ q' ∈ p.params.take (k + 1), decide (q'.ty = 3) = false) := fun q' h => by
        rw [htk] at h
        rcases List.mem_append.1 h with h | h
        · exact HQ.out q' h
        · rw [List.mem_singleton.1 h]; exact decide_eq_false ht
      have HWi : Hid (∀ wk, Below wr.heap.size wr wk → Calls Tryz.prog 45 #[.agg #[.slice va k vc, .slice la 0 lc], .string q.name, .int .i64 q.ty, .bool false] wk (GivesW wk (p.params.take k ++ [⟨q.name, q.ty⟩]) [])) := fun wk hb => by
        have hl : (p.params.take k).length = k := by rw [List.length_take]; omega
        have := rwith_any (p.params.take k) [] va vc la lc q.name q.ty false (by omega) (by simp) wk (HP.out.below hb) (Or.inl rfl)
        rw [hl] at this
        exact this
      have HL5 : Hid ((p.params.take k ++ [(⟨q.name, q.ty⟩ : Pm)]).length = k + 1) := by show _ = _; rw [List.length_append, List.length_take, Nat.min_eq_left (Nat.le_of_lt hlx)]; rfl
      clear ht htk hany
      go_upto_region 10 with fail
      have HNW : Hid (w2.heap.size < wr.heap.size) := HBx.out.lt
      refine wp_region_inv rfl (fun l a w' => ∃ v0 v1 v2 v3 v4 v5 v6 v7 v8 v9 v10 v11 v12 v13 : Value, a = { tmps := #[Value.agg #[Value.string p.name, Value.slice (some { block := b3, off := i3 }) m c1, Value.slice a2 p.body.length c2], Value.pointer (some { block := w.heap.size, off := 0 }), u2, Value.int IntKind.i64 0, Value.pointer (some { block := w2.heap.size, off := 0 }), Value.int IntKind.i64 ↑k, undef, undef, undef, Value.agg #[Value.string p.name, Value.slice (some { block := b3, off := i3 }) m c1, Value.slice a2 p.body.length c2], Value.int IntKind.i64 0, Value.int IntKind.i64 0, Value.bool false, undef, Value.int IntKind.i64 ↑k, Value.pointer (some { block := w.heap.size, off := 1 }), Value.slice (some { block := b3, off := i3 }) m c1, Value.int IntKind.i64 ↑m, Value.bool true, u19, u20, Value.pointer (some { block := w.heap.size, off := 1 }), Value.slice (some { block := b3, off := i3 }) m c1, Value.int IntKind.i64 ↑k, Value.pointer (some { block := b3, off := i3 + k * 2 }), Value.pointer (some { block := b3, off := i3 + k * 2 + 1 }), Value.int IntKind.i64 q.ty, Value.bool false, v0, v1, v2, v3, v4, v5, v6, v7, v8, v9, v10, v11, v12, v13, undef, undef, undef, undef, undef, undef, undef, undef, undef, undef, undef, undef, undef, undef, undef, undef, undef, undef, undef, undef, undef, undef, undef, undef, undef, undef], defers := [] } ∧ ((¬ On l 14 ∧ IS (P10 w.heap.size w2.heap.size (.agg #[.slice va k vc, .slice la 0 lc]) (.slice (some ⟨b3, i3, none⟩) m c1) i3 k b3 q.name q.ty (p.params.take k ++ [⟨q.name, q.ty⟩])) wr l w' [v0, v1, v2, v3, v4, v5, v6, v7, v8, v9, v10, v11, v12, v13]) ∨ (On l 14 ∧ (∀ j, j < 14 → On l j) ∧ (∃ (W' : World) (pp : Option Addr) (qq : Nat) (pp2 : Option Addr) (qq2 : Nat), w' = (W'.setCell ⟨w2.heap.size, 0, none⟩ (.slice pp (k + 1) qq)).setCell ⟨w2.heap.size, 1, none⟩ (.slice pp2 0 qq2) ∧ Below wr.heap.size wr W' ∧ PmsAt W' pp (p.params.take k ++ [⟨q.name, q.ty⟩]) ∧ (∀ g i, pp = some ⟨g, i, none⟩ → w2.heap.size < g))))) (by kernel_rfl) ?_ ?_ ?_
      · intro l hl
        exact ⟨_, _, _, _, _, _, _, _, _, _, _, _, _, _, rfl, Or.inl ⟨hl 14, IS.start _ _ hl _⟩⟩
      · rintro l a w' ⟨v0, v1, v2, v3, v4, v5, v6, v7, v8, v9, v10, v11, v12, v13, rfl, hF⟩ i hi h0 hall
        have hF2 : i < 14 → ¬ On l 14 ∧ IS (P10 w.heap.size w2.heap.size (.agg #[.slice va k vc, .slice la 0 lc]) (.slice (some ⟨b3, i3, none⟩) m c1) i3 k b3 q.name q.ty (p.params.take k ++ [⟨q.name, q.ty⟩])) wr l w' [v0, v1, v2, v3, v4, v5, v6, v7, v8, v9, v10, v11, v12, v13] := fun h => hF.resolve_right (fun z => off_of h0 (z.2.1 i h))
        match i, hi, h0, hall, hF2 with
        | 0, _, h0, hall, hF2 =>
          obtain ⟨hn14, F⟩ := hF2 (by decide)
          have HN14 : Hid (¬ On (l.setIfInBounds 0 true) 14) := fun z => hn14 (((on_set h0 14).1 z).resolve_left (by decide))
          clear hF hF2 hn14
          have hxx := HBx.out.below F.bel
          have q0 := hxx.cell 0
          have q1 := hxx.cell 1
          simp only [List.getElem?_toArray, List.getElem?_cons_zero, List.getElem?_cons_succ] at q0 q1
          clear hxx
          have HF := Lib.hid (F.step P10.mono h0 (show 0 < 14 by decide) (Below.refl _ _) (x := .agg #[.slice va k vc, .slice la 0 lc]) rfl)
          clear F hall h0
          refine wpOp_step (by rfl) (fun K' hK => ?_)
          have HKk := Lib.hid hK
          clear hK
          go_simp
          exact HKk.out _ _ ⟨_, _, _, _, _, _, _, _, _, _, _, _, _, _, rfl, Or.inl ⟨HN14.out, HF.out⟩⟩
        | 1, _, h0, hall, hF2 =>
          obtain ⟨hn14, F⟩ := hF2 (by decide)
          have HN14 : Hid (¬ On (l.setIfInBounds 1 true) 14) := fun z => hn14 (((on_set h0 14).1 z).resolve_left (by decide))
          clear hF hF2 hn14
          have HF := Lib.hid (F.step P10.mono h0 (show 1 < 14 by decide) (Below.refl _ _) (x := .pointer (some ⟨w.heap.size, 1, none⟩)) rfl)
          clear F hall h0
          refine wpOp_step (by rfl) (fun K' hK => ?_)
          have HKk := Lib.hid hK
          clear hK
          go_simp
          exact HKk.out _ _ ⟨_, _, _, _, _, _, _, _, _, _, _, _, _, _, rfl, Or.inl ⟨HN14.out, HF.out⟩⟩
        | 2, _, h0, hall, hF2 =>
          obtain ⟨hn14, F⟩ := hF2 (by decide)
          have HN14 : Hid (¬ On (l.setIfInBounds 2 true) 14) := fun z => hn14 (((on_set h0 14).1 z).resolve_left (by decide))
          clear hF hF2 hn14
          obtain rfl : v1 = .pointer (some ⟨w.heap.size, 1, none⟩) := F.f 1 (hall 1 (by decide +kernel))
          have hxx := HX.out.below (below_2 HBw.out F.bel)
          have q1 := hxx.cell 1
          simp only [List.getElem?_toArray, List.getElem?_cons_zero, List.getElem?_cons_succ] at q1
          clear hxx
          have HF := Lib.hid (F.step P10.mono h0 (show 2 < 14 by decide) (Below.refl _ _) (x := (.slice (some ⟨b3, i3, none⟩) m c1)) rfl)
          clear F hall h0
          refine wpOp_step (by rfl) (fun K' hK => ?_)
          have HKk := Lib.hid hK
          clear hK
          go_simp
          exact HKk.out _ _ ⟨_, _, _, _, _, _, _, _, _, _, _, _, _, _, rfl, Or.inl ⟨HN14.out, HF.out⟩⟩
        | 3, _, h0, hall, hF2 =>
          obtain ⟨hn14, F⟩ := hF2 (by decide)
          have HN14 : Hid (¬ On (l.setIfInBounds 3 true) 14) := fun z => hn14 (((on_set h0 14).1 z).resolve_left (by decide))
          clear hF hF2 hn14
          have HF := Lib.hid (F.step P10.mono h0 (show 3 < 14 by decide) (Below.refl _ _) (x := .int .i64 (k : Int)) rfl)
          clear F hall h0
          refine wpOp_step (by rfl) (fun K' hK => ?_)
          have HKk := Lib.hid hK
          clear hK
          go_simp
          exact HKk.out _ _ ⟨_, _, _, _, _, _, _, _, _, _, _, _, _, _, rfl, Or.inl ⟨HN14.out, HF.out⟩⟩
        | 4, _, h0, hall, hF2 =>
          obtain ⟨hn14, F⟩ := hF2 (by decide)
          have HN14 : Hid (¬ On (l.setIfInBounds 4 true) 14) := fun z => hn14 (((on_set h0 14).1 z).resolve_left (by decide))
          clear hF hF2 hn14
          obtain rfl : v2 = (.slice (some ⟨b3, i3, none⟩) m c1) := F.f 2 (hall 2 (by decide +kernel))
          obtain rfl : v3 = .int .i64 (k : Int) := F.f 3 (hall 3 (by decide +kernel))
          have hix : 0 ≤ (k : Int) ∧ (k : Int) < m := ⟨by omega, by omega⟩
          have HF := Lib.hid (F.step P10.mono h0 (show 4 < 14 by decide) (Below.refl _ _) (x := .pointer (some ⟨b3, i3 + k * 2, none⟩)) rfl)
          clear F hall h0
          refine wpOp_step (by rfl) (fun K' hK => ?_)
          have HKk := Lib.hid hK
          clear hK
          go_simp
          exact HKk.out _ _ ⟨_, _, _, _, _, _, _, _, _, _, _, _, _, _, rfl, Or.inl ⟨HN14.out, HF.out⟩⟩
        | 5, _, h0, hall, hF2 =>
          obtain ⟨hn14, F⟩ := hF2 (by decide)
          have HN14 : Hid (¬ On (l.setIfInBounds 5 true) 14) := fun z => hn14 (((on_set h0 14).1 z).resolve_left (by decide))
          clear hF hF2 hn14
          obtain rfl : v4 = .pointer (some ⟨b3, i3 + k * 2, none⟩) := F.f 4 (hall 4 (by decide +kernel))
          have HF := Lib.hid (F.step P10.mono h0 (show 5 < 14 by decide) (Below.refl _ _) (x := .pointer (some ⟨b3, i3 + k * 2, none⟩)) rfl)
          clear F hall h0
          refine wpOp_step (by rfl) (fun K' hK => ?_)
          have HKk := Lib.hid hK
          clear hK
          go_simp
          exact HKk.out _ _ ⟨_, _, _, _, _, _, _, _, _, _, _, _, _, _, rfl, Or.inl ⟨HN14.out, HF.out⟩⟩
        | 6, _, h0, hall, hF2 =>
          obtain ⟨hn14, F⟩ := hF2 (by decide)
          have HN14 : Hid (¬ On (l.setIfInBounds 6 true) 14) := fun z => hn14 (((on_set h0 14).1 z).resolve_left (by decide))
          clear hF hF2 hn14
          obtain rfl : v5 = .pointer (some ⟨b3, i3 + k * 2, none⟩) := F.f 5 (hall 5 (by decide +kernel))
          have f0' := (F.bel.cell (block_lt_of_cell f0)).trans f0
          have HF := Lib.hid (F.step P10.mono h0 (show 6 < 14 by decide) (Below.refl _ _) (x := .string q.name) rfl)
          clear F hall h0
          refine wpOp_step (by rfl) (fun K' hK => ?_)
          have HKk := Lib.hid hK
          clear hK
          go_simp
          exact HKk.out _ _ ⟨_, _, _, _, _, _, _, _, _, _, _, _, _, _, rfl, Or.inl ⟨HN14.out, HF.out⟩⟩
        | 7, _, h0, hall, hF2 =>
          obtain ⟨hn14, F⟩ := hF2 (by decide)
          have HN14 : Hid (¬ On (l.setIfInBounds 7 true) 14) := fun z => hn14 (((on_set h0 14).1 z).resolve_left (by decide))
          clear hF hF2 hn14
          have HF := Lib.hid (F.step P10.mono h0 (show 7 < 14 by decide) (Below.refl _ _) (x := .pointer (some ⟨w.heap.size, 1, none⟩)) rfl)
          clear F hall h0
          refine wpOp_step (by rfl) (fun K' hK => ?_)
          have HKk := Lib.hid hK
          clear hK
          go_simp
          exact HKk.out _ _ ⟨_, _, _, _, _, _, _, _, _, _, _, _, _, _, rfl, Or.inl ⟨HN14.out, HF.out⟩⟩
        | 8, _, h0, hall, hF2 =>
          obtain ⟨hn14, F⟩ := hF2 (by decide)
          have HN14 : Hid (¬ On (l.setIfInBounds 8 true) 14) := fun z => hn14 (((on_set h0 14).1 z).resolve_left (by decide))
          clear hF hF2 hn14
          obtain rfl : v7 = .pointer (some ⟨w.heap.size, 1, none⟩) := F.f 7 (hall 7 (by decide +kernel))
          have hxx := HX.out.below (below_2 HBw.out F.bel)
          have q1 := hxx.cell 1
          simp only [List.getElem?_toArray, List.getElem?_cons_zero, List.getElem?_cons_succ] at q1
          clear hxx
          have HF := Lib.hid (F.step P10.mono h0 (show 8 < 14 by decide) (Below.refl _ _) (x := (.slice (some ⟨b3, i3, none⟩) m c1)) rfl)
          clear F hall h0
          refine wpOp_step (by rfl) (fun K' hK => ?_)
          have HKk := Lib.hid hK
          clear hK
          go_simp
          exact HKk.out _ _ ⟨_, _, _, _, _, _, _, _, _, _, _, _, _, _, rfl, Or.inl ⟨HN14.out, HF.out⟩⟩
        | 9, _, h0, hall, hF2 =>
          obtain ⟨hn14, F⟩ := hF2 (by decide)
          have HN14 : Hid (¬ On (l.setIfInBounds 9 true) 14) := fun z => hn14 (((on_set h0 14).1 z).resolve_left (by decide))
          clear hF hF2 hn14
          have HF := Lib.hid (F.step P10.mono h0 (show 9 < 14 by decide) (Below.refl _ _) (x := .int .i64 (k : Int)) rfl)
          clear F hall h0
          refine wpOp_step (by rfl) (fun K' hK => ?_)
          have HKk := Lib.hid hK
          clear hK
          go_simp
          exact HKk.out _ _ ⟨_, _, _, _, _, _, _, _, _, _, _, _, _, _, rfl, Or.inl ⟨HN14.out, HF.out⟩⟩
        | 10, _, h0, hall, hF2 =>
          obtain ⟨hn14, F⟩ := hF2 (by decide)
          have HN14 : Hid (¬ On (l.setIfInBounds 10 true) 14) := fun z => hn14 (((on_set h0 14).1 z).resolve_left (by decide))
          clear hF hF2 hn14
          obtain rfl : v8 = (.slice (some ⟨b3, i3, none⟩) m c1) := F.f 8 (hall 8 (by decide +kernel))
          obtain rfl : v9 = .int .i64 (k : Int) := F.f 9 (hall 9 (by decide +kernel))
          have hix : 0 ≤ (k : Int) ∧ (k : Int) < m := ⟨by omega, by omega⟩
          have HF := Lib.hid (F.step P10.mono h0 (show 10 < 14 by decide) (Below.refl _ _) (x := .pointer (some ⟨b3, i3 + k * 2, none⟩)) rfl)
          clear F hall h0
          refine wpOp_step (by rfl) (fun K' hK => ?_)
          have HKk := Lib.hid hK
          clear hK
          go_simp
          exact HKk.out _ _ ⟨_, _, _, _, _, _, _, _, _, _, _, _, _, _, rfl, Or.inl ⟨HN14.out, HF.out⟩⟩
        | 11, _, h0, hall, hF2 =>
          obtain ⟨hn14, F⟩ := hF2 (by decide)
          have HN14 : Hid (¬ On (l.setIfInBounds 11 true) 14) := fun z => hn14 (((on_set h0 14).1 z).resolve_left (by decide))
          clear hF hF2 hn14
          obtain rfl : v10 = .pointer (some ⟨b3, i3 + k * 2, none⟩) := F.f 10 (hall 10 (by decide +kernel))
          have HF := Lib.hid (F.step P10.mono h0 (show 11 < 14 by decide) (Below.refl _ _) (x := .pointer (some ⟨b3, i3 + k * 2 + 1, none⟩)) rfl)
          clear F hall h0
          refine wpOp_step (by rfl) (fun K' hK => ?_)
          have HKk := Lib.hid hK
          clear hK
          go_simp
          exact HKk.out _ _ ⟨_, _, _, _, _, _, _, _, _, _, _, _, _, _, rfl, Or.inl ⟨HN14.out, HF.out⟩⟩
        | 12, _, h0, hall, hF2 =>
          obtain ⟨hn14, F⟩ := hF2 (by decide)
          have HN14 : Hid (¬ On (l.setIfInBounds 12 true) 14) := fun z => hn14 (((on_set h0 14).1 z).resolve_left (by decide))
          clear hF hF2 hn14
          obtain rfl : v11 = .pointer (some ⟨b3, i3 + k * 2 + 1, none⟩) := F.f 11 (hall 11 (by decide +kernel))
          have f1' := (F.bel.cell (block_lt_of_cell f1)).trans f1
          have HF := Lib.hid (F.step P10.mono h0 (show 12 < 14 by decide) (Below.refl _ _) (x := .int .i64 q.ty) rfl)
          clear F hall h0
          refine wpOp_step (by rfl) (fun K' hK => ?_)
          have HKk := Lib.hid hK
          clear hK
          go_simp
          exact HKk.out _ _ ⟨_, _, _, _, _, _, _, _, _, _, _, _, _, _, rfl, Or.inl ⟨HN14.out, HF.out⟩⟩
        | 13, _, h0, hall, hF2 =>
          obtain ⟨hn14, F⟩ := hF2 (by decide)
          have HN14 : Hid (¬ On (l.setIfInBounds 13 true) 14) := fun z => hn14 (((on_set h0 14).1 z).resolve_left (by decide))
          clear hF hF2 hn14
          obtain rfl : v0 = .agg #[.slice va k vc, .slice la 0 lc] := F.f 0 (hall 0 (by decide +kernel))
          obtain rfl : v6 = .string q.name := F.f 6 (hall 6 (by decide +kernel))
          obtain rfl : v12 = .int .i64 q.ty := F.f 12 (hall 12 (by decide +kernel))
          have HC := Lib.hid (HWi.out w' F.bel)
          have HSZ : Hid (wr.heap.size ≤ w'.heap.size) := F.bel.size
          have HF := Lib.hid (fun w'' hb x hx => F.step P10.mono h0 (show 13 < 14 by decide) (w' := w'') hb (x := x) hx)
          clear F hall h0
          refine wpOp_step (by rfl) (fun K' hK => ?_)
          have HKk := Lib.hid hK
          clear hK
          go_simp
          go_at_call 45
          refine HC.out.mono ?_; rintro e' w5 ⟨p', q', p2', q2', rfl, hp', _, hf1, hf2, hb5⟩
          have HF5 := Lib.hid (HF.out w5 hb5 _ (show P10 _ _ _ _ _ _ _ _ _ _ 13 (.agg #[.slice p' (p.params.take k ++ [(⟨q.name, q.ty⟩ : Pm)]).length q', .slice p2' 0 q2']) w5 from ⟨p', q', p2', q2', by rw [HL5.out], hp', (fun g i hg => Nat.lt_of_lt_of_le HNW.out (Nat.le_trans HSZ.out (hf1 g i hg))), (fun g i hg => Nat.lt_of_lt_of_le HNW.out (Nat.le_trans HSZ.out (hf2 g i hg)))⟩))
          exact HKk.out _ _ ⟨_, _, _, _, _, _, _, _, _, _, _, _, _, _, rfl, Or.inl ⟨HN14.out, HF5.out⟩⟩
        | 14, _, h0, hall, _ =>
          obtain ⟨_, F⟩ := hF.resolve_right (fun z => off_of h0 z.1)
          obtain ⟨pp, qq, pp2, qq2, rfl, hp', hf1, hf2⟩ : ∃ p q p2 q2, v13 = .agg #[.slice p (k + 1) q, .slice p2 0 q2] ∧ PmsAt w' p _ ∧ (∀ g i, p = some ⟨g, i, none⟩ → w2.heap.size < g) ∧ (∀ g i, p2 = some ⟨g, i, none⟩ → w2.heap.size < g) := F.f 13 (hall 13 (by decide +kernel))
          have hxx := HBx.out.below F.bel
          have q0 := hxx.cell 0
          have q1 := hxx.cell 1
          have q2 := hxx.free 0
          have q3 := hxx.free 1
          simp only [List.getElem?_toArray, List.getElem?_cons_zero, List.getElem?_cons_succ] at q0 q1
          have HFin : Hid (On (l.setIfInBounds 14 true) 14 ∧ (∀ j, j < 14 → On (l.setIfInBounds 14 true) j) ∧ ∃ (W' : World) (pp' : Option Addr) (qq' : Nat) (pp2' : Option Addr) (qq2' : Nat), (w'.setCell ⟨w2.heap.size, 0, none⟩ (.slice pp (k + 1) qq)).setCell ⟨w2.heap.size, 1, none⟩ (.slice pp2 0 qq2) = (W'.setCell ⟨w2.heap.size, 0, none⟩ (.slice pp' (k + 1) qq')).setCell ⟨w2.heap.size, 1, none⟩ (.slice pp2' 0 qq2') ∧ Below wr.heap.size wr W' ∧ PmsAt W' pp' (p.params.take k ++ [⟨q.name, q.ty⟩]) ∧ (∀ g i, pp' = some ⟨g, i, none⟩ → w2.heap.size < g)) :=
            ⟨(on_set h0 14).2 (Or.inl rfl), (fun j hj => by
              refine (on_set h0 j).2 (Or.inr (hall j ?_))
              revert hj
              revert j
              decide +kernel), w', pp, qq, pp2, qq2, rfl, F.bel, hp', hf1⟩
          clear F hall h0 hxx hp' hf1 hf2 hF
          refine wpOp_step (by rfl) (fun K' hK => ?_)
          have HKk := Lib.hid hK
          clear hK
          go_simp
          exact HKk.out _ _ ⟨_, _, _, _, _, _, _, _, _, _, _, _, _, _, rfl, Or.inr HFin.out⟩
        | i + 15, hi, _, _, _ => exact absurd hi (by show ¬ (i + 15 < 15); omega)
      rintro l9 a wf ⟨r0, r1, r2, r3, r4, r5, r6, r7, r8, r9, r10, r11, r12, r13, rfl, hF⟩ hall
      obtain ⟨_, _, W', pp, qq, pp2, qq2, rfl, hbw, hpm, hff⟩ := hF.resolve_left (fun z => z.1 (hall 14 (by decide)))
      have HBx6 := Lib.hid (((HBx.out.below hbw).set 0 (u := .slice pp (k + 1) qq)).set 1 (u := .slice pp2 0 qq2))
      have HP6 : Hid (PmsAt ((W'.setCell ⟨w2.heap.size, 0, none⟩ (.slice pp (k + 1) qq)).setCell ⟨w2.heap.size, 1, none⟩ (.slice pp2 0 qq2)) pp (p.params.take (k + 1))) := by
        have h1 : p.params.take k ++ [(⟨q.name, q.ty⟩ : Pm)] = p.params.take (k + 1) := HTK.out.symm
        show PmsAt _ _ _
        rw [← h1]
        exact pms_put (pms_put hpm (fun g i hg => by have := hff g i hg; omega)) (fun g i hg => by have := hff g i hg; omega)
      have HB6 : Hid (Below w2.heap.size w2 ((W'.setCell ⟨w2.heap.size, 0, none⟩ (.slice pp (k + 1) qq)).setCell ⟨w2.heap.size, 1, none⟩ (.slice pp2 0 qq2))) := ((below_2 HBr.out hbw).setCell (Nat.le_refl _) _).setCell (Nat.le_refl _) _
      clear hF hall hbw hpm hff
      go_wp2_with fail
      go_roundw
      case rel => exact ⟨k + 1, pp, qq, pp2, qq2, by omega, by go_num, HQ2, HBx6, HP6, HB6⟩
      case measure => simp [intOf]; omega
    · have hkm : k = m := by omega
      subst hkm
      have hany : anyB p = false := by
        unfold anyB
        rw [List.any_eq_false]
        intro q hq
        have := HQ.out q (by rw [List.take_of_length_le (by rw [HM.out]; exact Nat.le_refl _)]; exact hq)
        rw [this]; decide
      have HR2 : Hid ((if rep [] (names p) = true then (8 : Int) else rfB p.params [] p.body) = R) := by
        have h := HR.out
        rw [if_neg (fun z => z rfl), hany, if_neg (by decide)] at h
        exact h
      have HPf : Hid (PmsAt wr va p.params) := by
        have := HP.out
        rw [List.take_of_length_le (by rw [HM.out]; exact Nat.le_refl _)] at this
        exact this
      have HN4 := Lib.hid (HNm.out wr (HK.out.below HBw.out))
      clear hany k0 k1
      go_wp2_with fail
      refine HN4.out.mono ?_; rintro e' w5 ⟨pn, qn, rfl, hq, hsn, hb5⟩
      have HSn := Lib.hid hsn
      have HB5 := Lib.hid (below_2 HBw.out hb5)
      have HPf5 := Lib.hid (HPf.out.below hb5)
      have HBx5 := Lib.hid (HBx.out.below hb5)
      have hnl := HNL.out
      clear hsn hb5 HN4 x0 x1 x2 z0 z1
      obtain ⟨nn, hnn⟩ : ∃ m, (names p).length = m := ⟨_, rfl⟩
      have HNN := Lib.hid hnn
      rw [hnn] at hnl hq ⊢
      clear hnn
      go_wp2_with fail
      go_loopw [7] (fun s7 wr => ∃ (i : Nat), i ≤ nn ∧ s7 = .int .i64 i ∧ Hid (∀ a (ha : a < (names p).length), a < i → ∀ b (hb : b < a), (names p)[b] ≠ (names p)[a]) ∧ Hid (Below w5.heap.size w5 wr)) (fun i _ => nn - (intOf i).toNat)
      case atStart => exact ⟨0, Nat.zero_le _, rfl, (fun a _ h => absurd h (Nat.not_lt_zero _)), Below.refl _ _⟩
      case round =>
        obtain ⟨i, hi, rfl, HD, HBi⟩ := hrel
        by_cases hlt2 : i < nn
        · have hlx : i < (names p).length := by rw [HNN.out]; exact hlt2
          have HLT := Lib.hid hlt2
          go_wp2_with fail
          go_loopw [8] (fun s8 wj => ∃ (j : Nat), j ≤ i ∧ s8 = .int .i64 j ∧ Hid (∀ b (hb : b < i), b < j → (names p)[b] ≠ (names p)[i]) ∧ Hid (Below w5.heap.size w5 wj)) (fun j _ => i - (intOf j).toNat)
          case atStart => exact ⟨0, Nat.zero_le _, rfl, (fun b _ h => absurd h (Nat.not_lt_zero _)), HBi.out⟩
          case round =>
            obtain ⟨j, hj, rfl, HDj, HBj⟩ := hrel
            by_cases hlt3 : j < i
            · have hly : j < (names p).length := by omega
              have HLT3 := Lib.hid hlt3
              have hjn : j < nn := by omega
              obtain ⟨bn, iN, rfl, hcn⟩ := (HSn.out.below HBj.out).open hlx
              have f0 := hcn i hlx
              have f1 := hcn j hly
              clear hcn
              by_cases he : (names p)[j] = (names p)[i]
              · have HW : Hid (8 = R) := by show _ = _; rw [← HR2.out, if_pos (isIn_takeN hlt3 hlx he)]
                rw [he] at f1
                clear he
                generalize (names p)[i] = y at f0 f1
                go_wp2_with fail
                go_quiet (fail)
                go_wp2_with fail
                go_ret
                exact ⟨ret_int HW.out, below_2 HB.out (below_2 HB5.out (below_2 HBj.out (A.below_dn _ _)))⟩
              · have HD2 : Hid (∀ b (hb : b < i), b < j + 1 → (names p)[b] ≠ (names p)[i]) := fun b hb h => by
                  by_cases e : b = j
                  · subst e; exact he
                  · exact HDj.out b hb (by omega)
                have bx := A.eql_no he
                obtain ⟨y, hy⟩ : ∃ y, (names p)[i] = y := ⟨_, rfl⟩
                obtain ⟨y2, hy2⟩ : ∃ y, (names p)[j] = y := ⟨_, rfl⟩
                rw [hy] at f0 bx
                rw [hy2] at f1 bx
                clear he hy hy2
                go_wp2_with fail
                go_quiet (fail)
                go_wp2_with fail
                go_roundw
                case rel => exact ⟨j + 1, HLT3.out, by go_num, HD2, below_2 HBj.out (A.below_dn _ _)⟩
                case measure => have := HLT3.out; simp [intOf]; omega
            · have HD3 : Hid (∀ a (ha : a < (names p).length), a < i + 1 → ∀ b (hb : b < a), (names p)[b] ≠ (names p)[a]) := fun a ha h b hb => by
                by_cases e : a = i
                · subst e; exact HDj.out b hb (by omega)
                · exact HD.out a ha (by omega) b hb
              go_wp2_with fail
              go_roundw
              case rel => exact ⟨i + 1, HLT.out, by go_num, HD3, HBj.out⟩
              case measure => have := HLT.out; simp [intOf]; omega
        · have HW : Hid (rfB p.params [] p.body = R) := by
            show _ = _
            rw [← HR2.out, if_neg (by rw [rep_no (fun a ha b hb => HD.out a ha (by have := HNN.out; omega) b hb)]; decide)]
          have hb6 := below_2 HB5.out HBi.out
          have hbx := HX.out.below hb6
          have x2 := hbx.cell 2
          have hz := HBx5.out.below HBi.out
          have z0 := hz.cell 0
          have z1 := hz.cell 1
          simp only [List.getElem?_toArray, List.getElem?_cons_zero, List.getElem?_cons_succ] at x2 z0 z1
          have HB6 := Lib.hid hb6
          have HBd6 := Lib.hid (HBd.out wr va vc la lc (HK.out.below hb6) (HPf5.out.below HBi.out))
          clear hbx hz hb6
          go_wp2_with fail
          refine HBd6.out.mono ?_; rintro e' w7 ⟨rfl, hb7⟩
          have HB7 := Lib.hid (below_2 HB6.out hb7)
          clear hb7
          go_wp2_with fail
          go_ret
          exact ⟨ret_int HW.out, below_2 HB.out HB7.out⟩
end Go.Proofs.YtnelpgeiioflmaaGreatDoor.Y
