/-
  The reference of layer 11: wrong, assign, operands: contracts.
  The reference of layer 11: operands: contract.
  The laws of layer 11: a list with one more name.
  The reference of layer 11: a scope with one more variable: contract.
-/
import Derived.Test.YtkjefigebdbkaaaDoorN19
import Derived.Test.YtkjefigebdbkaaaDoorN22
import Derived.Test.YtkjefigebdbkaaaDoorTYCheck
import Derived.Test.YtkjefigebdbkaaaDoorN03
namespace Go.Proofs.YtkjefigebdbkaaaDoor.Y
open Go.RowKit
open L (Str isName prt size_len below_2 below_box ret_bool ret_int eql_eq bytes_eq)
open A (Ex St Pm Pr V arity vE vEs absent exV exO exV_mk Bx okE okEs cE cEs PmsAt StrsAt)

set_option maxHeartbeats 2000000 in
set_option maxRecDepth 100000 in
theorem rwrong_any (o a b : Int) (w : World) : Calls Tryd.prog 92 #[.int .i64 o, .int .i64 a, .int .i64 b] w fun e' w' => e' = .returned (.bool (wrong o a b)) ∧ w' = w := by
  obtain ⟨R, hR⟩ : ∃ R, wrong o a b = R := ⟨_, rfl⟩
  rw [hR]
  unfold wrong at hR
  have HR := Lib.hid hR
  clear hR
  by_cases h3 : o = 3
  · subst h3
    by_cases ha : a = 2
    · subst ha
      have HV : Hid (decide (b = 3) = R) := by show _ = _; rw [← HR.out]; rfl
      by_cases hb : b = 3
      · subst hb
        have HV2 : Hid (true = R) := HV.out
        go_enter Tryd.func92, Tryd.ntmps92
        go_wp2_with fail
        go_ret
        exact ⟨ret_bool HV2.out, rfl⟩
      · have e1 : (b == 3) = false := beq_eq_false_iff_ne.2 hb
        have HV2 : Hid (false = R) := by show _ = _; rw [← HV.out, decide_eq_false hb]
        clear hb
        go_enter Tryd.func92, Tryd.ntmps92
        go_wp2_with fail
        go_ret
        exact ⟨ret_bool HV2.out, rfl⟩
    · have e1 : (a != 2) = true := bne_iff_ne.2 ha
      have HV : Hid (true = R) := by show _ = _; rw [← HR.out, decide_eq_false ha]; rfl
      clear ha
      go_enter Tryd.func92, Tryd.ntmps92
      go_wp2_with fail
      go_ret
      exact ⟨ret_bool HV.out, rfl⟩
  have b3 : (o == 3) = false := beq_eq_false_iff_ne.2 h3
  by_cases h4 : o = 4
  · subst h4
    have HV : Hid ((a != 2) = R) := by
      show _ = _
      rw [← HR.out, if_neg (by decide), if_pos rfl]
      by_cases h : a = 2
      · rw [h]; rfl
      · rw [decide_eq_false h, bne_iff_ne.2 h]; rfl
    go_enter Tryd.func92, Tryd.ntmps92
    go_wp2_with fail
    go_ret
    exact ⟨ret_bool HV.out, rfl⟩
  have b4 : (o == 4) = false := beq_eq_false_iff_ne.2 h4
  by_cases h5 : o = 5
  · subst h5
    have HV : Hid ((a != 3) = R) := by
      show _ = _
      rw [← HR.out, if_neg (by decide), if_neg (by decide), if_pos rfl]
      by_cases h : a = 3
      · rw [h]; rfl
      · rw [decide_eq_false h, bne_iff_ne.2 h]; rfl
    go_enter Tryd.func92, Tryd.ntmps92
    go_wp2_with fail
    go_ret
    exact ⟨ret_bool HV.out, rfl⟩
  have b5 : (o == 5) = false := beq_eq_false_iff_ne.2 h5
  by_cases h6 : o = 6
  · subst h6
    by_cases ha : a = 1
    · subst ha
      have HV : Hid ((b != 1) = R) := by
        show _ = _
        rw [← HR.out, if_neg (by decide), if_neg (by decide), if_neg (by decide), if_pos rfl]
        by_cases h : b = 1
        · rw [h]; rfl
        · rw [decide_eq_false h, bne_iff_ne.2 h]; rfl
      go_enter Tryd.func92, Tryd.ntmps92
      go_wp2_with fail
      go_ret
      exact ⟨ret_bool HV.out, rfl⟩
    · have e1 : (a != 1) = true := bne_iff_ne.2 ha
      have HV : Hid (true = R) := by
        show _ = _
        rw [← HR.out, if_neg (by decide), if_neg (by decide), if_neg (by decide), if_pos rfl, decide_eq_false ha]; rfl
      clear ha
      go_enter Tryd.func92, Tryd.ntmps92
      go_wp2_with fail
      go_ret
      exact ⟨ret_bool HV.out, rfl⟩
  have b6 : (o == 6) = false := beq_eq_false_iff_ne.2 h6
  by_cases h7 : o = 7
  · subst h7
    have HV : Hid ((a == 3) = R) := by
      show _ = _
      rw [← HR.out, if_neg (by decide), if_neg (by decide), if_neg (by decide), if_neg (by decide), if_pos rfl]; rfl
    go_enter Tryd.func92, Tryd.ntmps92
    go_wp2_with fail
    go_ret
    exact ⟨ret_bool HV.out, rfl⟩
  have b7 : (o == 7) = false := beq_eq_false_iff_ne.2 h7
  have HV : Hid (false = R) := by
    show _ = _
    rw [← HR.out, if_neg h3, if_neg h4, if_neg h5, if_neg h6, if_neg h7]
  clear h3 h4 h5 h6 h7
  go_enter Tryd.func92, Tryd.ntmps92
  go_wp2_with fail
  go_ret
  exact ⟨ret_bool HV.out, rfl⟩
set_option maxHeartbeats 2000000 in
set_option maxRecDepth 100000 in
theorem rassign_any (vs : List Pm) (ls : List ByteArray) (va : Option Addr) (vc : Nat) (la : Option Addr) (lc : Nat) (x : ByteArray) (t : Int) (hv : vs.length ≤ 1000000000000000) (hl : ls.length ≤ 1000000000000000) (w : World) (hP : PmsAt w va vs) (hS : StrsAt w la ls) :
    Calls Tryd.prog 91 #[.agg #[.slice va vs.length vc, .slice la ls.length lc], .string x, .int .i64 t] w fun e' w' => e' = .returned (.int .i64 (asgR vs ls x t)) ∧ Below w.heap.size w w' := by
  have hb := below_box w (.cells #[.slice va vs.length vc, .slice la ls.length lc] 100)
  have hbx := Bx.new w #[.slice va vs.length vc, .slice la ls.length lc] 100
  have HC := Lib.hid (rlookup_any vs va vc x hv _ (hP.below hb))
  have HS := Lib.hid (hS.below hb)
  have HX := Lib.hid hbx
  have HB := Lib.hid hb
  obtain ⟨R, hR⟩ : ∃ R, asgR vs ls x t = R := ⟨_, rfl⟩
  rw [hR]
  unfold asgR at hR
  have HR := Lib.hid hR
  generalize tyV (look vs) x = y at *
  obtain ⟨y1, y2⟩ := y
  obtain ⟨m, hm⟩ : ∃ m, ls.length = m := ⟨_, rfl⟩
  have HL := Lib.hid hm
  rw [hm] at hl HC HS HX HB ⊢
  have x0 := HX.out.cell 0
  have x1 := HX.out.cell 1
  simp only [List.getElem?_toArray, List.getElem?_cons_zero, List.getElem?_cons_succ] at x0 x1
  clear hb hbx hR hm hP hS
  go_enter Tryd.func91, Tryd.ntmps91
  go_wp2_with fail
  refine HC.out.mono ?_; rintro e' w2 ⟨rfl, rfl⟩
  by_cases h0 : y2 = 0
  case neg =>
    have b1 : (y2 != 0) = true := bne_iff_ne.2 h0
    have HV : Hid (y2 = R) := by show _ = _; rw [← HR.out, if_pos h0]
    clear h0
    go_wp2_with fail
    go_ret
    exact ⟨ret_int HV.out, HB.out⟩
  subst h0
  have HI : Hid (isIn x (ls.drop 0) = isIn x ls) := rfl
  go_wp2_with fail
  go_loopw [9] (fun s9 wr => ∃ k : Nat, k ≤ m ∧ s9 = .int .i64 k ∧ Hid (isIn x (ls.drop k) = isIn x ls) ∧ wr = w.alloc (.cells #[.slice va vs.length vc, .slice la m lc] 100)) (fun s9 _ => m - (intOf s9).toNat)
  case atStart => exact ⟨0, Nat.zero_le _, rfl, HI, rfl⟩
  case round =>
    obtain ⟨k, hk, rfl, HXk, rfl⟩ := hrel
    by_cases hlt : k < m
    · have hlx : k < ls.length := by rw [HL.out]; exact hlt
      obtain ⟨b3, i3, rfl, hcc⟩ := HS.out.open hlx
      have f0 := hcc k hlx
      have hx := HXk.out
      rw [isIn_drop hlx] at hx
      generalize ls[k] = q at f0 hx
      have hb := A.bytes_dec q x
      clear hcc
      by_cases hn : q = x
      · rw [decide_eq_true hn] at hb hx
        have HV : Hid (7 = R) := by
          show _ = _
          rw [← HR.out, if_neg (fun z => z rfl), if_pos (by rw [← hx]; rfl)]
        clear hn hx
        go_wp2_with fail
        go_ret
        exact ⟨ret_int HV.out, HB.out⟩
      · rw [decide_eq_false hn] at hb hx
        have HX2 : Hid (isIn x (ls.drop (k + 1)) = isIn x ls) := hx
        clear hn hx
        go_wp2_with fail
        go_roundw
        case rel => exact ⟨k + 1, by omega, by go_num, HX2, trivial⟩
        case measure => simp [intOf]; omega
    · have hx := HXk.out
      rw [List.drop_of_length_le (by have := HL.out; omega)] at hx
      have hR2 := HR.out
      rw [if_neg (fun z => z rfl), ← hx, if_neg (by unfold isIn; simp)] at hR2
      by_cases ht : t = y1
      · subst ht
        have HV : Hid (0 = R) := by show _ = _; rw [← hR2, if_neg (fun z => z rfl)]
        clear hx hR2
        go_wp2_with fail
        go_ret
        exact ⟨ret_int HV.out, HB.out⟩
      · have b2 : (t != y1) = true := bne_iff_ne.2 ht
        have HV : Hid (10 = R) := by show _ = _; rw [← hR2, if_pos ht]
        clear hx hR2 ht
        go_wp2_with fail
        go_ret
        exact ⟨ret_int HV.out, HB.out⟩
end Go.Proofs.YtkjefigebdbkaaaDoor.Y
namespace Go.Proofs.YtkjefigebdbkaaaDoor.Y
open Go.RowKit
open L (Str isName prt size_len below_2 below_box ret_bool ret_int eql_eq bytes_eq)
open A (Ex St Pm Pr V arity vE vEs absent exV exO exV_mk Bx okE okEs cE cEs PmsAt StrsAt)

/-- a statement as a value, cell by cell -/
def stF (s : St) (a1 : Option Addr) (c1 : Nat) (a2 : Option Addr) (c2 : Nat) (a3 : Option Addr) (c3 : Nat) (a4 : Option Addr) (c4 : Nat) : Array Value :=
  #[.int .i64 s.op, .string s.name, .int .i64 s.mx, .int .i64 s.a.op, .int .i64 s.a.n, .string s.a.s, .slice a1 s.a.args.length c1, .int .i64 s.b.op, .int .i64 s.b.n, .string s.b.s, .slice a2 s.b.args.length c2, .slice a3 s.body.length c3, .slice a4 s.els.length c4]
set_option maxHeartbeats 4000000 in
set_option maxRecDepth 100000 in
theorem roperands_any (vs : List Pm) (va : Option Addr) (vc : Nat) (la : Option Addr) (ln lc : Nat) (s : St) (a1 : Option Addr) (c1 : Nat) (a2 : Option Addr) (c2 : Nat) (a3 : Option Addr) (c3 : Nat) (a4 : Option Addr) (c4 : Nat) (hv : vs.length ≤ 1000000000000000) (w : World)
    (hoa : okE s.a) (hob : okE s.b) (hP : PmsAt w va vs) (hA : A.Kids w a1 s.a.args) (hB : A.Kids w a2 s.b.args) :
    Calls Tryd.prog 90 #[.agg #[.slice va vs.length vc, .slice la ln lc], .agg (stF s a1 c1 a2 c2 a3 c3 a4 c4)] w
      fun e' w' => e' = .returned (.tuple #[.int .i64 (opsR vs s.op s.a s.b).1, .int .i64 (opsR vs s.op s.a s.b).2.1, .int .i64 (opsR vs s.op s.a s.b).2.2]) ∧ Below w.heap.size w w' := by
  have hb1 := below_box w (.cells #[.slice va vs.length vc, .slice la ln lc] 100)
  have hb2 := below_box (w.alloc (.cells #[.slice va vs.length vc, .slice la ln lc] 100)) (.cells (stF s a1 c1 a2 c2 a3 c3 a4 c4) 48)
  have hz : (w.alloc (.cells #[.slice va vs.length vc, .slice la ln lc] 100)).heap.size = w.heap.size + 1 := by simp
  have hbx1 := (Bx.new w #[.slice va vs.length vc, .slice la ln lc] 100).below hb2
  have hbx2 := Bx.new (w.alloc (.cells #[.slice va vs.length vc, .slice la ln lc] 100)) (stF s a1 c1 a2 c2 a3 c3 a4 c4) 48
  rw [hz] at hbx2
  have hb := below_2 hb1 hb2
  have HX1 := Lib.hid hbx1
  have HX2 := Lib.hid hbx2
  have HB := Lib.hid hb
  have HA : Hid (∀ w', Below w.heap.size w w' → Calls Tryd.prog 28 #[exV s.a a1 c1, .slice va vs.length vc] w' fun e' w'' => e' = .returned (.tuple #[.int .i64 (ofE (look vs) s.a).1, .int .i64 (ofE (look vs) s.a).2]) ∧ Below w'.heap.size w' w'') :=
    fun w' h => rOf_any s.a a1 c1 vs va vc hoa hv w' (hA.below h) (hP.below h)
  have HBb : Hid (∀ w', Below w.heap.size w w' → Calls Tryd.prog 28 #[exV s.b a2 c2, .slice va vs.length vc] w' fun e' w'' => e' = .returned (.tuple #[.int .i64 (ofE (look vs) s.b).1, .int .i64 (ofE (look vs) s.b).2]) ∧ Below w'.heap.size w' w'') :=
    fun w' h => rOf_any s.b a2 c2 vs va vc hob hv w' (hB.below h) (hP.below h)
  obtain ⟨R, hR⟩ : ∃ R, opsR vs s.op s.a s.b = R := ⟨_, rfl⟩
  rw [hR]
  unfold opsR at hR
  generalize ofE (look vs) s.a = y at *
  generalize ofE (look vs) s.b = z at *
  have HR := Lib.hid hR
  obtain ⟨y1, y2⟩ := y
  obtain ⟨z1, z2⟩ := z
  unfold stF at *
  unfold exV at HA HBb
  have x0 := HX1.out.cell 0
  have g0 := HX2.out.cell 0
  have g3 := HX2.out.cell 3
  have g4 := HX2.out.cell 4
  have g5 := HX2.out.cell 5
  have g6 := HX2.out.cell 6
  simp only [List.getElem?_toArray, List.getElem?_cons_zero, List.getElem?_cons_succ] at x0 g0 g3 g4 g5 g6
  clear hb1 hb2 hz hbx1 hbx2 hb hoa hob hP hA hB hR hv
  generalize s.op = o at *
  by_cases h8 : o = 8
  · subst h8
    have HV : Hid ((0, 0, 0) = R) := by show _ = _; rw [← HR.out, if_pos rfl]
    go_enter Tryd.func90, Tryd.ntmps90
    go_wp2_with fail
    refine bodyPost_ret (v := .tuple #[.int .i64 0, .int .i64 0, .int .i64 0]) (by simp [results, Tryd.results90, go_sem]) rfl ?_
    exact ⟨by rw [← HV.out], HB.out⟩
  have b8 : (o == 8) = false := beq_eq_false_iff_ne.2 h8
  go_enter Tryd.func90, Tryd.ntmps90
  go_wp2_with fail
  refine (HA.out _ HB.out).mono ?_; rintro e' w2 ⟨rfl, hb2⟩
  have HB2 := Lib.hid (below_2 HB.out hb2)
  have hx2 := HX2.out.below hb2
  have hx1 := HX1.out.below hb2
  have x0' := hx1.cell 0
  have g0' := hx2.cell 0
  have g7 := hx2.cell 7
  have g8 := hx2.cell 8
  have g9 := hx2.cell 9
  have g10 := hx2.cell 10
  simp only [List.getElem?_toArray, List.getElem?_cons_zero, List.getElem?_cons_succ] at x0' g0' g7 g8 g9 g10
  clear hx1 hx2 hb2 x0 g0 g3 g4 g5 g6
  by_cases hy : y2 = 0
  case neg =>
    have b1 : (y2 != 0) = true := bne_iff_ne.2 hy
    have HV : Hid ((y1, 0, y2) = R) := by show _ = _; rw [← HR.out, if_neg h8, if_pos (Or.inl hy)]
    clear hy h8
    go_wp2_with fail
    refine bodyPost_ret (v := .tuple #[.int .i64 y1, .int .i64 0, .int .i64 y2]) (by simp [results, Tryd.results90, go_sem]) rfl ?_
    exact ⟨by rw [← HV.out], HB2.out⟩
  subst hy
  by_cases h3 : o = 3
  · subst h3
    have HV : Hid ((y1, z1, z2) = R) := by show _ = _; rw [← HR.out, if_neg h8, if_neg (fun h => h.elim (fun z => z rfl) (fun z => z.1 rfl))]
    clear h8
    go_wp2_with fail
    refine (HBb.out _ HB2.out).mono ?_; rintro e' w3 ⟨rfl, hb3⟩
    have HB3 := Lib.hid (below_2 HB2.out hb3)
    clear hb3
    go_wp2_with fail
    refine bodyPost_ret (v := .tuple #[.int .i64 y1, .int .i64 z1, .int .i64 z2]) (by simp [results, Tryd.results90, go_sem]) rfl ?_
    exact ⟨by rw [← HV.out], HB3.out⟩
  have e3 : (o != 3) = true := bne_iff_ne.2 h3
  by_cases h6 : o = 6
  · subst h6
    have HV : Hid ((y1, z1, z2) = R) := by show _ = _; rw [← HR.out, if_neg h8, if_neg (fun h => h.elim (fun z => z rfl) (fun z => z.2 rfl))]
    clear h8 h3
    go_wp2_with fail
    refine (HBb.out _ HB2.out).mono ?_; rintro e' w3 ⟨rfl, hb3⟩
    have HB3 := Lib.hid (below_2 HB2.out hb3)
    clear hb3
    go_wp2_with fail
    refine bodyPost_ret (v := .tuple #[.int .i64 y1, .int .i64 z1, .int .i64 z2]) (by simp [results, Tryd.results90, go_sem]) rfl ?_
    exact ⟨by rw [← HV.out], HB3.out⟩
  have e6 : (o != 6) = true := bne_iff_ne.2 h6
  have HV : Hid ((y1, 0, 0) = R) := by show _ = _; rw [← HR.out, if_neg h8, if_pos (Or.inr ⟨h3, h6⟩)]
  clear h8 h3 h6
  go_wp2_with fail
  refine bodyPost_ret (v := .tuple #[.int .i64 y1, .int .i64 0, .int .i64 0]) (by simp [results, Tryd.results90, go_sem]) rfl ?_
  exact ⟨by rw [← HV.out], HB2.out⟩
end Go.Proofs.YtkjefigebdbkaaaDoor.Y
namespace Go.Proofs.YtkjefigebdbkaaaDoor.Y
open Go.RowKit
open L (Str isName prt size_len below_2 below_box ret_bool ret_int eql_eq bytes_eq)
open A (Ex St Pm Pr V arity vE vEs absent exV exO exV_mk Bx okE okEs cE cEs PmsAt StrsAt PrIn OkP prV prO names valE ExsAt ExAt StsAt StAt Bodies RowK Own1 Stays kN)
open P (G Kd On off_of wp_region_G)

theorem flat_getN (l : List ByteArray) (j : Nat) (u : Value) (h : (kN.cs l)[j]? = some u) : ∃ hj : j < l.length, u = .string l[j] := by
  have hlt := (List.getElem?_eq_some_iff.1 h).1
  rw [RowK.cs_len] at hlt
  have hs : kN.size = 1 := rfl
  rw [hs] at hlt
  have hj : j < l.length := by omega
  have hg := RowK.cs_get kN l j hj 0 (by decide)
  rw [hs, Nat.mul_one, Nat.add_zero, h] at hg
  exact ⟨hj, Option.some.inj hg⟩
/-- names joined to names of the call's own -/
theorem wpList_append_strs {w : World} {ops : Array Oper} {rest : List Oper} {o : Oper} {a : Act} {Q : Exit → Act → World → Prop} (hgd : o.guard = none) (s x : Operand)
    (ho : o.op = .call { callee := .builtin .append, args := #[s, x], argTypes := #[77, 77] })
    (base : Nat) (Z : Nat → Prop) (p : Option Addr) (n q : Nat) (l m : List ByteArray) (hn : n = l.length) (hs : a.eval s = .slice p n q) (hown : Own1 kN w base Z (.slice p l.length q) l)
    (xa : Option Addr) (mm xc : Nat) (hmm : mm = m.length) (hx : a.eval x = .slice xa mm xc) (hP : StrsAt w xa m) (hl : l.length + m.length ≤ 1000000) (hbase : base ≤ w.heap.size) (hZ : ∀ k, Z k → k < base)
    (h : ∀ p' q' w', Own1 kN w' base Z (.slice p' (l ++ m).length q') (l ++ m) → w.grownBy w' (Value.slice p l.length q).ownBlock → Go.wpList Tryd.prog ops Q rest (a.put o.dst (.slice p' (n + mm) q')) w') :
    Go.wpList Tryd.prog ops Q (o :: rest) a w := by
  subst hn hmm
  obtain ⟨i0, hi, hz0, hz1, hz2⟩ := A.info_parts3 kN.info
  have zero : m = [] → Go.wpList Tryd.prog ops Q (o :: rest) a w := by
    rintro rfl
    obtain ⟨p2, q2, hv, hle⟩ := hown.shape
    injection hv with h1 h2 h3
    subst h1 h3
    refine wpList_plain hgd fun K hK' => ?_
    have hrun := run_append_0 (P := Tryd.prog) w 77 o.type 9 i0 kN.und hi p l.length q hle xa xc
    unfold Oper.wp
    simp [execOp, ho, resolve, invoke, builtin, hs, hx, hrun, Result.andThen]
    refine hK' _ _ ?_
    have := h p q w (by rw [List.append_nil]; exact hown) (World.grownBy.refl _ _)
    simpa using this
  rcases hP with h0 | ⟨b, i, rfl, hc⟩
  · exact zero h0
  · by_cases h0 : m.length = 0
    · exact zero (List.eq_nil_of_length_eq_zero h0)
    · refine wpList_append_lies _ hgd s x kN.t ho base kN.e i0 _ kN.size kN.bytes kN.und hi hz0 hz1 hz2 kN.zs kN.pos (.slice p l.length q) l.length (kN.cs l) hs hown.row ⟨b, i, none⟩ m.length xc (kN.cs m) hx (RowK.cs_len kN m) ?_ ?_ (by omega) (by unfold maxLen; omega) ?_ hbase w.heap.size rfl ?_
      · intro j u hu
        obtain ⟨hj, rfl⟩ := flat_getN m j u hu
        rw [WideShapes.add_plain]
        exact hc j hj
      · intro u hu
        obtain ⟨y, hy, hu⟩ := List.mem_flatMap.1 hu
        exact kN.one y u hu
      · show (l.length + m.length) * 16 ≤ _
        omega
      · intro g cap w' h1 h2 h3 _
        refine h (some ⟨g, 0, none⟩) cap w' ⟨?_, fun g' hg hz => ?_, fun _ _ => trivial⟩ h2
        · rw [List.length_append, RowK.cs_app]; exact h1
        · have hk2 : g = g' := by injection hg
          subst hk2
          have := hZ g hz
          rcases h3 with h3 | h3
          · have := (hown.lt g h3).1; omega
          · omega
end Go.Proofs.YtkjefigebdbkaaaDoor.Y
namespace Go.Proofs.YtkjefigebdbkaaaDoor.Y
open Go.RowKit
open L (Str isName prt size_len below_2 below_box ret_bool ret_int eql_eq bytes_eq)
open A (Ex St Pm Pr exV exO Bx okE PmsAt StrsAt RowK Own1 Stays kN)

/-- the three boxes of a call, and what lies below them -/
structure SW (w0 w : World) (x0 x1 c0 c1 : Value) : Prop where
  bel : Below w0.heap.size w0 w
  sz : w0.heap.size + 3 ≤ w.heap.size
  b1 : Bx w w0.heap.size #[x0, x1] 100
  b2 : Bx w (w0.heap.size + 1) #[.slice none 0 0, .slice none 0 0] 100
  b3 : Bx w (w0.heap.size + 1 + 1) #[c0, c1] 100
namespace SW
variable {w0 w w' : World} {x0 x1 c0 c1 : Value}
theorem new (w0 : World) (x0 x1 : Value) : SW w0 (((w0.alloc (.cells #[x0, x1] 100)).alloc (.cells #[.slice none 0 0, .slice none 0 0] 100)).alloc (.cells #[.slice none 0 0, .slice none 0 0] 100)) x0 x1 (.slice none 0 0) (.slice none 0 0) := by
  have h1 := below_box w0 (.cells #[x0, x1] 100)
  have h2 := below_box (w0.alloc (.cells #[x0, x1] 100)) (.cells #[.slice none 0 0, .slice none 0 0] 100)
  have h3 := below_box ((w0.alloc (.cells #[x0, x1] 100)).alloc (.cells #[.slice none 0 0, .slice none 0 0] 100)) (.cells #[.slice none 0 0, .slice none 0 0] 100)
  have z1 : (w0.alloc (.cells #[x0, x1] 100)).heap.size = w0.heap.size + 1 := by simp
  have z2 : ((w0.alloc (.cells #[x0, x1] 100)).alloc (.cells #[.slice none 0 0, .slice none 0 0] 100)).heap.size = w0.heap.size + 1 + 1 := by simp
  have q2 := Bx.new (w0.alloc (.cells #[x0, x1] 100)) #[.slice none 0 0, .slice none 0 0] 100
  have q3 := Bx.new ((w0.alloc (.cells #[x0, x1] 100)).alloc (.cells #[.slice none 0 0, .slice none 0 0] 100)) #[.slice none 0 0, .slice none 0 0] 100
  rw [z1] at q2
  rw [z2] at q3
  exact ⟨below_2 (below_2 h1 h2) h3, by simp, ((Bx.new w0 _ _).below h2).below h3, q2.below h3, q3⟩
theorem kept (h : SW w0 w x0 x1 c0 c1) {own : Option Nat} (hg : w.grownBy w' own) (ho : ∀ g, own = some g → w0.heap.size + 3 ≤ g) : SW w0 w' x0 x1 c0 c1 := by
  have hsz := h.sz
  have hs := hg.size
  have hk : ∀ k, k < w0.heap.size + 3 → w'.heap[k]? = w.heap[k]? := fun k hk => hg.block k (by omega) (fun e => by have := ho k e.symm; omega)
  exact ⟨h.bel.grown hg (by omega) (fun g hgo => by have := ho g hgo; omega), by omega, h.b1.keep (hk _ (by omega)), h.b2.keep (hk _ (by omega)), h.b3.keep (hk _ (by omega))⟩
theorem alloc (h : SW w0 w x0 x1 c0 c1) (o : Obj) : SW w0 (w.alloc o) x0 x1 c0 c1 := by
  have hb := below_box w o
  have hs := hb.size
  have hsz := h.sz
  exact ⟨h.bel.trans (hb.mono h.bel.size), by omega, h.b1.below hb, h.b2.below hb, h.b3.below hb⟩
theorem put0 (h : SW w0 w x0 x1 c0 c1) (v : Value) : SW w0 (w.setCell ⟨w0.heap.size + 1 + 1, 0, none⟩ v) x0 x1 v c1 := by
  have hsz := h.sz
  exact ⟨h.bel.setCell (by show w0.heap.size ≤ w0.heap.size + 1 + 1; omega) _, by simpa using hsz, h.b1.keep (Below.heap_setCell _ _ _ _ (by show w0.heap.size ≠ w0.heap.size + 1 + 1; omega)), h.b2.keep (Below.heap_setCell _ _ _ _ (by show w0.heap.size + 1 ≠ w0.heap.size + 1 + 1; omega)), h.b3.set 0⟩
theorem put1 (h : SW w0 w x0 x1 c0 c1) (v : Value) : SW w0 (w.setCell ⟨w0.heap.size + 1 + 1, 1, none⟩ v) x0 x1 c0 v := by
  have hsz := h.sz
  exact ⟨h.bel.setCell (by show w0.heap.size ≤ w0.heap.size + 1 + 1; omega) _, by simpa using hsz, h.b1.keep (Below.heap_setCell _ _ _ _ (by show w0.heap.size ≠ w0.heap.size + 1 + 1; omega)), h.b2.keep (Below.heap_setCell _ _ _ _ (by show w0.heap.size + 1 ≠ w0.heap.size + 1 + 1; omega)), h.b3.set 1⟩
end SW
/-- a row of the call's own is not touched by a cell of its boxes -/
theorem own_put {α : Type} {K : RowK α} {w : World} {N b0 i : Nat} {v u : Value} {l : List α} (h : Own1 K w b0 (fun j => j < N + 3) v l) : Own1 K (w.setCell ⟨N + 1 + 1, i, none⟩ u) b0 (fun j => j < N + 3) v l :=
  h.next ⟨fun k _ hz => Below.heap_setCell _ _ _ _ (fun e => hz (by have : k = N + 1 + 1 := e; show k < N + 3; omega)), fun _ hk => Or.inl hk⟩
def GivesW (w : World) (vs : List Pm) (ls : List ByteArray) (e' : Ending) (w' : World) : Prop :=
  ∃ p q p2 q2, e' = .returned (.agg #[.slice p vs.length q, .slice p2 ls.length q2]) ∧ PmsAt w' p vs ∧ StrsAt w' p2 ls ∧ (∀ g i, p = some ⟨g, i, none⟩ → w.heap.size ≤ g) ∧ (∀ g i, p2 = some ⟨g, i, none⟩ → w.heap.size ≤ g) ∧ Below w.heap.size w w'
set_option maxHeartbeats 4000000 in
set_option maxRecDepth 100000 in
theorem rwith_any (vs : List Pm) (ls : List ByteArray) (va : Option Addr) (vc : Nat) (la : Option Addr) (lc : Nat) (x : ByteArray) (t : Int) (b : Bool) (hv : vs.length ≤ 100000) (hl : ls.length ≤ 100000) (w : World) (hP : PmsAt w va vs) (hS : StrsAt w la ls) :
    Calls Tryd.prog 55 #[.agg #[.slice va vs.length vc, .slice la ls.length lc], .string x, .int .i64 t, .bool b] w (GivesW w (vs ++ [⟨x, t⟩]) (if b = true then ls ++ [x] else ls)) := by
  have hw := SW.new w (.slice va vs.length vc) (.slice la ls.length lc)
  have HW := Lib.hid hw
  have HZ : Hid ((((w.alloc (.cells #[.slice va vs.length vc, .slice la ls.length lc] 100)).alloc (.cells #[.slice none 0 0, .slice none 0 0] 100)).alloc (.cells #[.slice none 0 0, .slice none 0 0] 100)).heap.size = w.heap.size + 3) := by show _ = _; simp
  have HP := Lib.hid (fun w' (h : Below w.heap.size w w') => hP.below h)
  have HS := Lib.hid (fun w' (h : Below w.heap.size w w') => hS.below h)
  have LV : Hid (([] : List Pm).length + vs.length ≤ 1000000) := by show _ ≤ _; simp; omega
  have LS : Hid (([] : List ByteArray).length + ls.length ≤ 1000000) := by show _ ≤ _; simp; omega
  have HV := Lib.hid hv
  have HLs := Lib.hid hl
  obtain ⟨n, hn⟩ : ∃ n, vs.length = n := ⟨_, rfl⟩
  have HN := Lib.hid hn
  obtain ⟨m, hm⟩ : ∃ m, ls.length = m := ⟨_, rfl⟩
  have HM := Lib.hid hm
  rw [hn, hm] at HW HZ ⊢
  clear hn hm hP hS hw hv hl
  generalize hW3 : ((w.alloc (.cells #[.slice va n vc, .slice la m lc] 100)).alloc (.cells #[.slice none 0 0, .slice none 0 0] 100)).alloc (.cells #[.slice none 0 0, .slice none 0 0] 100) = W3 at HW HZ
  go_enter Tryd.func55, Tryd.ntmps55
  have d0 := HW.out.b1.cell 0
  have d1 := HW.out.b1.cell 1
  have d2 := HW.out.b3.cell 0
  have d3 := HW.out.b3.cell 1
  have d4 := HW.out.b3.free 0
  simp only [List.getElem?_toArray, List.getElem?_cons_zero, List.getElem?_cons_succ] at d0 d1 d2 d3
  cases b with
  | false =>
    go_wp2_with (at_builtin; first
    | (refine wpList_append_pms rfl (.tmp 11) (.tmp 13) rfl (w.heap.size + 3) (fun j => j < w.heap.size + 3) none 0 0 [] vs rfl rfl Own1.nil va n vc HN.out.symm rfl (HP.out _ HW.out.bel) LV.out (by rw [HZ.out]; exact Nat.le_refl _) (fun _ h => h) ?_; intro p4 q4 w4 hown4 hgrow4; have HO4 : Hid (Own1 kP w4 (w.heap.size + 3) (fun j => j < w.heap.size + 3) (.slice p4 vs.length q4) vs) := hown4; have HW4 := Lib.hid (HW.out.kept hgrow4 (fun g hg => by cases hg)); have a0 := HW4.out.b3.cell 0; have a1 := HW4.out.b3.cell 1; have a2 := HW4.out.b3.free 0; have a3 := HW4.out.b1.cell 1; simp only [List.getElem?_toArray, List.getElem?_cons_zero, List.getElem?_cons_succ] at a0 a1 a3; have HW4' := Lib.hid (HW4.out.put0 (.slice p4 vs.length q4)); have HO4' := Lib.hid (own_put (i := 0) (u := .slice p4 vs.length q4) HO4.out); rw [HN.out] at HW4' HO4' HO4; rw [Nat.zero_add]; clear hown4 hgrow4)
    | (refine kP.wpList rfl (.tmp 17) (.tmp 21) rfl (w.heap.size + 3) (.slice p4 n q4) vs rfl HO4'.out.row ⟨x, t⟩ _ rfl w4.heap.size rfl (by simp) (by have := HV.out; omega) HW4'.out.sz ?_; intro g5 c5 w5 hown5 hgrow5 hlie5; have HO5 := Lib.hid (HO4'.out.push (y := ⟨x, t⟩) trivial (fun k hk => Nat.lt_of_lt_of_le hk HW4'.out.sz) hown5 hgrow5 hlie5); have HW5 := Lib.hid ((HW4'.out.alloc _).kept hgrow5 (fun g hg => (HO4'.out.lt g hg).1)); have b0 := HW5.out.b3.cell 0; have b1 := HW5.out.b3.cell 1; have b2 := HW5.out.b3.free 0; have b3 := HW5.out.b1.cell 1; simp only [List.getElem?_toArray, List.getElem?_cons_zero, List.getElem?_cons_succ] at b0 b1 b3; clear hown5 hgrow5 hlie5; have HW5' := Lib.hid (HW5.out.put0 (.slice (some ⟨g5, 0, none⟩) (vs.length + 1) c5)); have HO5' := Lib.hid (own_put (i := 0) (u := .slice (some ⟨g5, 0, none⟩) (vs.length + 1) c5) HO5.out); rw [HN.out] at HW5' HO5' HO5 ⊢)
    | (refine wpList_append_strs rfl (.tmp 25) (.tmp 27) rfl (w5.setCell ⟨w.heap.size + 1 + 1, 0, none⟩ (.slice (some ⟨g5, 0, none⟩) (n + 1) c5)).heap.size (fun j => j < w.heap.size + 3) none 0 0 [] ls rfl rfl Own1.nil la m lc HM.out.symm rfl (HS.out _ HW5'.out.bel) LS.out (Nat.le_refl _) (fun k hk => Nat.lt_of_lt_of_le hk HW5'.out.sz) ?_; intro p6 q6 w6 hown6 hgrow6; have HO6 : Hid (Own1 kN w6 (w5.setCell ⟨w.heap.size + 1 + 1, 0, none⟩ (.slice (some ⟨g5, 0, none⟩) (n + 1) c5)).heap.size (fun j => j < w.heap.size + 3) (.slice p6 ls.length q6) ls) := hown6; have HW6 := Lib.hid (HW5'.out.kept hgrow6 (fun g hg => by cases hg)); have HT6 : Hid (∀ k, w.heap.size + 3 ≤ k → k < (w5.setCell ⟨w.heap.size + 1 + 1, 0, none⟩ (.slice (some ⟨g5, 0, none⟩) (n + 1) c5)).heap.size → w6.heap[k]? = (w5.setCell ⟨w.heap.size + 1 + 1, 0, none⟩ (.slice (some ⟨g5, 0, none⟩) (n + 1) c5)).heap[k]?) := (fun k _ hk => hgrow6.block k hk (fun e => by cases e)); have HG6 : Hid ((w5.setCell ⟨w.heap.size + 1 + 1, 0, none⟩ (.slice (some ⟨g5, 0, none⟩) (n + 1) c5)).heap.size ≤ w6.heap.size) := hgrow6.size; have k0 := HW6.out.b3.cell 0; have k1 := HW6.out.b3.cell 1; have k2 := HW6.out.b3.free 1; have e0 := HW6.out.b2.cell 0; have e1 := HW6.out.b2.cell 1; have e2 := HW6.out.b2.free 0; have e3 := HW6.out.b2.free 1; simp only [List.getElem?_toArray, List.getElem?_cons_zero, List.getElem?_cons_succ] at k0 k1 e0 e1; have HW6' := Lib.hid (HW6.out.put1 (.slice p6 ls.length q6)); have HO6' := Lib.hid (own_put (i := 1) (u := .slice p6 ls.length q6) HO6.out); rw [HM.out] at HW6' HO6' HO6; rw [Nat.zero_add]; clear hown6 hgrow6)
    | (refine kN.wpList rfl (.tmp 32) (.tmp 34) rfl (w5.setCell ⟨w.heap.size + 1 + 1, 0, none⟩ (.slice (some ⟨g5, 0, none⟩) (n + 1) c5)).heap.size (.slice p6 m q6) ls rfl HO6'.out.row x _ rfl w6.heap.size rfl (by simp) (by have := HLs.out; omega) (by have := HG6.out; simp only [World.size_setCell] at this ⊢; exact this) ?_; intro g7 c7 w7 hown7 hgrow7 hlie7; have HO7 := Lib.hid (HO6'.out.push (y := x) trivial (fun k hk => Nat.lt_of_lt_of_le hk HW6'.out.sz) hown7 hgrow7 hlie7); have HW7 := Lib.hid ((HW6'.out.alloc _).kept hgrow7 (fun g hg => Nat.le_trans HW5'.out.sz (HO6'.out.lt g hg).1)); have HT7 : Hid (∀ k, w.heap.size + 3 ≤ k → k < (w5.setCell ⟨w.heap.size + 1 + 1, 0, none⟩ (.slice (some ⟨g5, 0, none⟩) (n + 1) c5)).heap.size → w7.heap[k]? = (w5.setCell ⟨w.heap.size + 1 + 1, 0, none⟩ (.slice (some ⟨g5, 0, none⟩) (n + 1) c5)).heap[k]?) := (fun k h1 h2 => by have hg := HG6.out; have hs : (w6.setCell ⟨w.heap.size + 1 + 1, 1, none⟩ (.slice p6 m q6)).heap.size = w6.heap.size := (by simp); refine ((hgrow7.block k (by simp only [World.size_alloc]; omega) (fun e => by have := (HO6'.out.lt k e.symm).1; omega)).trans (Below.heap_alloc _ _ k (by omega))).trans ?_; rw [Below.heap_setCell _ _ _ _ (by show k ≠ w.heap.size + 1 + 1; omega)]; exact HT6.out k h1 h2); have k3 := HW7.out.b3.cell 0; have k4 := HW7.out.b3.cell 1; have k5 := HW7.out.b3.free 1; have e4 := HW7.out.b2.cell 0; have e5 := HW7.out.b2.cell 1; have e6 := HW7.out.b2.free 0; have e7 := HW7.out.b2.free 1; simp only [List.getElem?_toArray, List.getElem?_cons_zero, List.getElem?_cons_succ] at k3 k4 e4 e5; clear hown7 hgrow7 hlie7; rw [HM.out] at HO7 ⊢))
    have hq := HW6'.out.b2.set 0 (u := (.slice (some ⟨g5, 0, none⟩) (n + 1) c5))
    have q0 := hq.cell 0
    have q1 := (hq.set 1 (u := (.slice p6 m q6))).cell 1
    simp at q0 q1
    have HR6 : Hid (Own1 kN (w6.setCell ⟨w.heap.size + 1 + 1, 1, none⟩ (.slice p6 m q6)) (w5.setCell ⟨w.heap.size + 1 + 1, 0, none⟩ (.slice (some ⟨g5, 0, none⟩) (n + 1) c5)).heap.size (fun j => j < w.heap.size + 3) (.slice p6 ls.length q6) ls) := by show Own1 _ _ _ _ _ _; rw [HM.out]; exact HO6'.out
    have HT8 : Hid (∀ k, w.heap.size + 3 ≤ k → k < (w5.setCell ⟨w.heap.size + 1 + 1, 0, none⟩ (.slice (some ⟨g5, 0, none⟩) (n + 1) c5)).heap.size → (((w6.setCell ⟨w.heap.size + 1 + 1, 1, none⟩ (.slice p6 m q6)).setCell ⟨w.heap.size + 1, 0, none⟩ (.slice (some ⟨g5, 0, none⟩) (n + 1) c5)).setCell ⟨w.heap.size + 1, 1, none⟩ (.slice p6 m q6)).heap[k]? = (w5.setCell ⟨w.heap.size + 1 + 1, 0, none⟩ (.slice (some ⟨g5, 0, none⟩) (n + 1) c5)).heap[k]?) := fun k h1 h2 => by
      rw [Below.heap_setCell _ _ _ _ (by show k ≠ w.heap.size + 1; omega), Below.heap_setCell _ _ _ _ (by show k ≠ w.heap.size + 1; omega), Below.heap_setCell _ _ _ _ (by show k ≠ w.heap.size + 1 + 1; omega)]
      exact HT6.out k h1 h2
    refine bodyPost_ret (v := .agg #[(.slice (some ⟨g5, 0, none⟩) (n + 1) c5), (.slice p6 m q6)]) (by simp [results, Tryd.results55, go_sem, q0, q1]) rfl ?_
    have hl5 : (vs ++ [(⟨x, t⟩ : Pm)]).length = n + 1 := by rw [List.length_append, HN.out]; rfl
    have hr5 : Own1 kP (w5.setCell ⟨w.heap.size + 1 + 1, 0, none⟩ (.slice (some ⟨g5, 0, none⟩) (n + 1) c5)) (w.heap.size + 3) (fun j => j < w.heap.size + 3) (.slice (some ⟨g5, 0, none⟩) (vs ++ [(⟨x, t⟩ : Pm)]).length c5) (vs ++ [⟨x, t⟩]) := by rw [hl5]; exact HO5'.out
    have hlx : (ls).length = m := by rw [HM.out]
    show GivesW w (vs ++ [⟨x, t⟩]) (ls) _ _
    refine ⟨some ⟨g5, 0, none⟩, c5, p6, q6, by rw [hl5, hlx], own_pms (hr5.next (Z' := (fun j => j < w.heap.size + 3)) ⟨fun k hk hz => HT8.out k (Nat.le_of_not_lt hz) hk, fun _ h => Or.inl h⟩), ?_, (fun g i hg => by have := (HO5'.out.lt g (by injection hg with h; injection h with h; rw [h]; rfl)).1; omega), (fun g i hg => by have := (HR6.out.lt g (by rw [hg]; rfl)).1; have h2 := HW5'.out.sz; omega), ?_⟩
    · refine A.Own1.strs (HR6.out.next (Z' := (fun j => j < w.heap.size + 3)) ⟨fun k _ hz => ?_, fun _ h => Or.inl h⟩)
      have hne : k ≠ w.heap.size + 1 := fun e => hz (by show k < w.heap.size + 3; omega)
      rw [Below.heap_setCell _ _ _ _ hne, Below.heap_setCell _ _ _ _ hne]
    · exact (HW6'.out.bel.setCell (p := ⟨w.heap.size + 1, 0, none⟩) (Nat.le_succ _) _).setCell (p := ⟨w.heap.size + 1, 1, none⟩) (Nat.le_succ _) _
  | true =>
    go_wp2_with (at_builtin; first
    | (refine wpList_append_pms rfl (.tmp 11) (.tmp 13) rfl (w.heap.size + 3) (fun j => j < w.heap.size + 3) none 0 0 [] vs rfl rfl Own1.nil va n vc HN.out.symm rfl (HP.out _ HW.out.bel) LV.out (by rw [HZ.out]; exact Nat.le_refl _) (fun _ h => h) ?_; intro p4 q4 w4 hown4 hgrow4; have HO4 : Hid (Own1 kP w4 (w.heap.size + 3) (fun j => j < w.heap.size + 3) (.slice p4 vs.length q4) vs) := hown4; have HW4 := Lib.hid (HW.out.kept hgrow4 (fun g hg => by cases hg)); have a0 := HW4.out.b3.cell 0; have a1 := HW4.out.b3.cell 1; have a2 := HW4.out.b3.free 0; have a3 := HW4.out.b1.cell 1; simp only [List.getElem?_toArray, List.getElem?_cons_zero, List.getElem?_cons_succ] at a0 a1 a3; have HW4' := Lib.hid (HW4.out.put0 (.slice p4 vs.length q4)); have HO4' := Lib.hid (own_put (i := 0) (u := .slice p4 vs.length q4) HO4.out); rw [HN.out] at HW4' HO4' HO4; rw [Nat.zero_add]; clear hown4 hgrow4)
    | (refine kP.wpList rfl (.tmp 17) (.tmp 21) rfl (w.heap.size + 3) (.slice p4 n q4) vs rfl HO4'.out.row ⟨x, t⟩ _ rfl w4.heap.size rfl (by simp) (by have := HV.out; omega) HW4'.out.sz ?_; intro g5 c5 w5 hown5 hgrow5 hlie5; have HO5 := Lib.hid (HO4'.out.push (y := ⟨x, t⟩) trivial (fun k hk => Nat.lt_of_lt_of_le hk HW4'.out.sz) hown5 hgrow5 hlie5); have HW5 := Lib.hid ((HW4'.out.alloc _).kept hgrow5 (fun g hg => (HO4'.out.lt g hg).1)); have b0 := HW5.out.b3.cell 0; have b1 := HW5.out.b3.cell 1; have b2 := HW5.out.b3.free 0; have b3 := HW5.out.b1.cell 1; simp only [List.getElem?_toArray, List.getElem?_cons_zero, List.getElem?_cons_succ] at b0 b1 b3; clear hown5 hgrow5 hlie5; have HW5' := Lib.hid (HW5.out.put0 (.slice (some ⟨g5, 0, none⟩) (vs.length + 1) c5)); have HO5' := Lib.hid (own_put (i := 0) (u := .slice (some ⟨g5, 0, none⟩) (vs.length + 1) c5) HO5.out); rw [HN.out] at HW5' HO5' HO5 ⊢)
    | (refine wpList_append_strs rfl (.tmp 25) (.tmp 27) rfl (w5.setCell ⟨w.heap.size + 1 + 1, 0, none⟩ (.slice (some ⟨g5, 0, none⟩) (n + 1) c5)).heap.size (fun j => j < w.heap.size + 3) none 0 0 [] ls rfl rfl Own1.nil la m lc HM.out.symm rfl (HS.out _ HW5'.out.bel) LS.out (Nat.le_refl _) (fun k hk => Nat.lt_of_lt_of_le hk HW5'.out.sz) ?_; intro p6 q6 w6 hown6 hgrow6; have HO6 : Hid (Own1 kN w6 (w5.setCell ⟨w.heap.size + 1 + 1, 0, none⟩ (.slice (some ⟨g5, 0, none⟩) (n + 1) c5)).heap.size (fun j => j < w.heap.size + 3) (.slice p6 ls.length q6) ls) := hown6; have HW6 := Lib.hid (HW5'.out.kept hgrow6 (fun g hg => by cases hg)); have HT6 : Hid (∀ k, w.heap.size + 3 ≤ k → k < (w5.setCell ⟨w.heap.size + 1 + 1, 0, none⟩ (.slice (some ⟨g5, 0, none⟩) (n + 1) c5)).heap.size → w6.heap[k]? = (w5.setCell ⟨w.heap.size + 1 + 1, 0, none⟩ (.slice (some ⟨g5, 0, none⟩) (n + 1) c5)).heap[k]?) := (fun k _ hk => hgrow6.block k hk (fun e => by cases e)); have HG6 : Hid ((w5.setCell ⟨w.heap.size + 1 + 1, 0, none⟩ (.slice (some ⟨g5, 0, none⟩) (n + 1) c5)).heap.size ≤ w6.heap.size) := hgrow6.size; have k0 := HW6.out.b3.cell 0; have k1 := HW6.out.b3.cell 1; have k2 := HW6.out.b3.free 1; have e0 := HW6.out.b2.cell 0; have e1 := HW6.out.b2.cell 1; have e2 := HW6.out.b2.free 0; have e3 := HW6.out.b2.free 1; simp only [List.getElem?_toArray, List.getElem?_cons_zero, List.getElem?_cons_succ] at k0 k1 e0 e1; have HW6' := Lib.hid (HW6.out.put1 (.slice p6 ls.length q6)); have HO6' := Lib.hid (own_put (i := 1) (u := .slice p6 ls.length q6) HO6.out); rw [HM.out] at HW6' HO6' HO6; rw [Nat.zero_add]; clear hown6 hgrow6)
    | (refine kN.wpList rfl (.tmp 32) (.tmp 34) rfl (w5.setCell ⟨w.heap.size + 1 + 1, 0, none⟩ (.slice (some ⟨g5, 0, none⟩) (n + 1) c5)).heap.size (.slice p6 m q6) ls rfl HO6'.out.row x _ rfl w6.heap.size rfl (by simp) (by have := HLs.out; omega) (by have := HG6.out; simp only [World.size_setCell] at this ⊢; exact this) ?_; intro g7 c7 w7 hown7 hgrow7 hlie7; have HO7 := Lib.hid (HO6'.out.push (y := x) trivial (fun k hk => Nat.lt_of_lt_of_le hk HW6'.out.sz) hown7 hgrow7 hlie7); have HW7 := Lib.hid ((HW6'.out.alloc _).kept hgrow7 (fun g hg => Nat.le_trans HW5'.out.sz (HO6'.out.lt g hg).1)); have HT7 : Hid (∀ k, w.heap.size + 3 ≤ k → k < (w5.setCell ⟨w.heap.size + 1 + 1, 0, none⟩ (.slice (some ⟨g5, 0, none⟩) (n + 1) c5)).heap.size → w7.heap[k]? = (w5.setCell ⟨w.heap.size + 1 + 1, 0, none⟩ (.slice (some ⟨g5, 0, none⟩) (n + 1) c5)).heap[k]?) := (fun k h1 h2 => by have hg := HG6.out; have hs : (w6.setCell ⟨w.heap.size + 1 + 1, 1, none⟩ (.slice p6 m q6)).heap.size = w6.heap.size := (by simp); refine ((hgrow7.block k (by simp only [World.size_alloc]; omega) (fun e => by have := (HO6'.out.lt k e.symm).1; omega)).trans (Below.heap_alloc _ _ k (by omega))).trans ?_; rw [Below.heap_setCell _ _ _ _ (by show k ≠ w.heap.size + 1 + 1; omega)]; exact HT6.out k h1 h2); have k3 := HW7.out.b3.cell 0; have k4 := HW7.out.b3.cell 1; have k5 := HW7.out.b3.free 1; have e4 := HW7.out.b2.cell 0; have e5 := HW7.out.b2.cell 1; have e6 := HW7.out.b2.free 0; have e7 := HW7.out.b2.free 1; simp only [List.getElem?_toArray, List.getElem?_cons_zero, List.getElem?_cons_succ] at k3 k4 e4 e5; clear hown7 hgrow7 hlie7; rw [HM.out] at HO7 ⊢))
    have hl7 : (ls ++ [x]).length = m + 1 := by rw [List.length_append, HM.out]; rfl
    have HR6 : Hid (Own1 kN (w7.setCell ⟨w.heap.size + 1 + 1, 1, none⟩ (.slice (some ⟨g7, 0, none⟩) (m + 1) c7)) (w5.setCell ⟨w.heap.size + 1 + 1, 0, none⟩ (.slice (some ⟨g5, 0, none⟩) (n + 1) c5)).heap.size (fun j => j < w.heap.size + 3) (.slice (some ⟨g7, 0, none⟩) (ls ++ [x]).length c7) (ls ++ [x])) := by show Own1 _ _ _ _ _ _; rw [hl7]; exact own_put (i := 1) (u := .slice (some ⟨g7, 0, none⟩) (m + 1) c7) HO7.out
    have HW7' := Lib.hid (HW7.out.put1 (.slice (some ⟨g7, 0, none⟩) (m + 1) c7))
    have hq := HW7'.out.b2.set 0 (u := (.slice (some ⟨g5, 0, none⟩) (n + 1) c5))
    have q0 := hq.cell 0
    have q1 := (hq.set 1 (u := (.slice (some ⟨g7, 0, none⟩) (m + 1) c7))).cell 1
    simp at q0 q1
    have HT8 : Hid (∀ k, w.heap.size + 3 ≤ k → k < (w5.setCell ⟨w.heap.size + 1 + 1, 0, none⟩ (.slice (some ⟨g5, 0, none⟩) (n + 1) c5)).heap.size → (((w7.setCell ⟨w.heap.size + 1 + 1, 1, none⟩ (.slice (some ⟨g7, 0, none⟩) (m + 1) c7)).setCell ⟨w.heap.size + 1, 0, none⟩ (.slice (some ⟨g5, 0, none⟩) (n + 1) c5)).setCell ⟨w.heap.size + 1, 1, none⟩ (.slice (some ⟨g7, 0, none⟩) (m + 1) c7)).heap[k]? = (w5.setCell ⟨w.heap.size + 1 + 1, 0, none⟩ (.slice (some ⟨g5, 0, none⟩) (n + 1) c5)).heap[k]?) := fun k h1 h2 => by
      rw [Below.heap_setCell _ _ _ _ (by show k ≠ w.heap.size + 1; omega), Below.heap_setCell _ _ _ _ (by show k ≠ w.heap.size + 1; omega), Below.heap_setCell _ _ _ _ (by show k ≠ w.heap.size + 1 + 1; omega)]
      exact HT7.out k h1 h2
    refine bodyPost_ret (v := .agg #[(.slice (some ⟨g5, 0, none⟩) (n + 1) c5), (.slice (some ⟨g7, 0, none⟩) (m + 1) c7)]) (by simp [results, Tryd.results55, go_sem, q0, q1]) rfl ?_
    have hl5 : (vs ++ [(⟨x, t⟩ : Pm)]).length = n + 1 := by rw [List.length_append, HN.out]; rfl
    have hr5 : Own1 kP (w5.setCell ⟨w.heap.size + 1 + 1, 0, none⟩ (.slice (some ⟨g5, 0, none⟩) (n + 1) c5)) (w.heap.size + 3) (fun j => j < w.heap.size + 3) (.slice (some ⟨g5, 0, none⟩) (vs ++ [(⟨x, t⟩ : Pm)]).length c5) (vs ++ [⟨x, t⟩]) := by rw [hl5]; exact HO5'.out
    have hlx : (ls ++ [x]).length = (m + 1) := by rw [List.length_append, HM.out]; rfl
    show GivesW w (vs ++ [⟨x, t⟩]) (ls ++ [x]) _ _
    refine ⟨some ⟨g5, 0, none⟩, c5, (some ⟨g7, 0, none⟩), c7, by rw [hl5, hlx], own_pms (hr5.next (Z' := (fun j => j < w.heap.size + 3)) ⟨fun k hk hz => HT8.out k (Nat.le_of_not_lt hz) hk, fun _ h => Or.inl h⟩), ?_, (fun g i hg => by have := (HO5'.out.lt g (by injection hg with h; injection h with h; rw [h]; rfl)).1; omega), (fun g i hg => by have := (HR6.out.lt g (by rw [hg]; rfl)).1; have h2 := HW5'.out.sz; omega), ?_⟩
    · refine A.Own1.strs (HR6.out.next (Z' := (fun j => j < w.heap.size + 3)) ⟨fun k _ hz => ?_, fun _ h => Or.inl h⟩)
      have hne : k ≠ w.heap.size + 1 := fun e => hz (by show k < w.heap.size + 3; omega)
      rw [Below.heap_setCell _ _ _ _ hne, Below.heap_setCell _ _ _ _ hne]
    · exact (HW7'.out.bel.setCell (p := ⟨w.heap.size + 1, 0, none⟩) (Nat.le_succ _) _).setCell (p := ⟨w.heap.size + 1, 1, none⟩) (Nat.le_succ _) _
end Go.Proofs.YtkjefigebdbkaaaDoor.Y
