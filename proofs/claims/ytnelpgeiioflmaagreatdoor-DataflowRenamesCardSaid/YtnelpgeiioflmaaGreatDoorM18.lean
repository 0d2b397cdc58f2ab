/-
  The laws of layer 11: the law package's small functions, and what its examples have as answers.
  The laws of layer 11: lists of variables joined; variables that are added.
  The laws of layer 11: lists of names: which has a name, and a name more.
  The reference of layer 11: wrong, assign, operands: contracts.
  The reference of layer 11: operands: contract.
-/
import Derived.Test.YtnelpgeiioflmaaGreatDoorM16
import Derived.Test.YtnelpgeiioflmaaGreatDoorM17
import Derived.Test.YtnelpgeiioflmaaGreatDoorM14
import Derived.Deep.AppendLies
import Derived.Test.YtnelpgeiioflmaaGreatDoorSYCheck
import Derived.Test.YtnelpgeiioflmaaGreatDoorM03
namespace Go.Proofs.YtnelpgeiioflmaaGreatDoor.Y
open Go.RowKit
open L (Str isName prt size_len below_2 below_box ret_bool ret_int eql_eq bytes_eq)
open A (Ex St Pm Pr V arity vE vEs absent exV exO exV_mk Bx okE okEs cE cEs PmsAt StrsAt PrIn OkP prV prO names valE ExsAt ExAt StsAt StAt Bodies)

/-! ### the examples -/
def lf (o n : Int) (s : ByteArray) : Ex := .mk o n s []
def oneE : Ex := lf 1 1 ⟨#[]⟩
def xE : Ex := lf 3 0 ⟨#[120]⟩
def aT : Ex := lf 2 0 ⟨#[97]⟩
def e1 : Ex := .mk 20 0 ⟨#[]⟩ [xE]
def e2 : Ex := .mk 4 0 ⟨#[]⟩ [oneE, aT]
def e3 : Ex := .mk 4 0 ⟨#[]⟩ [xE, aT]
def x1 : Pm := ⟨⟨#[120]⟩, 1⟩
end Go.Proofs.YtnelpgeiioflmaaGreatDoor.Y
namespace Go.Proofs.YtnelpgeiioflmaaGreatDoor.Y
open Go.RowKit
open L (Str isName prt size_len below_2 below_box ret_bool ret_int eql_eq bytes_eq)
open A (Ex St Pm Pr V arity vE vEs absent exV exO exV_mk Bx okE okEs cE cEs PmsAt StrsAt PrIn OkP prV prO names valE ExsAt ExAt StsAt StAt Bodies RowK Own1 Stays)
open P (On off_of)

theorem run_append_0 {P : Program} (w : World) (t ty e : TypeId) (i : TypeInfo) (ht : P.underlying t = some (.slice e)) (hi : P.info? e = some i) (s : Option Addr) (n cap : Nat) (hle : n ≤ cap) (x : Option Addr) (c : Nat) :
    (Builtin.append_ #[t, t] ty #[.slice s n cap, .slice x 0 c]).run P w = .ok (.slice s n cap) w := by
  have hl : ∀ w', (Builtin.lenOf (.slice x 0 c)).run P w' = .ok 0 w' := fun _ => rfl
  have hc : (Builtin.firstCells i.size 0 (.slice x 0 c)).run P w = .ok #[] w := by
    cases x with
    | none => exact run_firstCells_none w i.size 0 0 c
    | some a => exact run_firstCells_some w i.size 0 a 0 c [] (by simp) (fun j u h => by simp at h)
  cases s <;> simp [Builtin.append_, run_underlying ht, sizeOf, typeInfo, hi, hle, hl, hc, storeCells]
theorem flat_get (l : List Pm) (j : Nat) (u : Value) (h : (kP.cs l)[j]? = some u) : ∃ k r, k < l.length ∧ r < 2 ∧ j = k * 2 + r := by
  have hlt := (List.getElem?_eq_some_iff.1 h).1
  rw [RowK.cs_len] at hlt
  have hs : kP.size = 2 := rfl
  rw [hs] at hlt
  exact ⟨j / 2, j % 2, by omega, by omega, by omega⟩
theorem pms_news {w : World} {b i : Nat} {l : List Pm} (h : ∀ j (h : j < l.length), w.cell? ⟨b, i + j * 2, none⟩ = some (.string l[j].name) ∧ w.cell? ⟨b, i + j * 2 + 1, none⟩ = some (.int .i64 l[j].ty)) :
    ∀ j u, (kP.cs l)[j]? = some u → w.cell? ((⟨b, i, none⟩ : Addr).add j) = some u := by
  intro j u hu
  obtain ⟨k, r, hk, hr, rfl⟩ := flat_get l j u hu
  have hg := RowK.cs_get kP l k hk r hr
  have hs : kP.size = 2 := rfl
  rw [hs] at hg
  rw [hg] at hu
  obtain ⟨h0, h1⟩ := h k hk
  rw [WideShapes.add_plain]
  have h2 : r = 0 ∨ r = 1 := by omega
  rcases h2 with rfl | rfl
  · rw [Nat.add_zero, h0]; exact hu
  · rw [← Nat.add_assoc, h1]; exact hu
theorem wpList_append_pms {w : World} {ops : Array Oper} {rest : List Oper} {o : Oper} {a : Act} {Q : Exit → Act → World → Prop} (hgd : o.guard = none) (s x : Operand)
    (ho : o.op = .call { callee := .builtin .append, args := #[s, x], argTypes := #[22, 22] })
    (base : Nat) (Z : Nat → Prop) (p : Option Addr) (n q : Nat) (l m : List Pm) (hn : n = l.length) (hs : a.eval s = .slice p n q) (hown : Own1 kP w base Z (.slice p l.length q) l)
    (xa : Option Addr) (mm xc : Nat) (hmm : mm = m.length) (hx : a.eval x = .slice xa mm xc) (hP : PmsAt w xa m) (hl : l.length + m.length ≤ 1000000) (hbase : base ≤ w.heap.size) (hZ : ∀ k, Z k → k < base)
    (h : ∀ p' q' w', Own1 kP w' base Z (.slice p' (l ++ m).length q') (l ++ m) → w.grownBy w' (Value.slice p l.length q).ownBlock → Go.wpList Tryz.prog ops Q rest (a.put o.dst (.slice p' (n + mm) q')) w') :
    Go.wpList Tryz.prog ops Q (o :: rest) a w := by
  subst hn hmm
  obtain ⟨i0, hi, hz0, hz1, hz2⟩ := A.info_parts3 kP.info
  rcases hP with rfl | ⟨b, i, rfl, hc⟩
  · obtain ⟨p2, q2, hv, hle⟩ := hown.shape
    injection hv with h1 h2 h3
    subst h1 h3
    refine wpList_plain hgd fun K hK' => ?_
    have hrun := run_append_0 (P := Tryz.prog) w 22 o.type 49 i0 kP.und hi p l.length q hle xa xc
    unfold Oper.wp
    simp [execOp, ho, resolve, invoke, builtin, hs, hx, hrun, Result.andThen]
    refine hK' _ _ ?_
    have := h p q w (by rw [List.append_nil]; exact hown) (World.grownBy.refl _ _)
    simpa using this
  · by_cases h0 : m.length = 0
    · obtain rfl : m = [] := List.eq_nil_of_length_eq_zero h0
      obtain ⟨p2, q2, hv, hle⟩ := hown.shape
      injection hv with h1 h2 h3
      subst h1 h3
      refine wpList_plain hgd fun K hK' => ?_
      have hrun := run_append_0 (P := Tryz.prog) w 22 o.type 49 i0 kP.und hi p l.length q hle (some ⟨b, i, none⟩) xc
      unfold Oper.wp
      simp [execOp, ho, resolve, invoke, builtin, hs, hx, hrun, Result.andThen]
      refine hK' _ _ ?_
      have := h p q w (by rw [List.append_nil]; exact hown) (World.grownBy.refl _ _)
      simpa using this
    · refine wpList_append_lies _ hgd s x kP.t ho base kP.e i0 _ kP.size kP.bytes kP.und hi hz0 hz1 hz2 kP.zs kP.pos (.slice p l.length q) l.length (kP.cs l) hs hown.row ⟨b, i, none⟩ m.length xc (kP.cs m) hx (RowK.cs_len kP m) (pms_news hc) ?_ (by omega) (by unfold maxLen; omega) ?_ hbase w.heap.size rfl ?_
      · intro u hu
        obtain ⟨y, hy, hu⟩ := List.mem_flatMap.1 hu
        exact kP.one y u hu
      · show (l.length + m.length) * 24 ≤ _
        omega
      · intro g cap w' h1 h2 h3 _
        refine h (some ⟨g, 0, none⟩) cap w' ⟨?_, fun g' hg hz => ?_, fun _ _ => trivial⟩ h2
        · rw [List.length_append, RowK.cs_app]; exact h1
        · have hk2 : g = g' := by injection hg
          subst hk2
          have := hZ g hz
          rcases h3 with h3 | h3
          · have := (hown.lt g h3).1; omega
          · omega
end Go.Proofs.YtnelpgeiioflmaaGreatDoor.Y
namespace Go.Proofs.YtnelpgeiioflmaaGreatDoor.Y
open Go.RowKit
open L (Str isName prt size_len below_2 below_box ret_bool ret_int eql_eq bytes_eq)
open A (Ex St Pm Pr V arity vE vEs absent exV exO exV_mk Bx okE okEs cE cEs PmsAt StrsAt PrIn OkP prV prO names valE ExsAt ExAt StsAt StAt Bodies RowK Own1 Stays)
open P (On off_of)

theorem isIn_drop {x : ByteArray} {l : List ByteArray} {k : Nat} (hk : k < l.length) : isIn x (l.drop k) = (decide (l[k] = x) || isIn x (l.drop (k + 1))) := by
  rw [List.drop_eq_getElem_cons hk]; unfold isIn; rw [List.any_cons]
end Go.Proofs.YtnelpgeiioflmaaGreatDoor.Y
namespace Go.Proofs.YtnelpgeiioflmaaGreatDoor.Y
open Go.RowKit
open L (Str isName prt size_len below_2 below_box ret_bool ret_int eql_eq bytes_eq)
open A (Ex St Pm Pr V arity vE vEs absent exV exO exV_mk Bx okE okEs cE cEs PmsAt StrsAt)

set_option maxHeartbeats 2000000 in
set_option maxRecDepth 100000 in
theorem rwrong_any (o a b : Int) (w : World) : Calls Tryz.prog 69 #[.int .i64 o, .int .i64 a, .int .i64 b] w fun e' w' => e' = .returned (.bool (wrong o a b)) ∧ w' = w := by
  obtain ⟨R, hR⟩ : ∃ R, wrong o a b = R := ⟨_, rfl⟩
  rw [hR]
  unfold wrong at hR
  have HR := Lib.hid hR
  clear hR
  by_cases h3 : o = 3
  · subst h3
    by_cases ha : a = 2
    · subst ha
      have HV : Hid (decide (b = 3) = R) := by show _ = _; rw [← HR.out]; rfl
      by_cases hb : b = 3
      · subst hb
        have HV2 : Hid (true = R) := HV.out
        go_enter Tryz.func69, Tryz.ntmps69
        go_wp2_with fail
        go_ret
        exact ⟨ret_bool HV2.out, rfl⟩
      · have e1 : (b == 3) = false := beq_eq_false_iff_ne.2 hb
        have HV2 : Hid (false = R) := by show _ = _; rw [← HV.out, decide_eq_false hb]
        clear hb
        go_enter Tryz.func69, Tryz.ntmps69
        go_wp2_with fail
        go_ret
        exact ⟨ret_bool HV2.out, rfl⟩
    · have e1 : (a != 2) = true := bne_iff_ne.2 ha
      have HV : Hid (true = R) := by show _ = _; rw [← HR.out, decide_eq_false ha]; rfl
      clear ha
      go_enter Tryz.func69, Tryz.ntmps69
      go_wp2_with fail
      go_ret
      exact ⟨ret_bool HV.out, rfl⟩
  have b3 : (o == 3) = false := beq_eq_false_iff_ne.2 h3
  by_cases h4 : o = 4
  · subst h4
    have HV : Hid ((a != 2) = R) := by
      show _ = _
      rw [← HR.out, if_neg (by decide), if_pos rfl]
      by_cases h : a = 2
      · rw [h]; rfl
      · rw [decide_eq_false h, bne_iff_ne.2 h]; rfl
    go_enter Tryz.func69, Tryz.ntmps69
    go_wp2_with fail
    go_ret
    exact ⟨ret_bool HV.out, rfl⟩
  have b4 : (o == 4) = false := beq_eq_false_iff_ne.2 h4
  by_cases h5 : o = 5
  · subst h5
    have HV : Hid ((a != 3) = R) := by
      show _ = _
      rw [← HR.out, if_neg (by decide), if_neg (by decide), if_pos rfl]
      by_cases h : a = 3
      · rw [h]; rfl
      · rw [decide_eq_false h, bne_iff_ne.2 h]; rfl
    go_enter Tryz.func69, Tryz.ntmps69
    go_wp2_with fail
    go_ret
    exact ⟨ret_bool HV.out, rfl⟩
  have b5 : (o == 5) = false := beq_eq_false_iff_ne.2 h5
  by_cases h6 : o = 6
  · subst h6
    by_cases ha : a = 1
    · subst ha
      have HV : Hid ((b != 1) = R) := by
        show _ = _
        rw [← HR.out, if_neg (by decide), if_neg (by decide), if_neg (by decide), if_pos rfl]
        by_cases h : b = 1
        · rw [h]; rfl
        · rw [decide_eq_false h, bne_iff_ne.2 h]; rfl
      go_enter Tryz.func69, Tryz.ntmps69
      go_wp2_with fail
      go_ret
      exact ⟨ret_bool HV.out, rfl⟩
    · have e1 : (a != 1) = true := bne_iff_ne.2 ha
      have HV : Hid (true = R) := by
        show _ = _
        rw [← HR.out, if_neg (by decide), if_neg (by decide), if_neg (by decide), if_pos rfl, decide_eq_false ha]; rfl
      clear ha
      go_enter Tryz.func69, Tryz.ntmps69
      go_wp2_with fail
      go_ret
      exact ⟨ret_bool HV.out, rfl⟩
  have b6 : (o == 6) = false := beq_eq_false_iff_ne.2 h6
  by_cases h7 : o = 7
  · subst h7
    have HV : Hid ((a == 3) = R) := by
      show _ = _
      rw [← HR.out, if_neg (by decide), if_neg (by decide), if_neg (by decide), if_neg (by decide), if_pos rfl]; rfl
    go_enter Tryz.func69, Tryz.ntmps69
    go_wp2_with fail
    go_ret
    exact ⟨ret_bool HV.out, rfl⟩
  have b7 : (o == 7) = false := beq_eq_false_iff_ne.2 h7
  have HV : Hid (false = R) := by
    show _ = _
    rw [← HR.out, if_neg h3, if_neg h4, if_neg h5, if_neg h6, if_neg h7]
  clear h3 h4 h5 h6 h7
  go_enter Tryz.func69, Tryz.ntmps69
  go_wp2_with fail
  go_ret
  exact ⟨ret_bool HV.out, rfl⟩
set_option maxHeartbeats 2000000 in
set_option maxRecDepth 100000 in
theorem rassign_any (vs : List Pm) (ls : List ByteArray) (va : Option Addr) (vc : Nat) (la : Option Addr) (lc : Nat) (x : ByteArray) (t : Int) (hv : vs.length ≤ 1000000000000000) (hl : ls.length ≤ 1000000000000000) (w : World) (hP : PmsAt w va vs) (hS : StrsAt w la ls) :
    Calls Tryz.prog 68 #[.agg #[.slice va vs.length vc, .slice la ls.length lc], .string x, .int .i64 t] w fun e' w' => e' = .returned (.int .i64 (asgR vs ls x t)) ∧ Below w.heap.size w w' := by
  have hb := below_box w (.cells #[.slice va vs.length vc, .slice la ls.length lc] 64)
  have hbx := Bx.new w #[.slice va vs.length vc, .slice la ls.length lc] 64
  have HC := Lib.hid (rlookup_any vs va vc x hv _ (hP.below hb))
  have HS := Lib.hid (hS.below hb)
  have HX := Lib.hid hbx
  have HB := Lib.hid hb
  obtain ⟨R, hR⟩ : ∃ R, asgR vs ls x t = R := ⟨_, rfl⟩
  rw [hR]
  unfold asgR at hR
  have HR := Lib.hid hR
  generalize tyV (look vs) x = y at *
  obtain ⟨y1, y2⟩ := y
  obtain ⟨m, hm⟩ : ∃ m, ls.length = m := ⟨_, rfl⟩
  have HL := Lib.hid hm
  rw [hm] at hl HC HS HX HB ⊢
  have x0 := HX.out.cell 0
  have x1 := HX.out.cell 1
  simp only [List.getElem?_toArray, List.getElem?_cons_zero, List.getElem?_cons_succ] at x0 x1
  clear hb hbx hR hm hP hS
  go_enter Tryz.func68, Tryz.ntmps68
  go_wp2_with fail
  refine HC.out.mono ?_; rintro e' w2 ⟨rfl, rfl⟩
  by_cases h0 : y2 = 0
  case neg =>
    have b1 : (y2 != 0) = true := bne_iff_ne.2 h0
    have HV : Hid (y2 = R) := by show _ = _; rw [← HR.out, if_pos h0]
    clear h0
    go_wp2_with fail
    go_ret
    exact ⟨ret_int HV.out, HB.out⟩
  subst h0
  have HI : Hid (isIn x (ls.drop 0) = isIn x ls) := rfl
  go_wp2_with fail
  go_loopw [9] (fun s9 wr => ∃ k : Nat, k ≤ m ∧ s9 = .int .i64 k ∧ Hid (isIn x (ls.drop k) = isIn x ls) ∧ wr = w.alloc (.cells #[.slice va vs.length vc, .slice la m lc] 64)) (fun s9 _ => m - (intOf s9).toNat)
  case atStart => exact ⟨0, Nat.zero_le _, rfl, HI, rfl⟩
  case round =>
    obtain ⟨k, hk, rfl, HXk, rfl⟩ := hrel
    by_cases hlt : k < m
    · have hlx : k < ls.length := by rw [HL.out]; exact hlt
      obtain ⟨b3, i3, rfl, hcc⟩ := HS.out.open hlx
      have f0 := hcc k hlx
      have hx := HXk.out
      rw [isIn_drop hlx] at hx
      generalize ls[k] = q at f0 hx
      have hb := A.bytes_dec q x
      clear hcc
      by_cases hn : q = x
      · rw [decide_eq_true hn] at hb hx
        have HV : Hid (7 = R) := by
          show _ = _
          rw [← HR.out, if_neg (fun z => z rfl), if_pos (by rw [← hx]; rfl)]
        clear hn hx
        go_wp2_with fail
        go_ret
        exact ⟨ret_int HV.out, HB.out⟩
      · rw [decide_eq_false hn] at hb hx
        have HX2 : Hid (isIn x (ls.drop (k + 1)) = isIn x ls) := hx
        clear hn hx
        go_wp2_with fail
        go_roundw
        case rel => exact ⟨k + 1, by omega, by go_num, HX2, trivial⟩
        case measure => simp [intOf]; omega
    · have hx := HXk.out
      rw [List.drop_of_length_le (by have := HL.out; omega)] at hx
      have hR2 := HR.out
      rw [if_neg (fun z => z rfl), ← hx, if_neg (by unfold isIn; simp)] at hR2
      by_cases ht : t = y1
      · subst ht
        have HV : Hid (0 = R) := by show _ = _; rw [← hR2, if_neg (fun z => z rfl)]
        clear hx hR2
        go_wp2_with fail
        go_ret
        exact ⟨ret_int HV.out, HB.out⟩
      · have b2 : (t != y1) = true := bne_iff_ne.2 ht
        have HV : Hid (10 = R) := by show _ = _; rw [← hR2, if_pos ht]
        clear hx hR2 ht
        go_wp2_with fail
        go_ret
        exact ⟨ret_int HV.out, HB.out⟩
end Go.Proofs.YtnelpgeiioflmaaGreatDoor.Y
namespace Go.Proofs.YtnelpgeiioflmaaGreatDoor.Y
open Go.RowKit
open L (Str isName prt size_len below_2 below_box ret_bool ret_int eql_eq bytes_eq)
open A (Ex St Pm Pr V arity vE vEs absent exV exO exV_mk Bx okE okEs cE cEs PmsAt StrsAt)

def stF (s : St) (a1 : Option Addr) (c1 : Nat) (a2 : Option Addr) (c2 : Nat) (a3 : Option Addr) (c3 : Nat) (a4 : Option Addr) (c4 : Nat) : Array Value :=
  #[.int .i64 s.op, .string s.name, .int .i64 s.mx, .int .i64 s.a.op, .int .i64 s.a.n, .string s.a.s, .slice a1 s.a.args.length c1, .int .i64 s.b.op, .int .i64 s.b.n, .string s.b.s, .slice a2 s.b.args.length c2, .slice a3 s.body.length c3, .slice a4 s.els.length c4]
set_option maxHeartbeats 4000000 in
set_option maxRecDepth 100000 in
theorem roperands_any (vs : List Pm) (va : Option Addr) (vc : Nat) (la : Option Addr) (ln lc : Nat) (s : St) (a1 : Option Addr) (c1 : Nat) (a2 : Option Addr) (c2 : Nat) (a3 : Option Addr) (c3 : Nat) (a4 : Option Addr) (c4 : Nat) (hv : vs.length ≤ 1000000000000000) (w : World)
    (hoa : okE s.a) (hob : okE s.b) (hP : PmsAt w va vs) (hA : A.Kids w a1 s.a.args) (hB : A.Kids w a2 s.b.args) :
    Calls Tryz.prog 67 #[.agg #[.slice va vs.length vc, .slice la ln lc], .agg (stF s a1 c1 a2 c2 a3 c3 a4 c4)] w
      fun e' w' => e' = .returned (.tuple #[.int .i64 (opsR vs s.op s.a s.b).1, .int .i64 (opsR vs s.op s.a s.b).2.1, .int .i64 (opsR vs s.op s.a s.b).2.2]) ∧ Below w.heap.size w w' := by
  have hb1 := below_box w (.cells #[.slice va vs.length vc, .slice la ln lc] 64)
  have hb2 := below_box (w.alloc (.cells #[.slice va vs.length vc, .slice la ln lc] 64)) (.cells (stF s a1 c1 a2 c2 a3 c3 a4 c4) 44)
  have hz : (w.alloc (.cells #[.slice va vs.length vc, .slice la ln lc] 64)).heap.size = w.heap.size + 1 := by simp
  have hbx1 := (Bx.new w #[.slice va vs.length vc, .slice la ln lc] 64).below hb2
  have hbx2 := Bx.new (w.alloc (.cells #[.slice va vs.length vc, .slice la ln lc] 64)) (stF s a1 c1 a2 c2 a3 c3 a4 c4) 44
  rw [hz] at hbx2
  have hb := below_2 hb1 hb2
  have HX1 := Lib.hid hbx1
  have HX2 := Lib.hid hbx2
  have HB := Lib.hid hb
  have HA : Hid (∀ w', Below w.heap.size w w' → Calls Tryz.prog 89 #[exV s.a a1 c1, .slice va vs.length vc] w' fun e' w'' => e' = .returned (.tuple #[.int .i64 (ofE (look vs) s.a).1, .int .i64 (ofE (look vs) s.a).2]) ∧ Below w'.heap.size w' w'') :=
    fun w' h => rOf_any s.a a1 c1 vs va vc hoa hv w' (hA.below h) (hP.below h)
  have HBb : Hid (∀ w', Below w.heap.size w w' → Calls Tryz.prog 89 #[exV s.b a2 c2, .slice va vs.length vc] w' fun e' w'' => e' = .returned (.tuple #[.int .i64 (ofE (look vs) s.b).1, .int .i64 (ofE (look vs) s.b).2]) ∧ Below w'.heap.size w' w'') :=
    fun w' h => rOf_any s.b a2 c2 vs va vc hob hv w' (hB.below h) (hP.below h)
  obtain ⟨R, hR⟩ : ∃ R, opsR vs s.op s.a s.b = R := ⟨_, rfl⟩
  rw [hR]
  unfold opsR at hR
  generalize ofE (look vs) s.a = y at *
  generalize ofE (look vs) s.b = z at *
  have HR := Lib.hid hR
  obtain ⟨y1, y2⟩ := y
  obtain ⟨z1, z2⟩ := z
  unfold stF at *
  unfold exV at HA HBb
  have x0 := HX1.out.cell 0
  have g0 := HX2.out.cell 0
  have g3 := HX2.out.cell 3
  have g4 := HX2.out.cell 4
  have g5 := HX2.out.cell 5
  have g6 := HX2.out.cell 6
  simp only [List.getElem?_toArray, List.getElem?_cons_zero, List.getElem?_cons_succ] at x0 g0 g3 g4 g5 g6
  clear hb1 hb2 hz hbx1 hbx2 hb hoa hob hP hA hB hR hv
  generalize s.op = o at *
  by_cases h8 : o = 8
  · subst h8
    have HV : Hid ((0, 0, 0) = R) := by show _ = _; rw [← HR.out, if_pos rfl]
    go_enter Tryz.func67, Tryz.ntmps67
    go_wp2_with fail
    refine bodyPost_ret (v := .tuple #[.int .i64 0, .int .i64 0, .int .i64 0]) (by simp [results, Tryz.results67, go_sem]) rfl ?_
    exact ⟨by rw [← HV.out], HB.out⟩
  have b8 : (o == 8) = false := beq_eq_false_iff_ne.2 h8
  go_enter Tryz.func67, Tryz.ntmps67
  go_wp2_with fail
  refine (HA.out _ HB.out).mono ?_; rintro e' w2 ⟨rfl, hb2⟩
  have HB2 := Lib.hid (below_2 HB.out hb2)
  have hx2 := HX2.out.below hb2
  have hx1 := HX1.out.below hb2
  have x0' := hx1.cell 0
  have g0' := hx2.cell 0
  have g7 := hx2.cell 7
  have g8 := hx2.cell 8
  have g9 := hx2.cell 9
  have g10 := hx2.cell 10
  simp only [List.getElem?_toArray, List.getElem?_cons_zero, List.getElem?_cons_succ] at x0' g0' g7 g8 g9 g10
  clear hx1 hx2 hb2 x0 g0 g3 g4 g5 g6
  by_cases hy : y2 = 0
  case neg =>
    have b1 : (y2 != 0) = true := bne_iff_ne.2 hy
    have HV : Hid ((y1, 0, y2) = R) := by show _ = _; rw [← HR.out, if_neg h8, if_pos (Or.inl hy)]
    clear hy h8
    go_wp2_with fail
    refine bodyPost_ret (v := .tuple #[.int .i64 y1, .int .i64 0, .int .i64 y2]) (by simp [results, Tryz.results67, go_sem]) rfl ?_
    exact ⟨by rw [← HV.out], HB2.out⟩
  subst hy
  by_cases h3 : o = 3
  · subst h3
    have HV : Hid ((y1, z1, z2) = R) := by show _ = _; rw [← HR.out, if_neg h8, if_neg (fun h => h.elim (fun z => z rfl) (fun z => z.1 rfl))]
    clear h8
    go_wp2_with fail
    refine (HBb.out _ HB2.out).mono ?_; rintro e' w3 ⟨rfl, hb3⟩
    have HB3 := Lib.hid (below_2 HB2.out hb3)
    clear hb3
    go_wp2_with fail
    refine bodyPost_ret (v := .tuple #[.int .i64 y1, .int .i64 z1, .int .i64 z2]) (by simp [results, Tryz.results67, go_sem]) rfl ?_
    exact ⟨by rw [← HV.out], HB3.out⟩
  have e3 : (o != 3) = true := bne_iff_ne.2 h3
  by_cases h6 : o = 6
  · subst h6
    have HV : Hid ((y1, z1, z2) = R) := by show _ = _; rw [← HR.out, if_neg h8, if_neg (fun h => h.elim (fun z => z rfl) (fun z => z.2 rfl))]
    clear h8 h3
    go_wp2_with fail
    refine (HBb.out _ HB2.out).mono ?_; rintro e' w3 ⟨rfl, hb3⟩
    have HB3 := Lib.hid (below_2 HB2.out hb3)
    clear hb3
    go_wp2_with fail
    refine bodyPost_ret (v := .tuple #[.int .i64 y1, .int .i64 z1, .int .i64 z2]) (by simp [results, Tryz.results67, go_sem]) rfl ?_
    exact ⟨by rw [← HV.out], HB3.out⟩
  have e6 : (o != 6) = true := bne_iff_ne.2 h6
  have HV : Hid ((y1, 0, 0) = R) := by show _ = _; rw [← HR.out, if_neg h8, if_pos (Or.inr ⟨h3, h6⟩)]
  clear h8 h3 h6
  go_wp2_with fail
  refine bodyPost_ret (v := .tuple #[.int .i64 y1, .int .i64 0, .int .i64 0]) (by simp [results, Tryz.results67, go_sem]) rfl ?_
  exact ⟨by rw [← HV.out], HB2.out⟩
end Go.Proofs.YtnelpgeiioflmaaGreatDoor.Y
