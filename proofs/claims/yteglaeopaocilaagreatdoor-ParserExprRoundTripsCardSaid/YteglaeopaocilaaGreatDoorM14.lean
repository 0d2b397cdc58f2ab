/-
  The program's walk of layer 8: walkField, walkStmts: contracts, whatever step is called for each node.
  The program's function walk of layer 8, for each function value that it is called with: what walk leaves is what the steps leave, node by node.
  What the program's functions of layer 8 return: Nodes, Depth: contracts.
  What the program's functions of layer 8 return: fillsOthers, stmtError: contracts.
  What the program's function stmtError of layer 8 returns: its contract.
-/
import Derived.Test.YteglaeopaocilaaGreatDoorM13
import Derived.Deep.Cut
namespace Go.Proofs.YteglaeopaocilaaGreatDoor.A
open Go.RowKit
open L (Str isName prt size_len below_2 below_box ret_bool ret_int eql_eq bytes_eq)

theorem StAt.parts {w : World} {s : St} {b i : Nat} (h : StAt w s b i) : ExAt w s.a b (i + 3) ∧ ExAt w s.b b (i + 7) ∧ (∃ a c, w.cell? ⟨b, i + 11, none⟩ = some (.slice a s.body.length c) ∧ Bodies w a s.body) ∧ (∃ a c, w.cell? ⟨b, i + 12, none⟩ = some (.slice a s.els.length c) ∧ Bodies w a s.els) := by
  obtain ⟨o, nm, mx, a, b', bd, el⟩ := s
  rw [StAt] at h
  obtain ⟨h0, h1, h2, h3, h4, ⟨a5, c5, h5, g5⟩, ⟨a6, c6, h6, g6⟩⟩ := h
  exact ⟨h3, h4, ⟨a5, c5, h5, g5⟩, ⟨a6, c6, h6, g6⟩⟩
theorem Cell1.moved {N : Nat} {v : Value} {w w' : World} (h : Cell1 N v w) (hk : w'.heap[N]? = w.heap[N]?) : Cell1 N v w' :=
  ⟨by
    have h1 := h.lt
    have h2 : w.heap[N]? = some w.heap[N] := Array.getElem?_eq_getElem h1
    rw [h2] at hk
    exact (Array.getElem?_eq_some_iff.1 hk).1, (World.cell?_of_block (w := w) hk).trans h.cell, (World.frozen?_of_block (w := w) hk).trans h.free⟩
theorem Cell1.moved2 {N : Nat} {v : Value} {w w' : World} (h : Cell1 N v w) (hk : w'.heap[N]? = w.heap[N]?) : Cell1 N v w' := h.moved hk
/-- the step of walk: what holds while it goes on (true), and where it ends (false) -/
structure StepW {σ : Type} (p1 p2 : Addr) (g : σ → U → σ × Bool) (w0 : World) (I : Bool → σ → World → Prop) : Prop where
  call : ∀ (s : σ) (u : U) (ps pe : Option Addr) (w : World), I true s w → Below w0.heap.size w0 w → UAt w0 u ps pe → UOk u →
    Calls Tryz.prog 73 #[nodeV ps pe u.d, .pointer (some p1), .pointer (some p2)] w fun e w' => e = .returned (.bool (g s u).2) ∧ I (g s u).2 (g s u).1 w' ∧ Below w0.heap.size w w'
def GivesW1 {σ : Type} (w0 : World) (I : Bool → σ → World → Prop) (r : σ × Bool) (w : World) (e' : Ending) (w' : World) : Prop := e' = .returned (.bool r.2) ∧ I r.2 r.1 w' ∧ Below w0.heap.size w w'
section
variable {σ : Type} {g : σ → U → σ × Bool} {w0 : World} {I : Bool → σ → World → Prop} {p1 p2 : Addr}
def QWx (m : σ → Int) (p1 p2 : Addr) (g : σ → U → σ × Bool) (w0 : World) (I : Bool → σ → World → Prop) (e : Ex) : Prop := ∀ (d b i : Nat) (s : σ) (w : World), okE e → DB m s d → ExAt w0 e b i → I true s w → Below w0.heap.size w0 w →
  Calls Tryz.prog 57 #[.pointer (some ⟨b, i, none⟩), .int .i64 (d : Int), .func (Fn.func 73) #[] #[.pointer (some p1), .pointer (some p2)]] w fun e' w' => GivesW1 w0 I (run g s (nE e d)) w e' w'
set_option maxHeartbeats 4000000 in
set_option maxRecDepth 100000 in
theorem owalkExprW_any {m0 : σ → Int} {p1 p2 : Addr} (H : StepW p1 p2 g w0 I) (CN : Cn m0 g) : ∀ e, QWx m0 p1 p2 g w0 I e := by
  refine Ex.ind (P := QWx m0 p1 p2 g w0 I) ?_
  intro o n t l ih d b i s w hok hsz hat hI hb0
  have HC := Lib.hid (H.call s (.ex (.mk o n t l) d) none (some ⟨b, i, none⟩) w hI hb0 ⟨b, i, rfl, rfl, hat⟩ ⟨hok, hsz.lt⟩)
  have hd : d ≤ 1000000 := hsz.lt
  have hdn := fun h => CN.down (u := .ex (.mk o n t l) d) hsz h
  obtain ⟨_, hl, hoks⟩ := okE_open hok
  obtain ⟨a, c, hf, hK⟩ := hat.four
  have HK : Hid (Kids w0 a l) := hK
  have HF : Hid (w0.cell? ⟨b, i + 3, none⟩ = some (.slice a l.length c)) := hf.k3
  have hblt := hat.lt
  have HIH := Lib.hid ih
  have HOK := Lib.hid hoks
  have HB0 := Lib.hid hb0
  have HCN := Lib.hid CN
  rw [nE, run_cons]
  obtain ⟨⟨s1, y⟩, hg⟩ : ∃ r, g s (.ex (.mk o n t l) d) = r := ⟨_, rfl⟩
  rw [hg] at HC hdn ⊢
  have HDN := Lib.hid hdn
  simp only [nodeV, U.d] at HC
  clear hg hok hsz hat hf hK ih hoks hb0 hI hdn CN
  cases y
  · simp only [Bool.false_eq_true, if_false]
    go_enter Tryz.func57, Tryz.ntmps57
    go_wp2_with fail
    refine HC.out.mono ?_; rintro e w1 ⟨rfl, hI1, hb1⟩
    have HI1 := Lib.hid hI1
    have HB1 := Lib.hid hb1
    clear hI1 hb1
    go_wp2_with fail
    go_ret
    exact ⟨rfl, HI1.out, HB1.out⟩
  · simp only [if_true]
    obtain ⟨R, hR⟩ : ∃ R, run g s1 (nEs l (d + 1)) = R := ⟨_, rfl⟩
    rw [hR]
    have HR : Hid (run g s1 (nEs (l.drop 0) (d + 1)) = R) := hR
    obtain ⟨m, hm⟩ : ∃ m, l.length = m := ⟨_, rfl⟩
    have HL := Lib.hid hm
    rw [hm] at HF hl
    clear hR hm
    go_enter Tryz.func57, Tryz.ntmps57
    go_wp2_with fail
    refine HC.out.mono ?_; rintro e w1 ⟨rfl, hI1, hb1⟩
    have HI1 := Lib.hid hI1
    have HB1 := Lib.hid hb1
    have k3 := ((HB0.out.trans hb1).cell hblt).trans HF.out
    clear hI1 hb1
    go_wp2_with fail
    go_loopw [19] (fun s19 wr => ∃ (k : Nat) (sk : σ), k ≤ m ∧ s19 = .int .i64 k ∧ Hid (DB m0 sk (d + 1)) ∧ Hid (run g sk (nEs (l.drop k) (d + 1)) = R) ∧ Hid (I true sk wr) ∧ Hid (Below w0.heap.size w wr)) (fun s19 _ => m - (intOf s19).toNat)
    case atStart => exact ⟨0, s1, Nat.zero_le _, rfl, HDN.out (by trivial), HR, HI1, HB1⟩
    case round =>
      obtain ⟨k, sk, hk, rfl, HD, HX, HI, HB⟩ := hrel
      have hbr := HB0.out.trans HB.out
      by_cases hlt : k < m
      · have hlx : k < l.length := by rw [HL.out]; exact hlt
        have hx := HX.out
        rw [nEs_drop hlx, run_app] at hx
        have f3 := (hbr.cell hblt).trans HF.out
        obtain ⟨b2, i2, rfl, hat⟩ := HK.out.open hlx
        have HY := Lib.hid (HIH.out k hlx (d + 1) b2 (i2 + k * 4) sk wr (HOK.out.get k hlx) HD.out hat HI.out hbr)
        have HDk := Lib.hid (fun h => HCN.out.on (l := nE (l[k]'hlx) (d + 1)) HD.out h)
        simp only [Int.natCast_add, Int.natCast_one] at HY
        generalize run g sk (nE l[k] (d + 1)) = r at HY hx HDk
        obtain ⟨s2, y⟩ := r
        clear hat hbr
        cases y
        · simp only [Bool.false_eq_true, if_false] at hx
          have HV := Lib.hid hx
          clear hx
          go_wp2_with fail
          refine HY.out.mono ?_; rintro e w2 ⟨rfl, hI2, hb2⟩
          have HI2 := Lib.hid hI2
          have HB2 := Lib.hid (HB.out.trans hb2)
          clear hI2 hb2
          go_wp2_with fail
          go_ret
          exact ⟨ret_bool (by rw [← HV.out]), by rw [← HV.out]; exact HI2.out, HB2.out⟩
        · simp only [if_true] at hx
          have HN := Lib.hid hx
          clear hx
          go_wp2_with fail
          refine HY.out.mono ?_; rintro e w2 ⟨rfl, hI2, hb2⟩
          have HI2 := Lib.hid hI2
          have HB2 := Lib.hid (HB.out.trans hb2)
          clear hI2 hb2
          go_wp2_with fail
          go_roundw
          case rel => exact ⟨k + 1, s2, by omega, by go_num, HDk.out (by trivial), HN, HI2, HB2⟩
          case measure => simp [intOf]; omega
      · have HV : Hid (R = (sk, true)) := by
          show _ = _
          rw [← HX.out, List.drop_of_length_le (by rw [HL.out]; omega), nEs, run_nil]
        go_wp2_with fail
        go_ret
        exact ⟨ret_bool (by rw [HV.out]), by rw [HV.out]; exact HI.out, HB.out⟩

set_option maxHeartbeats 2000000 in
set_option maxRecDepth 100000 in
theorem owalkField_any {m0 : σ → Int} (H : StepW p1 p2 g w0 I) (CN : Cn m0 g) (e : Ex) (b i : Nat) (s : σ) (w : World) (hok : okE e) (hsz : DB m0 s 1) (hat : ExAt w0 e b i) (hI : I true s w) (hb0 : Below w0.heap.size w0 w) :
    Calls Tryz.prog 131 #[.pointer (some ⟨b, i, none⟩), .func (Fn.func 73) #[] #[.pointer (some p1), .pointer (some p2)]] w fun e' w' => GivesW1 w0 I (run g s (nR e)) w e' w' := by
  obtain ⟨a, c, hf, _⟩ := (hat.below hb0).four
  have HA := Lib.hid (oabsent_any e b i a c w hf)
  have HC := Lib.hid (owalkExprW_any H CN e 1 b i s w hok hsz hat hI hb0)
  have HI := Lib.hid hI
  unfold nR
  by_cases hv : absent e = true
  · rw [hv] at HA
    rw [if_pos hv, run_nil]
    clear hI hb0 hat hf hok hsz hv HC
    go_enter Tryz.func131, Tryz.ntmps131
    go_wp2_with fail
    refine HA.out.mono ?_; rintro e' w1 ⟨rfl, rfl⟩
    go_wp2_with fail
    go_ret
    exact ⟨rfl, HI.out, Below.refl _ _⟩
  · rw [if_neg hv]
    rw [Bool.eq_false_iff.2 hv] at HA
    simp only [show ((1 : Nat) : Int) = 1 from rfl] at HC
    generalize run g s (nE e 1) = r at HC ⊢
    clear hI hb0 hat hf hok hsz hv
    go_enter Tryz.func131, Tryz.ntmps131
    go_wp2_with fail
    refine HA.out.mono ?_; rintro e' w1 ⟨rfl, rfl⟩
    go_wp2_with fail
    refine HC.out.mono ?_; rintro e' w1 ⟨rfl, h1, h2⟩
    have H1 := Lib.hid h1
    have H2 := Lib.hid h2
    clear h1 h2
    go_wp2_with fail
    go_ret
    exact ⟨rfl, H1.out, H2.out⟩
def QS (m : σ → Int) (p1 p2 : Addr) (g : σ → U → σ × Bool) (w0 : World) (I : Bool → σ → World → Prop) (l : List St) : Prop := ∀ (a : Option Addr) (c d : Nat) (s : σ) (w : World), okB l → l.length ≤ 1000000000000000 → DB m s d → 1 ≤ d → Bodies w0 a l → I true s w → Below w0.heap.size w0 w →
  Calls Tryz.prog 72 #[.slice a l.length c, .int .i64 (d : Int), .func (Fn.func 73) #[] #[.pointer (some p1), .pointer (some p2)]] w fun e' w' => GivesW1 w0 I (run g s (nB l d)) w e' w'
set_option maxHeartbeats 8000000 in
set_option maxRecDepth 100000 in
theorem owalkStmts_any {m0 : σ → Int} (H : StepW p1 p2 g w0 I) (CN : Cn m0 g) : ∀ l, QS m0 p1 p2 g w0 I l := by
  refine body_ind fun l ih => ?_
  intro a c d s w hok hl hsz hd1 hK hI hb0
  have HK := Lib.hid hK
  have HIH := Lib.hid ih
  have HOK := Lib.hid hok
  have HB0 := Lib.hid hb0
  have HI0 := Lib.hid hI
  have HH := Lib.hid H
  have hd : d ≤ 1000000 := hsz.lt
  have HDz := Lib.hid hsz
  have HCN := Lib.hid CN
  obtain ⟨R, hR⟩ : ∃ R, run g s (nB l d) = R := ⟨_, rfl⟩
  rw [hR]
  have HR : Hid (run g s (nB (l.drop 0) d) = R) := hR
  obtain ⟨m, hm⟩ : ∃ m, l.length = m := ⟨_, rfl⟩
  have HL := Lib.hid hm
  rw [hm] at hl ⊢
  clear hR hm hK ih hok hb0 hI hsz H CN
  go_enter Tryz.func72, Tryz.ntmps72
  go_wp2_with fail
  go_loopw [12] (fun s12 wr => ∃ (k : Nat) (sk : σ), k ≤ m ∧ s12 = .int .i64 k ∧ Hid (DB m0 sk d) ∧ Hid (run g sk (nB (l.drop k) d) = R) ∧ Hid (I true sk wr) ∧ Hid (Below w0.heap.size w wr)) (fun s12 _ => m - (intOf s12).toNat)
  case atStart => exact ⟨0, s, Nat.zero_le _, rfl, HDz, HR, HI0, Below.refl _ _⟩
  case round =>
    obtain ⟨k, sk, hk, rfl, HD, HX, HI, HB⟩ := hrel
    by_cases hlt : k < m
    · have hlx : k < l.length := by rw [HL.out]; exact hlt
      have hx := HX.out
      rw [nB_drop hlx, run_app, nS_parts, run_cons] at hx
      obtain ⟨b2, i2, rfl, hat⟩ := HK.out.open hlx
      have ho := okS_open (HOK.out.get k hlx)
      have ho2 := HOK.out.get k hlx
      obtain ⟨q1, q2⟩ := HIH.out k hlx
      generalize l[k] = t at hat ho ho2 q1 q2 hx
      obtain ⟨hA, hBb, ⟨a3, c3, e3, hK3⟩, ⟨a4, c4, e4, hK4⟩⟩ := hat.parts
      have hblt := hat.lt
      have HC1 := Lib.hid (HH.out.call sk (.st t d) (some ⟨b2, i2 + k * 13, none⟩) none wr HI.out (HB0.out.trans HB.out) ⟨b2, i2 + k * 13, rfl, rfl, hat⟩ ⟨ho2, hd⟩)
      have HDn := Lib.hid (fun h => HCN.out.down (u := .st t d) HD.out h)
      have HC2 := Lib.hid (fun s1 w1 (hz : DB m0 s1 (d + 1)) h1 h2 => owalkField_any HH.out HCN.out t.a b2 (i2 + k * 13 + 3) s1 w1 ho.a (hz.up (by omega)) hA h1 h2)
      have HC3 := Lib.hid (fun s1 w1 (hz : DB m0 s1 (d + 1)) h1 h2 => owalkField_any HH.out HCN.out t.b b2 (i2 + k * 13 + 7) s1 w1 ho.b (hz.up (by omega)) hBb h1 h2)
      have HC4 := Lib.hid (fun s1 w1 (hz : DB m0 s1 (d + 1)) h1 h2 => q1 a3 c3 (d + 1) s1 w1 ho.body ho.bodyLen hz (by omega) hK3 h1 h2)
      have HC5 := Lib.hid (fun s1 w1 (hz : DB m0 s1 (d + 1)) h1 h2 => q2 a4 c4 (d + 1) s1 w1 ho.els ho.elsLen hz (by omega) hK4 h1 h2)
      have HE3 := Lib.hid e3
      have HE4 := Lib.hid e4
      simp only [Int.natCast_add, Int.natCast_one, nodeV, U.d] at HC1 HC4 HC5
      clear hat ho ho2 q1 q2 hA hBb hK3 hK4 e3 e4
      generalize g sk (.st t d) = r1 at HC1 hx HDn
      obtain ⟨s1, y1⟩ := r1
      cases y1
      · simp only [Bool.false_eq_true, if_false] at hx
        have HV := Lib.hid hx
        clear hx
        go_wp2_with fail
        refine HC1.out.mono ?_; rintro e w1 ⟨rfl, hI1, hb1⟩
        have HI1 := Lib.hid hI1
        have HB1 := Lib.hid (HB.out.trans hb1)
        clear hI1 hb1
        go_wp2_with fail
        go_ret
        exact ⟨ret_bool (by rw [← HV.out]), by rw [← HV.out]; exact HI1.out, HB1.out⟩
      simp only [if_true] at hx
      rw [run_app] at hx
      go_wp2_with fail
      refine HC1.out.mono ?_; rintro e w1 ⟨rfl, hI1, hb1⟩
      have hB1 := HB.out.trans hb1
      have HZ1 := Lib.hid (HDn.out (by trivial))
      have HZ2 := Lib.hid (fun h => HCN.out.on (l := nR t.a) HZ1.out h)
      have hD2 := HC2.out s1 w1 HZ1.out hI1 (HB0.out.trans hB1)
      have HB1 := Lib.hid hB1
      clear hI1 hb1 hB1
      generalize run g s1 (nR t.a) = r2 at hD2 hx HZ2
      have HD2 := Lib.hid hD2
      clear hD2
      obtain ⟨s2, y2⟩ := r2
      cases y2
      · simp only [Bool.false_eq_true, if_false] at hx
        have HV := Lib.hid hx
        clear hx
        go_wp2_with fail
        refine HD2.out.mono ?_; rintro e w2 ⟨rfl, hI2, hb2⟩
        have HI2 := Lib.hid hI2
        have HB2 := Lib.hid (HB1.out.trans hb2)
        clear hI2 hb2
        go_wp2_with fail
        go_ret
        exact ⟨ret_bool (by rw [← HV.out]), by rw [← HV.out]; exact HI2.out, HB2.out⟩
      simp only [if_true] at hx
      rw [run_app] at hx
      go_wp2_with fail
      refine HD2.out.mono ?_; rintro e w2 ⟨rfl, hI2, hb2⟩
      have hB2 := HB1.out.trans hb2
      have HZ2 := Lib.hid (HZ2.out (by trivial))
      have HZ3 := Lib.hid (fun h => HCN.out.on (l := nR t.b) HZ2.out h)
      have hD3 := HC3.out s2 w2 HZ2.out hI2 (HB0.out.trans hB2)
      have HB2 := Lib.hid hB2
      clear hI2 hb2 hB2
      generalize run g s2 (nR t.b) = r3 at hD3 hx HZ3
      have HD3 := Lib.hid hD3
      clear hD3
      obtain ⟨s3, y3⟩ := r3
      cases y3
      · simp only [Bool.false_eq_true, if_false] at hx
        have HV := Lib.hid hx
        clear hx
        go_wp2_with fail
        refine HD3.out.mono ?_; rintro e w3 ⟨rfl, hI3, hb3⟩
        have HI3 := Lib.hid hI3
        have HB3 := Lib.hid (HB2.out.trans hb3)
        clear hI3 hb3
        go_wp2_with fail
        go_ret
        exact ⟨ret_bool (by rw [← HV.out]), by rw [← HV.out]; exact HI3.out, HB3.out⟩
      simp only [if_true] at hx
      rw [run_app] at hx
      go_wp2_with fail
      refine HD3.out.mono ?_; rintro e w3 ⟨rfl, hI3, hb3⟩
      have hB3 := HB2.out.trans hb3
      have HZ3 := Lib.hid (HZ3.out (by trivial))
      have HZ4 := Lib.hid (fun h => HCN.out.on (l := nB t.body (d + 1)) HZ3.out h)
      have hD4 := HC4.out s3 w3 HZ3.out hI3 (HB0.out.trans hB3)
      have e3 := ((HB0.out.trans hB3).cell hblt).trans HE3.out
      have HB3 := Lib.hid hB3
      clear hI3 hb3 hB3
      generalize run g s3 (nB t.body (d + 1)) = r4 at hD4 hx HZ4
      generalize t.body.length = m3 at hD4 e3
      have HD4 := Lib.hid hD4
      clear hD4
      obtain ⟨s4, y4⟩ := r4
      cases y4
      · simp only [Bool.false_eq_true, if_false] at hx
        have HV := Lib.hid hx
        clear hx
        go_wp2_with fail
        refine HD4.out.mono ?_; rintro e w4 ⟨rfl, hI4, hb4⟩
        have HI4 := Lib.hid hI4
        have HB4 := Lib.hid (HB3.out.trans hb4)
        clear hI4 hb4
        go_wp2_with fail
        go_ret
        exact ⟨ret_bool (by rw [← HV.out]), by rw [← HV.out]; exact HI4.out, HB4.out⟩
      simp only [if_true] at hx
      go_wp2_with fail
      refine HD4.out.mono ?_; rintro e w4 ⟨rfl, hI4, hb4⟩
      have hB4 := HB3.out.trans hb4
      have HZ4 := Lib.hid (HZ4.out (by trivial))
      have HZ5 := Lib.hid (fun h => HCN.out.on (l := nB t.els (d + 1)) HZ4.out h)
      have hD5 := HC5.out s4 w4 HZ4.out hI4 (HB0.out.trans hB4)
      have e4 := ((HB0.out.trans hB4).cell hblt).trans HE4.out
      have HB4 := Lib.hid hB4
      clear hI4 hb4 hB4
      generalize run g s4 (nB t.els (d + 1)) = r5 at hD5 hx HZ5
      generalize t.els.length = m4 at hD5 e4
      have HD5 := Lib.hid hD5
      clear hD5
      obtain ⟨s5, y5⟩ := r5
      cases y5
      · simp only [Bool.false_eq_true, if_false] at hx
        have HV := Lib.hid hx
        clear hx
        go_wp2_with fail
        refine HD5.out.mono ?_; rintro e w5 ⟨rfl, hI5, hb5⟩
        have HI5 := Lib.hid hI5
        have HB5 := Lib.hid (HB4.out.trans hb5)
        clear hI5 hb5
        go_wp2_with fail
        go_ret
        exact ⟨ret_bool (by rw [← HV.out]), by rw [← HV.out]; exact HI5.out, HB5.out⟩
      simp only [if_true] at hx
      have HN := Lib.hid hx
      clear hx
      go_wp2_with fail
      refine HD5.out.mono ?_; rintro e w5 ⟨rfl, hI5, hb5⟩
      have HI5 := Lib.hid hI5
      have HB5 := Lib.hid (HB4.out.trans hb5)
      clear hI5 hb5
      go_wp2_with fail
      go_roundw
      case rel => exact ⟨k + 1, s5, by omega, by go_num, (HZ5.out (by trivial)).up (by omega), HN, HI5, HB5⟩
      case measure => simp [intOf]; omega
    · have HV : Hid (R = (sk, true)) := by
        show _ = _
        rw [← HX.out, List.drop_of_length_le (by rw [HL.out]; omega), nB, run_nil]
      go_wp2_with fail
      go_ret
      exact ⟨ret_bool (by rw [HV.out]), by rw [HV.out]; exact HI.out, HB.out⟩
end
end Go.Proofs.YteglaeopaocilaaGreatDoor.A
namespace Go.Proofs.YteglaeopaocilaaGreatDoor.A
open Go.RowKit
open L (Str isName prt size_len below_2 below_box ret_bool ret_int eql_eq bytes_eq)

/-- a step of walk, and what it keeps -/
structure VisV {σ : Type} (q1 : Addr) (g : σ → U → σ × Bool) (w0 : World) (J : Nat → (Nat → Prop) → σ → World → Prop) : Prop where
  call : ∀ (n : Nat) (X : Nat → Prop) (s : σ) (u : U) (ps pe : Option Addr) (w : World), n ≤ 400 → (∀ k, X k → w0.heap.size ≤ k ∧ k < w.heap.size) → J n X s w → Below w0.heap.size w0 w → UAt w0 u ps pe → UOk u →
    Calls Tryz.prog 35 #[nodeV ps pe u.d, .pointer (some q1)] w fun e w' => e = .returned (.bool (g s u).2) ∧ J (n + 1) X (g s u).1 w' ∧ Below w0.heap.size w w' ∧ (∀ k, X k → w'.heap[k]? = w.heap[k]?)
  keep : ∀ (n : Nat) (X : Nat → Prop) (s : σ) (w w' : World), J n X s w → w.heap.size ≤ w'.heap.size → (∀ k, k < w.heap.size → ¬ X k → w'.heap[k]? = w.heap[k]?) → J n X s w'
  wide : ∀ (n : Nat) (X : Nat → Prop) (s : σ) (w : World), J n (fun _ => False) s w → (∀ k, X k → w.heap.size ≤ k) → J n X s w
  narrow : ∀ (n : Nat) (X : Nat → Prop) (s : σ) (w : World), J n X s w → J n (fun _ => False) s w
set_option maxHeartbeats 2000000 in
set_option maxRecDepth 100000 in
theorem stepV {σ : Type} {q1 : Addr} {g : σ → U → σ × Bool} {w0 : World} {J : Nat → (Nat → Prop) → σ → World → Prop} (H : VisV q1 g w0 J) {N M : Nat} (hN : w0.heap.size ≤ N) (hM : w0.heap.size ≤ M) (hne : N ≠ M) :
    StepW ⟨N, 0, none⟩ ⟨M, 0, none⟩ (cnt g) w0 (fun b x w => Cell1 N (.int .i64 x.1) w ∧ Cell1 M (.func (Fn.func 35) #[] #[.pointer (some q1)]) w ∧ ∃ n : Nat, x.1 = (n : Int) ∧ (b = true → n ≤ 400) ∧ J n (fun k => k = N ∨ k = M) x.2 w) := by
  refine ⟨fun x u ps pe w hI hb0 hat hok => ?_⟩
  obtain ⟨z, s⟩ := x
  obtain ⟨hN1, hM1, n, hzn, hn, hJ⟩ := hI
  simp only at hN1 hM1 hJ hzn
  have hn4 := hn rfl
  obtain ⟨z2, hz⟩ : ∃ z2, IntKind.i64.wrap (z + 1) = z2 := ⟨_, rfl⟩
  have hz2 : z2 = ((n + 1 : Nat) : Int) := by rw [← hz, hzn, wrap_small (by omega) (by omega)]; rfl
  have hw := below_box w (.cells #[.pointer ps, .pointer pe, .int .i64 (u.d : Int)] 65)
  have hs : ((w.alloc (.cells #[.pointer ps, .pointer pe, .int .i64 (u.d : Int)] 65)).setCell ⟨N, 0, none⟩ (.int .i64 z2)).heap.size = (w.alloc (.cells #[.pointer ps, .pointer pe, .int .i64 (u.d : Int)] 65)).heap.size := by simp
  have hN2 := (hN1.later hw).set (u := .int .i64 z2)
  have hM2 : Cell1 M (.func (Fn.func 35) #[] #[.pointer (some q1)]) ((w.alloc (.cells #[.pointer ps, .pointer pe, .int .i64 (u.d : Int)] 65)).setCell ⟨N, 0, none⟩ (.int .i64 z2)) := by
    have h := hM1.later hw
    have hk : ((w.alloc (.cells #[.pointer ps, .pointer pe, .int .i64 (u.d : Int)] 65)).setCell ⟨N, 0, none⟩ (.int .i64 z2)).heap[M]? = (w.alloc (.cells #[.pointer ps, .pointer pe, .int .i64 (u.d : Int)] 65)).heap[M]? := Below.heap_setCell _ _ _ _ (by exact hne.symm)
    exact h.moved hk
  have hB2 := hb0.trans (((hw.mono hb0.size).setCell (p := ⟨N, 0, none⟩) hN (.int .i64 z2)))
  have hJ2 := H.keep n _ s w ((w.alloc (.cells #[.pointer ps, .pointer pe, .int .i64 (u.d : Int)] 65)).setCell ⟨N, 0, none⟩ (.int .i64 z2)) hJ (by rw [hs]; exact hw.size) (fun k hk hx => (Below.heap_setCell _ _ _ _ (fun e => hx (Or.inl e))).trans (hw.block k hk))
  have hC := H.call n _ s u ps pe _ hn4 (fun k hk => by
    rcases hk with rfl | rfl
    · exact ⟨hN, by rw [hs]; exact (hN1.later hw).lt⟩
    · exact ⟨hM, by rw [hs]; exact (hM1.later hw).lt⟩) hJ2 hB2 hat hok
  have HB : Hid (Below w0.heap.size w ((w.alloc (.cells #[.pointer ps, .pointer pe, .int .i64 (u.d : Int)] 65)).setCell ⟨N, 0, none⟩ (.int .i64 z2))) := (hw.mono hb0.size).setCell (p := ⟨N, 0, none⟩) hN (.int .i64 z2)
  have HV : Hid (cnt g (z, s) u = ((z2, (g s u).1), (g s u).2 && decide (z2 ≤ 400))) := by show _ = _; unfold cnt; simp only [hz]
  rw [HV.out]
  have HN2 := Lib.hid hN2
  have HM2 := Lib.hid hM2
  have HC := Lib.hid hC
  have hNw := hN1.later hw
  obtain ⟨n1, n2, n3⟩ := hNw
  have m2 := hM2.cell
  have n0 := hN1.cell
  have hnw : w.heap.size ≠ N := fun h => Nat.lt_irrefl _ (h ▸ hN1.lt)
  have hblk : ((w.alloc (.cells #[.pointer ps, .pointer pe, .int .i64 (u.d : Int)] 65)).setCell ⟨N, 0, none⟩ (.int .i64 z2)).heap[w.heap.size]? = (w.alloc (.cells #[.pointer ps, .pointer pe, .int .i64 (u.d : Int)] 65)).heap[w.heap.size]? := Below.heap_setCell _ _ _ _ (by exact hnw)
  have d0 := (World.cell?_of_block (a := ⟨w.heap.size, 0, none⟩) hblk).trans (show _ = some (.pointer ps) by go_simp)
  have d1 := (World.cell?_of_block (a := ⟨w.heap.size, 1, none⟩) hblk).trans (show _ = some (.pointer pe) by go_simp)
  have d2 := (World.cell?_of_block (a := ⟨w.heap.size, 2, none⟩) hblk).trans (show _ = some (.int .i64 (u.d : Int)) by go_simp)
  unfold nodeV at *
  generalize g s u = r at HC ⊢
  obtain ⟨s2, y⟩ := r
  simp only at HC ⊢
  have HZ2 := Lib.hid hz2
  clear hw hs hN2 hM2 hB2 hJ2 hC hN1 hM1 hJ hz2 hzn hn HV hat hok hb0 hblk hnw
  cases y
  · go_enter Tryz.func73, Tryz.ntmps73
    go_wp2_with fail
    refine HC.out.mono ?_; rintro e' w2 ⟨rfl, hJ2, hb2, hx⟩
    have HI : Hid (Cell1 N (.int .i64 z2) w2 ∧ Cell1 M (.func (Fn.func 35) #[] #[.pointer (some q1)]) w2 ∧ ∃ n' : Nat, z2 = (n' : Int) ∧ (false = true → n' ≤ 400) ∧ J n' (fun k => k = N ∨ k = M) s2 w2) := ⟨HN2.out.moved2 (hx N (Or.inl rfl)), HM2.out.moved2 (hx M (Or.inr rfl)), n + 1, HZ2.out, (fun hb => by cases hb), hJ2⟩
    have HB2 := Lib.hid (HB.out.trans hb2)
    clear hJ2 hb2 hx
    go_wp2_with fail
    go_ret
    exact ⟨rfl, HI.out, HB2.out⟩
  · obtain ⟨t, ht⟩ : ∃ t, decide (z2 ≤ 400) = t := ⟨_, rfl⟩
    rw [ht]
    have HT := Lib.hid ht
    go_enter Tryz.func73, Tryz.ntmps73
    go_wp2_with fail
    refine HC.out.mono ?_; rintro e' w2 ⟨rfl, hJ2, hb2, hx⟩
    have HI : Hid (Cell1 N (.int .i64 z2) w2 ∧ Cell1 M (.func (Fn.func 35) #[] #[.pointer (some q1)]) w2 ∧ ∃ n' : Nat, z2 = (n' : Int) ∧ ((true && t) = true → n' ≤ 400) ∧ J n' (fun k => k = N ∨ k = M) s2 w2) := ⟨HN2.out.moved2 (hx N (Or.inl rfl)), HM2.out.moved2 (hx M (Or.inr rfl)), n + 1, HZ2.out, (fun hb => by have := HT.out; rw [Bool.true_and] at hb; rw [hb] at this; have h4 := of_decide_eq_true this; have h5 := HZ2.out; omega), hJ2⟩
    have HB2 := Lib.hid (HB.out.trans hb2)
    have n4 := HI.out.1.cell
    clear hJ2 hb2 hx
    go_wp2_with fail
    go_ret
    exact ⟨rfl, HI.out, HB2.out⟩
set_option maxHeartbeats 2000000 in
set_option maxRecDepth 100000 in
theorem owalkV_any {σ : Type} {q1 : Addr} {g : σ → U → σ × Bool} {w0 : World} {J : Nat → (Nat → Prop) → σ → World → Prop} (H : VisV q1 g w0 J) (p : Pr) (a1 : Option Addr) (c1 : Nat) (a2 : Option Addr) (c2 : Nat) (hok : okB p.body) (hl : p.body.length ≤ 1000000000000000) (hK : Bodies w0 a2 p.body)
    (s : σ) (w : World) (hJ : J 0 (fun _ => False) s w) (hb0 : Below w0.heap.size w0 w) :
    Calls Tryz.prog 34 #[prV p a1 c1 a2 c2, .func (Fn.func 35) #[] #[.pointer (some q1)]] w fun e' w' => e' = .returned (.tuple #[]) ∧ (∃ n', J n' (fun _ => False) (run g s (walkU p)).1 w') ∧ Below w0.heap.size w w' := by
  have hz := hb0.size
  have hw := below_2 (below_2 (below_box w (prO p a1 c1 a2 c2)) (below_box _ (.cells #[.func (Fn.func 35) #[] #[.pointer (some q1)]] 67))) (below_box _ (.cells #[.int .i64 0] 3))
  have hst := stepV H (N := w.heap.size + 2) (M := w.heap.size + 1) (by omega) (by omega) (by omega)
  have hJ2 := H.keep 0 _ s w (((w.alloc (prO p a1 c1 a2 c2)).alloc (.cells #[.func (Fn.func 35) #[] #[.pointer (some q1)]] 67)).alloc (.cells #[.int .i64 0] 3)) (H.wide 0 (fun k => k = w.heap.size + 2 ∨ k = w.heap.size + 1) s w hJ (fun k hk => by omega)) hw.size (fun k hk _ => hw.block k hk)
  have hN : Cell1 (w.heap.size + 2) (.int .i64 0) (((w.alloc (prO p a1 c1 a2 c2)).alloc (.cells #[.func (Fn.func 35) #[] #[.pointer (some q1)]] 67)).alloc (.cells #[.int .i64 0] 3)) := cell1_at (by simp)
  have hM : Cell1 (w.heap.size + 1) (.func (Fn.func 35) #[] #[.pointer (some q1)]) (((w.alloc (prO p a1 c1 a2 c2)).alloc (.cells #[.func (Fn.func 35) #[] #[.pointer (some q1)]] 67)).alloc (.cells #[.int .i64 0] 3)) := (cell1_at (by simp)).later (below_box _ _)
  have hB : Below w0.heap.size w _ := hw.mono hz
  have hC := owalkStmts_any hst (cn_cnt g) p.body a2 c2 1 (0, s) _ hok hl ⟨Int.le_refl 0, (by decide : (0 : Int) ≤ 400), (by decide : (1 : Int) ≤ 0 + 1)⟩ (Nat.le_refl 1) hK ⟨hN, hM, 0, rfl, fun _ => by omega, hJ2⟩ (hb0.trans hB)
  have HRW := Lib.hid (run_walk g s p)
  rw [← HRW.out]
  generalize run (cnt g) (0, s) (nB p.body 1) = r at hC ⊢
  have HC := Lib.hid hC
  have HB := Lib.hid hB
  have HNW : Hid (∀ n w2, J n (fun k => k = w.heap.size + 2 ∨ k = w.heap.size + 1) r.1.2 w2 → J n (fun _ => False) r.1.2 w2) := fun n w2 h => H.narrow _ _ _ _ h
  simp only [show ((1 : Nat) : Int) = 1 from rfl] at HC
  unfold prO at HC HB
  unfold prV
  clear hz hw hst hJ2 hN hM hB hC HRW hok hl hK hJ hb0 H
  go_enter Tryz.func34, Tryz.ntmps34
  go_wp2_with fail
  refine HC.out.mono ?_; rintro e' w2 ⟨rfl, ⟨_, _, n3, _, _, hJ3⟩, hb2⟩
  have HJ3 := Lib.hid (HNW.out n3 w2 hJ3)
  have HB2 := Lib.hid (HB.out.trans hb2)
  clear hJ3 hb2
  go_wp2_with fail
  go_end0
  exact ⟨rfl, ⟨n3, HJ3.out⟩, HB2.out⟩
/-- a step of walk, and what it keeps -/
structure VisN {σ : Type} (q1 : Addr) (g : σ → U → σ × Bool) (w0 : World) (J : Nat → (Nat → Prop) → σ → World → Prop) : Prop where
  call : ∀ (n : Nat) (X : Nat → Prop) (s : σ) (u : U) (ps pe : Option Addr) (w : World), n ≤ 400 → (∀ k, X k → w0.heap.size ≤ k ∧ k < w.heap.size) → J n X s w → Below w0.heap.size w0 w → UAt w0 u ps pe → UOk u →
    Calls Tryz.prog 78 #[nodeV ps pe u.d, .pointer (some q1)] w fun e w' => e = .returned (.bool (g s u).2) ∧ J (n + 1) X (g s u).1 w' ∧ Below w0.heap.size w w' ∧ (∀ k, X k → w'.heap[k]? = w.heap[k]?)
  keep : ∀ (n : Nat) (X : Nat → Prop) (s : σ) (w w' : World), J n X s w → w.heap.size ≤ w'.heap.size → (∀ k, k < w.heap.size → ¬ X k → w'.heap[k]? = w.heap[k]?) → J n X s w'
  wide : ∀ (n : Nat) (X : Nat → Prop) (s : σ) (w : World), J n (fun _ => False) s w → (∀ k, X k → w.heap.size ≤ k) → J n X s w
  narrow : ∀ (n : Nat) (X : Nat → Prop) (s : σ) (w : World), J n X s w → J n (fun _ => False) s w
set_option maxHeartbeats 2000000 in
set_option maxRecDepth 100000 in
theorem stepN {σ : Type} {q1 : Addr} {g : σ → U → σ × Bool} {w0 : World} {J : Nat → (Nat → Prop) → σ → World → Prop} (H : VisN q1 g w0 J) {N M : Nat} (hN : w0.heap.size ≤ N) (hM : w0.heap.size ≤ M) (hne : N ≠ M) :
    StepW ⟨N, 0, none⟩ ⟨M, 0, none⟩ (cnt g) w0 (fun b x w => Cell1 N (.int .i64 x.1) w ∧ Cell1 M (.func (Fn.func 78) #[] #[.pointer (some q1)]) w ∧ ∃ n : Nat, x.1 = (n : Int) ∧ (b = true → n ≤ 400) ∧ J n (fun k => k = N ∨ k = M) x.2 w) := by
  refine ⟨fun x u ps pe w hI hb0 hat hok => ?_⟩
  obtain ⟨z, s⟩ := x
  obtain ⟨hN1, hM1, n, hzn, hn, hJ⟩ := hI
  simp only at hN1 hM1 hJ hzn
  have hn4 := hn rfl
  obtain ⟨z2, hz⟩ : ∃ z2, IntKind.i64.wrap (z + 1) = z2 := ⟨_, rfl⟩
  have hz2 : z2 = ((n + 1 : Nat) : Int) := by rw [← hz, hzn, wrap_small (by omega) (by omega)]; rfl
  have hw := below_box w (.cells #[.pointer ps, .pointer pe, .int .i64 (u.d : Int)] 65)
  have hs : ((w.alloc (.cells #[.pointer ps, .pointer pe, .int .i64 (u.d : Int)] 65)).setCell ⟨N, 0, none⟩ (.int .i64 z2)).heap.size = (w.alloc (.cells #[.pointer ps, .pointer pe, .int .i64 (u.d : Int)] 65)).heap.size := by simp
  have hN2 := (hN1.later hw).set (u := .int .i64 z2)
  have hM2 : Cell1 M (.func (Fn.func 78) #[] #[.pointer (some q1)]) ((w.alloc (.cells #[.pointer ps, .pointer pe, .int .i64 (u.d : Int)] 65)).setCell ⟨N, 0, none⟩ (.int .i64 z2)) := by
    have h := hM1.later hw
    have hk : ((w.alloc (.cells #[.pointer ps, .pointer pe, .int .i64 (u.d : Int)] 65)).setCell ⟨N, 0, none⟩ (.int .i64 z2)).heap[M]? = (w.alloc (.cells #[.pointer ps, .pointer pe, .int .i64 (u.d : Int)] 65)).heap[M]? := Below.heap_setCell _ _ _ _ (by exact hne.symm)
    exact h.moved hk
  have hB2 := hb0.trans (((hw.mono hb0.size).setCell (p := ⟨N, 0, none⟩) hN (.int .i64 z2)))
  have hJ2 := H.keep n _ s w ((w.alloc (.cells #[.pointer ps, .pointer pe, .int .i64 (u.d : Int)] 65)).setCell ⟨N, 0, none⟩ (.int .i64 z2)) hJ (by rw [hs]; exact hw.size) (fun k hk hx => (Below.heap_setCell _ _ _ _ (fun e => hx (Or.inl e))).trans (hw.block k hk))
  have hC := H.call n _ s u ps pe _ hn4 (fun k hk => by
    rcases hk with rfl | rfl
    · exact ⟨hN, by rw [hs]; exact (hN1.later hw).lt⟩
    · exact ⟨hM, by rw [hs]; exact (hM1.later hw).lt⟩) hJ2 hB2 hat hok
  have HB : Hid (Below w0.heap.size w ((w.alloc (.cells #[.pointer ps, .pointer pe, .int .i64 (u.d : Int)] 65)).setCell ⟨N, 0, none⟩ (.int .i64 z2))) := (hw.mono hb0.size).setCell (p := ⟨N, 0, none⟩) hN (.int .i64 z2)
  have HV : Hid (cnt g (z, s) u = ((z2, (g s u).1), (g s u).2 && decide (z2 ≤ 400))) := by show _ = _; unfold cnt; simp only [hz]
  rw [HV.out]
  have HN2 := Lib.hid hN2
  have HM2 := Lib.hid hM2
  have HC := Lib.hid hC
  have hNw := hN1.later hw
  obtain ⟨n1, n2, n3⟩ := hNw
  have m2 := hM2.cell
  have n0 := hN1.cell
  have hnw : w.heap.size ≠ N := fun h => Nat.lt_irrefl _ (h ▸ hN1.lt)
  have hblk : ((w.alloc (.cells #[.pointer ps, .pointer pe, .int .i64 (u.d : Int)] 65)).setCell ⟨N, 0, none⟩ (.int .i64 z2)).heap[w.heap.size]? = (w.alloc (.cells #[.pointer ps, .pointer pe, .int .i64 (u.d : Int)] 65)).heap[w.heap.size]? := Below.heap_setCell _ _ _ _ (by exact hnw)
  have d0 := (World.cell?_of_block (a := ⟨w.heap.size, 0, none⟩) hblk).trans (show _ = some (.pointer ps) by go_simp)
  have d1 := (World.cell?_of_block (a := ⟨w.heap.size, 1, none⟩) hblk).trans (show _ = some (.pointer pe) by go_simp)
  have d2 := (World.cell?_of_block (a := ⟨w.heap.size, 2, none⟩) hblk).trans (show _ = some (.int .i64 (u.d : Int)) by go_simp)
  unfold nodeV at *
  generalize g s u = r at HC ⊢
  obtain ⟨s2, y⟩ := r
  simp only at HC ⊢
  have HZ2 := Lib.hid hz2
  clear hw hs hN2 hM2 hB2 hJ2 hC hN1 hM1 hJ hz2 hzn hn HV hat hok hb0 hblk hnw
  cases y
  · go_enter Tryz.func73, Tryz.ntmps73
    go_wp2_with fail
    refine HC.out.mono ?_; rintro e' w2 ⟨rfl, hJ2, hb2, hx⟩
    have HI : Hid (Cell1 N (.int .i64 z2) w2 ∧ Cell1 M (.func (Fn.func 78) #[] #[.pointer (some q1)]) w2 ∧ ∃ n' : Nat, z2 = (n' : Int) ∧ (false = true → n' ≤ 400) ∧ J n' (fun k => k = N ∨ k = M) s2 w2) := ⟨HN2.out.moved2 (hx N (Or.inl rfl)), HM2.out.moved2 (hx M (Or.inr rfl)), n + 1, HZ2.out, (fun hb => by cases hb), hJ2⟩
    have HB2 := Lib.hid (HB.out.trans hb2)
    clear hJ2 hb2 hx
    go_wp2_with fail
    go_ret
    exact ⟨rfl, HI.out, HB2.out⟩
  · obtain ⟨t, ht⟩ : ∃ t, decide (z2 ≤ 400) = t := ⟨_, rfl⟩
    rw [ht]
    have HT := Lib.hid ht
    go_enter Tryz.func73, Tryz.ntmps73
    go_wp2_with fail
    refine HC.out.mono ?_; rintro e' w2 ⟨rfl, hJ2, hb2, hx⟩
    have HI : Hid (Cell1 N (.int .i64 z2) w2 ∧ Cell1 M (.func (Fn.func 78) #[] #[.pointer (some q1)]) w2 ∧ ∃ n' : Nat, z2 = (n' : Int) ∧ ((true && t) = true → n' ≤ 400) ∧ J n' (fun k => k = N ∨ k = M) s2 w2) := ⟨HN2.out.moved2 (hx N (Or.inl rfl)), HM2.out.moved2 (hx M (Or.inr rfl)), n + 1, HZ2.out, (fun hb => by have := HT.out; rw [Bool.true_and] at hb; rw [hb] at this; have h4 := of_decide_eq_true this; have h5 := HZ2.out; omega), hJ2⟩
    have HB2 := Lib.hid (HB.out.trans hb2)
    have n4 := HI.out.1.cell
    clear hJ2 hb2 hx
    go_wp2_with fail
    go_ret
    exact ⟨rfl, HI.out, HB2.out⟩
set_option maxHeartbeats 2000000 in
set_option maxRecDepth 100000 in
theorem owalkN_any {σ : Type} {q1 : Addr} {g : σ → U → σ × Bool} {w0 : World} {J : Nat → (Nat → Prop) → σ → World → Prop} (H : VisN q1 g w0 J) (p : Pr) (a1 : Option Addr) (c1 : Nat) (a2 : Option Addr) (c2 : Nat) (hok : okB p.body) (hl : p.body.length ≤ 1000000000000000) (hK : Bodies w0 a2 p.body)
    (s : σ) (w : World) (hJ : J 0 (fun _ => False) s w) (hb0 : Below w0.heap.size w0 w) :
    Calls Tryz.prog 34 #[prV p a1 c1 a2 c2, .func (Fn.func 78) #[] #[.pointer (some q1)]] w fun e' w' => e' = .returned (.tuple #[]) ∧ (∃ n', J n' (fun _ => False) (run g s (walkU p)).1 w') ∧ Below w0.heap.size w w' := by
  have hz := hb0.size
  have hw := below_2 (below_2 (below_box w (prO p a1 c1 a2 c2)) (below_box _ (.cells #[.func (Fn.func 78) #[] #[.pointer (some q1)]] 67))) (below_box _ (.cells #[.int .i64 0] 3))
  have hst := stepN H (N := w.heap.size + 2) (M := w.heap.size + 1) (by omega) (by omega) (by omega)
  have hJ2 := H.keep 0 _ s w (((w.alloc (prO p a1 c1 a2 c2)).alloc (.cells #[.func (Fn.func 78) #[] #[.pointer (some q1)]] 67)).alloc (.cells #[.int .i64 0] 3)) (H.wide 0 (fun k => k = w.heap.size + 2 ∨ k = w.heap.size + 1) s w hJ (fun k hk => by omega)) hw.size (fun k hk _ => hw.block k hk)
  have hN : Cell1 (w.heap.size + 2) (.int .i64 0) (((w.alloc (prO p a1 c1 a2 c2)).alloc (.cells #[.func (Fn.func 78) #[] #[.pointer (some q1)]] 67)).alloc (.cells #[.int .i64 0] 3)) := cell1_at (by simp)
  have hM : Cell1 (w.heap.size + 1) (.func (Fn.func 78) #[] #[.pointer (some q1)]) (((w.alloc (prO p a1 c1 a2 c2)).alloc (.cells #[.func (Fn.func 78) #[] #[.pointer (some q1)]] 67)).alloc (.cells #[.int .i64 0] 3)) := (cell1_at (by simp)).later (below_box _ _)
  have hB : Below w0.heap.size w _ := hw.mono hz
  have hC := owalkStmts_any hst (cn_cnt g) p.body a2 c2 1 (0, s) _ hok hl ⟨Int.le_refl 0, (by decide : (0 : Int) ≤ 400), (by decide : (1 : Int) ≤ 0 + 1)⟩ (Nat.le_refl 1) hK ⟨hN, hM, 0, rfl, fun _ => by omega, hJ2⟩ (hb0.trans hB)
  have HRW := Lib.hid (run_walk g s p)
  rw [← HRW.out]
  generalize run (cnt g) (0, s) (nB p.body 1) = r at hC ⊢
  have HC := Lib.hid hC
  have HB := Lib.hid hB
  have HNW : Hid (∀ n w2, J n (fun k => k = w.heap.size + 2 ∨ k = w.heap.size + 1) r.1.2 w2 → J n (fun _ => False) r.1.2 w2) := fun n w2 h => H.narrow _ _ _ _ h
  simp only [show ((1 : Nat) : Int) = 1 from rfl] at HC
  unfold prO at HC HB
  unfold prV
  clear hz hw hst hJ2 hN hM hB hC HRW hok hl hK hJ hb0 H
  go_enter Tryz.func34, Tryz.ntmps34
  go_wp2_with fail
  refine HC.out.mono ?_; rintro e' w2 ⟨rfl, ⟨_, _, n3, _, _, hJ3⟩, hb2⟩
  have HJ3 := Lib.hid (HNW.out n3 w2 hJ3)
  have HB2 := Lib.hid (HB.out.trans hb2)
  clear hJ3 hb2
  go_wp2_with fail
  go_end0
  exact ⟨rfl, ⟨n3, HJ3.out⟩, HB2.out⟩
end Go.Proofs.YteglaeopaocilaaGreatDoor.A
namespace Go.Proofs.YteglaeopaocilaaGreatDoor.A
open Go.RowKit
open L (Str isName prt size_len below_2 below_box ret_bool ret_int eql_eq bytes_eq)

/-- a step that writes one variable: what it keeps -/
def Jb {σ : Type} (B : Nat) (f : σ → Value) (_ : Nat) (X : Nat → Prop) (s : σ) (w : World) : Prop := Cell1 B (f s) w ∧ ¬ X B
theorem Jb.keep {σ : Type} {B : Nat} {f : σ → Value} (n : Nat) (X : Nat → Prop) (s : σ) (w w' : World) (h : Jb B f n X s w) (_ : w.heap.size ≤ w'.heap.size) (hk : ∀ k, k < w.heap.size → ¬ X k → w'.heap[k]? = w.heap[k]?) : Jb B f n X s w' := ⟨h.1.moved (hk B h.1.lt h.2), h.2⟩
theorem Jb.wide {σ : Type} {B : Nat} {f : σ → Value} (n : Nat) (X : Nat → Prop) (s : σ) (w : World) (h : Jb B f n (fun _ => False) s w) (hx : ∀ k, X k → w.heap.size ≤ k) : Jb B f n X s w := ⟨h.1, fun hb => by have := hx B hb; have := h.1.lt; omega⟩
theorem Jb.narrow {σ : Type} {B : Nat} {f : σ → Value} (n : Nat) (X : Nat → Prop) (s : σ) (w : World) (h : Jb B f n X s w) : Jb B f n (fun _ => False) s w := ⟨h.1, fun hf => hf⟩
/-- a store into the step's variable -/
theorem Jb.store {σ : Type} {n m B : Nat} {f : σ → Value} {X : Nat → Prop} {s s2 : σ} {w0 w w2 : World} (hX : ∀ k, X k → w0.heap.size ≤ k ∧ k < w.heap.size) (hB : w0.heap.size ≤ B) (h : Jb B f n X s w) (hb : Below w.heap.size w w2) (hz : w0.heap.size ≤ w.heap.size) :
    Jb B f m X s2 (w2.setCell ⟨B, 0, none⟩ (f s2)) ∧ Below w0.heap.size w (w2.setCell ⟨B, 0, none⟩ (f s2)) ∧ ∀ k, X k → (w2.setCell ⟨B, 0, none⟩ (f s2)).heap[k]? = w.heap[k]? :=
  ⟨⟨(h.1.later hb).set, h.2⟩, (hb.mono hz).setCell hB _, fun k hk => (Below.heap_setCell _ _ _ _ (fun e => h.2 (by rw [show B = k from e.symm]; exact hk))).trans (hb.block k (hX k hk).2)⟩
theorem Jb.same {σ : Type} {n m B : Nat} {f : σ → Value} {X : Nat → Prop} {s : σ} {w0 w w2 : World} (hX : ∀ k, X k → w0.heap.size ≤ k ∧ k < w.heap.size) (h : Jb B f n X s w) (hb : Below w.heap.size w w2) (hz : w0.heap.size ≤ w.heap.size) :
    Jb B f m X s w2 ∧ Below w0.heap.size w w2 ∧ ∀ k, X k → w2.heap[k]? = w.heap[k]? := ⟨⟨h.1.later hb, h.2⟩, hb.mono hz, fun k hk => hb.block k (hX k hk).2⟩
set_option maxHeartbeats 2000000 in
set_option maxRecDepth 100000 in
theorem visN {w0 : World} {B : Nat} (hB : w0.heap.size ≤ B) : VisN ⟨B, 0, none⟩ gN w0 (Jb B (fun z => .int .i64 z)) := by
  refine ⟨fun n X z u ps pe w _ hX hJ hb0 _ _ => ?_, Jb.keep, Jb.wide, Jb.narrow⟩
  obtain ⟨z2, hz⟩ : ∃ z2, IntKind.i64.wrap (z + 1) = z2 := ⟨_, rfl⟩
  have hw := below_box w (.cells #[.pointer ps, .pointer pe, .int .i64 (u.d : Int)] 65)
  have HP := Lib.hid (Jb.store (m := n + 1) (s2 := z2) hX hB hJ hw hb0.size)
  have HV : Hid (gN z u = (z2, true)) := by show _ = _; unfold gN; rw [hz]
  rw [HV.out]
  obtain ⟨n1, n2, n3⟩ := hJ.1.later hw
  have n0 := hJ.1.cell
  unfold nodeV
  clear hw hJ hb0 HV hX
  go_enter Tryz.func78, Tryz.ntmps78
  go_wp2_with fail
  go_ret
  exact ⟨rfl, HP.out⟩
set_option maxHeartbeats 2000000 in
set_option maxRecDepth 100000 in
theorem onodes_any (p : Pr) (a1 a2 : Option Addr) (c1 c2 : Nat) (hok : okB p.body) (hl : p.body.length ≤ 1000000000000000) (w : World) (hK : Bodies w a2 p.body) :
    Calls Tryz.prog 37 #[prV p a1 c1 a2 c2] w fun e' w' => e' = .returned (.int .i64 (nodes p : Int)) ∧ Below w.heap.size w w' := by
  have hw := below_2 (below_box w (prO p a1 c1 a2 c2)) (below_box _ (.cells #[.int .i64 0] 3))
  have hJ : Jb (w.heap.size + 1) (fun z => .int .i64 z) 0 (fun _ => False) (0 : Int) ((w.alloc (prO p a1 c1 a2 c2)).alloc (.cells #[.int .i64 0] 3)) := ⟨cell1_at (by simp), fun h => h⟩
  have hC := owalkN_any (visN (w0 := w) (B := w.heap.size + 1) (by omega)) p a1 c1 a2 c2 hok hl hK 0 _ hJ hw
  rw [nodes_run] at hC
  have HC := Lib.hid hC
  have HW := Lib.hid hw
  generalize nodes p = n at HC ⊢
  unfold prO at HC HW
  unfold prV at *
  clear hw hJ hC hok hl hK
  go_enter Tryz.func37, Tryz.ntmps37
  go_wp2_with fail
  refine HC.out.mono ?_; rintro e' w2 ⟨rfl, ⟨_, hj, _⟩, hb2⟩
  have n0 := hj.cell
  have HB := Lib.hid (HW.out.trans hb2)
  clear hj hb2
  go_wp2_with fail
  go_ret
  exact ⟨rfl, HB.out⟩
end Go.Proofs.YteglaeopaocilaaGreatDoor.A
namespace Go.Proofs.YteglaeopaocilaaGreatDoor.A
open Go.RowKit
open L (Str isName prt size_len below_2 below_box ret_bool ret_int eql_eq bytes_eq)

/-- the operations that follow a cut -/
def Rest (l : List Oper) (_ _ : Unit) : List Oper := l
/-- a list of operations cut in two: what is known between -/
theorem wpList_cut {P : Program} {ops : Array Oper} {Q : Exit → Act → World → Prop} {a : Act} {w : World} (n : Nat) {l : List Oper} (mid : Act → World → Prop)
    (h1 : ∀ B, Hid (∀ a w, mid a w → wpList P ops Q (Rest B () ()) a w) → wpList P ops Q (l.take n ++ Rest B () ()) a w) (h2 : ∀ a w, mid a w → wpList P ops Q (l.drop n) a w) : wpList P ops Q l a w := by
  rw [← List.take_append_drop n l]
  exact h1 _ h2
theorem used_bits (o : Int) : hasB (usedI o) 1 = uN o ∧ hasB (usedI o) 4 = uA o ∧ hasB (usedI o) 8 = uB o ∧ hasB (usedI o) 16 = uD o ∧ hasB (usedI o) 32 = uE o ∧ (1 ≤ o → o ≤ 8 → hasB (usedI o) 2 = uM o) ∧ ((usedI o == 0) = (decide (o < 1) || decide (8 < o))) := by
  by_cases h : 1 ≤ o ∧ o ≤ 8
  · obtain ⟨h1, h2⟩ := h
    have : o = 1 ∨ o = 2 ∨ o = 3 ∨ o = 4 ∨ o = 5 ∨ o = 6 ∨ o = 7 ∨ o = 8 := by omega
    rcases this with rfl | rfl | rfl | rfl | rfl | rfl | rfl | rfl <;> decide
  · have h1 : ¬ o = 1 := by omega
    have h2 : ¬ o = 2 := by omega
    have h3 : ¬ o = 3 := by omega
    have h4 : ¬ o = 4 := by omega
    have h5 : ¬ o = 5 := by omega
    have h6 : ¬ o = 6 := by omega
    have h7 : ¬ o = 7 := by omega
    have h8 : ¬ o = 8 := by omega
    have hu : usedI o = 0 := by unfold usedI; simp [h1, h2, h3, h4, h5, h6, h7, h8]
    rw [hu]
    refine ⟨?_, ?_, ?_, ?_, ?_, fun a b => absurd ⟨a, b⟩ h, ?_⟩
    · unfold uN; rw [decide_eq_false (by omega)]; decide
    · unfold uA; rw [decide_eq_false (by omega)]; decide
    · unfold uB; rw [decide_eq_false (by omega)]; decide
    · unfold uD; rw [decide_eq_false (by omega)]; decide
    · unfold uE; rw [decide_eq_false (by omega)]; decide
    · rw [← Bool.decide_or, decide_eq_true (by omega)]; rfl
/-- a field that is not used is filled -/
def fillB (s : St) : Bool := (!decide (s.name.size = 0) && !hasB (usedI s.op) 1) || ((s.mx != 0) && !hasB (usedI s.op) 2) || (!absent s.a && !hasB (usedI s.op) 4) || (!absent s.b && !hasB (usedI s.op) 8) || (decide (0 < (s.body.length : Int)) && !hasB (usedI s.op) 16) || (decide (0 < (s.els.length : Int)) && !hasB (usedI s.op) 32)
theorem fill_def (s : St) : fillB s = ((!decide (s.name.size = 0) && !hasB (usedI s.op) 1) || ((s.mx != 0) && !hasB (usedI s.op) 2) || (!absent s.a && !hasB (usedI s.op) 4) || (!absent s.b && !hasB (usedI s.op) 8) || (decide (0 < (s.body.length : Int)) && !hasB (usedI s.op) 16) || (decide (0 < (s.els.length : Int)) && !hasB (usedI s.op) 32)) := rfl
theorem empty_len {α : Type} (l : List α) : (!l.isEmpty) = decide (0 < (l.length : Int)) := by
  cases l with
  | nil => rfl
  | cons x l => rw [decide_eq_true (by simp)]; rfl
theorem fill_bad (s : St) : ((usedI s.op == 0) || fillB s) = badS s := by
  obtain ⟨h1, h4, h8, h16, h32, h2, h0⟩ := used_bits s.op
  unfold fillB badS
  rw [h1, h4, h8, h16, h32, h0, ← empty_len, ← empty_len]
  by_cases h : 1 ≤ s.op ∧ s.op ≤ 8
  · rw [h2 h.1 h.2, decide_eq_false (show ¬ s.op < 1 by omega), decide_eq_false (show ¬ 8 < s.op by omega)]
    rw [show (s.mx != 0) = !decide (s.mx = 0) by simp [bne, Bool.beq_eq_decide_eq]]
    simp only [Bool.false_or]
    simp only [Bool.and_comm]
  · rw [← Bool.decide_or, decide_eq_true (by omega)]
    simp
set_option maxHeartbeats 8000000 in
set_option maxRecDepth 100000 in
theorem ofills_any (s : St) (b i : Nat) (a1 : Option Addr) (c1 : Nat) (a2 : Option Addr) (c2 : Nat) (a3 : Option Addr) (c3 : Nat) (a4 : Option Addr) (c4 : Nat) (hl1 : s.body.length ≤ 1000000000000000) (hl2 : s.els.length ≤ 1000000000000000) (w : World) (h : StCells w s b i a1 c1 a2 c2 a3 c3 a4 c4) :
    Calls Tryz.prog 75 #[.pointer (some ⟨b, i, none⟩), .int .i64 (usedI s.op)] w fun e' w' => e' = .returned (.bool (fillB s)) ∧ w' = w := by
  have HA := Lib.hid (oabsent_any s.a b (i + 3) a1 c1 w h.fourA)
  have HB := Lib.hid (oabsent_any s.b b (i + 7) a2 c2 w h.fourB)
  have HH1 := Lib.hid (ohas_any s.op 1 (by omega) w)
  have HH2 := Lib.hid (ohas_any s.op 2 (by omega) w)
  have HH4 := Lib.hid (ohas_any s.op 4 (by omega) w)
  have HH8 := Lib.hid (ohas_any s.op 8 (by omega) w)
  have HH16 := Lib.hid (ohas_any s.op 16 (by omega) w)
  have HH32 := Lib.hid (ohas_any s.op 32 (by omega) w)
  have k1 := h.k1
  have k2 := h.k2
  have k11 := h.k11
  have k12 := h.k12
  have hV := fill_def s
  have he2 := nil_of (s := s.name)
  have he3 := empty_of (s := s.name)
  obtain ⟨v1, h1⟩ : ∃ v, decide (s.name.size = 0) = v := ⟨_, rfl⟩
  obtain ⟨v2, h2⟩ : ∃ v, (s.mx != 0) = v := ⟨_, rfl⟩
  obtain ⟨v3, h3⟩ : ∃ v, absent s.a = v := ⟨_, rfl⟩
  obtain ⟨v4, h4⟩ : ∃ v, absent s.b = v := ⟨_, rfl⟩
  obtain ⟨v5, h5⟩ : ∃ v, decide (0 < (s.body.length : Int)) = v := ⟨_, rfl⟩
  obtain ⟨v6, h6⟩ : ∃ v, decide (0 < (s.els.length : Int)) = v := ⟨_, rfl⟩
  obtain ⟨u1, g1⟩ : ∃ v, hasB (usedI s.op) 1 = v := ⟨_, rfl⟩
  obtain ⟨u2, g2⟩ : ∃ v, hasB (usedI s.op) 2 = v := ⟨_, rfl⟩
  obtain ⟨u3, g3⟩ : ∃ v, hasB (usedI s.op) 4 = v := ⟨_, rfl⟩
  obtain ⟨u4, g4⟩ : ∃ v, hasB (usedI s.op) 8 = v := ⟨_, rfl⟩
  obtain ⟨u5, g5⟩ : ∃ v, hasB (usedI s.op) 16 = v := ⟨_, rfl⟩
  obtain ⟨u6, g6⟩ : ∃ v, hasB (usedI s.op) 32 = v := ⟨_, rfl⟩
  rw [h1] at he2 he3
  rw [h3] at HA
  rw [h4] at HB
  rw [g1] at HH1
  rw [g2] at HH2
  rw [g3] at HH4
  rw [g4] at HH8
  rw [g5] at HH16
  rw [g6] at HH32
  rw [h1, h2, h3, h4, h5, h6, g1, g2, g3, g4, g5, g6] at hV
  have HV := Lib.hid hV
  generalize usedI s.op = o at HH1 HH2 HH4 HH8 HH16 HH32 ⊢
  clear hV h h1 h3 h4 g1 g2 g3 g4 g5 g6
  have h5' : decide (0 < s.body.length) = v5 := by rw [← h5]; exact decide_eq_decide.2 (by omega)
  have h6' : decide (0 < s.els.length) = v6 := by rw [← h6]; exact decide_eq_decide.2 (by omega)
  obtain ⟨p1, hp1⟩ : ∃ p, (!v1 && !u1) = p := ⟨_, rfl⟩
  obtain ⟨p2, hp2⟩ : ∃ p, (p1 || (v2 && !u2)) = p := ⟨_, rfl⟩
  obtain ⟨p3, hp3⟩ : ∃ p, (p2 || (!v3 && !u3)) = p := ⟨_, rfl⟩
  obtain ⟨p4, hp4⟩ : ∃ p, (p3 || (!v4 && !u4)) = p := ⟨_, rfl⟩
  obtain ⟨p5, hp5⟩ : ∃ p, (p4 || (v5 && !u5)) = p := ⟨_, rfl⟩
  obtain ⟨p6, hp6⟩ : ∃ p, (p5 || (v6 && !u6)) = p := ⟨_, rfl⟩
  rw [hp1, hp2, hp3, hp4, hp5, hp6] at HV
  have HP1 := Lib.hid hp1
  have HP2 := Lib.hid hp2
  have HP3 := Lib.hid hp3
  have HP4 := Lib.hid hp4
  have HP5 := Lib.hid hp5
  have HP6 := Lib.hid hp6
  clear hp1 hp2 hp3 hp4 hp5 hp6
  rw [HV.out]
  clear HV
  go_enter Tryz.func75, Tryz.ntmps75
  go_upto_region 1 with fail
  refine wp_region_lit ?_
  simp only [List.append_eq, List.cons_append, List.nil_append]
  refine wpList_cut 11 (fun a' w' => ∃ u5 u6 u7 u8 u9 u10 u11 u12 u13 u14 : Value, a' = ⟨#[.pointer (some ⟨b, i, none⟩), .int .i64 o, undef, undef, .bool false, u5, u6, u7, u8, u9, u10, u11, u12, u13, u14, .bool p1, undef, undef, undef, undef, undef, undef, undef, undef, undef, undef, undef, undef, undef, undef, undef, undef, undef, undef, undef, undef, undef, undef, undef, undef, undef, undef, undef, undef, undef, undef, undef, undef, undef, undef, undef, undef, undef, undef, undef, undef, undef, undef, undef, undef, undef, undef, undef, undef, undef, undef, undef, undef, undef, undef, undef, undef, undef, undef, undef, undef, undef], []⟩ ∧ w = w') ?_ ?_
  · intro B hB
    simp only [List.take_succ_cons, List.take_zero, List.cons_append, List.nil_append]
    cases v1 <;> cases u1
    all_goals
      have hp := HP1.out
      subst hp
      go_wp2_with fail
      repeat ((first | (with_reducible refine HA.out.mono ?_; rintro e' w2 ⟨rfl, rfl⟩) | (with_reducible refine HB.out.mono ?_; rintro e' w2 ⟨rfl, rfl⟩) | (with_reducible refine HH1.out.mono ?_; rintro e' w2 ⟨rfl, rfl⟩) | (with_reducible refine HH2.out.mono ?_; rintro e' w2 ⟨rfl, rfl⟩) | (with_reducible refine HH4.out.mono ?_; rintro e' w2 ⟨rfl, rfl⟩) | (with_reducible refine HH8.out.mono ?_; rintro e' w2 ⟨rfl, rfl⟩) | (with_reducible refine HH16.out.mono ?_; rintro e' w2 ⟨rfl, rfl⟩) | (with_reducible refine HH32.out.mono ?_; rintro e' w2 ⟨rfl, rfl⟩)); go_wp2_with fail)
      refine hB.out _ _ ?_
      repeat' apply Exists.intro
      exact ⟨rfl, rfl⟩
  rintro a' w' ⟨u5, u6, u7, u8, u9, u10, u11, u12, u13, u14, rfl, rfl⟩
  simp only [List.drop_succ_cons, List.drop_zero]
  clear HP1
  refine wpList_cut 12 (fun a' w' => ∃ u5 u6 u7 u8 u9 u10 u11 u12 u13 u14 u15 u16 u17 u18 u19 u20 u21 u22 u23 u24 u25 u26 : Value, a' = ⟨#[.pointer (some ⟨b, i, none⟩), .int .i64 o, undef, undef, .bool false, u5, u6, u7, u8, u9, u10, u11, u12, u13, u14, u15, u16, u17, u18, u19, u20, u21, u22, u23, u24, u25, u26, .bool p2, undef, undef, undef, undef, undef, undef, undef, undef, undef, undef, undef, undef, undef, undef, undef, undef, undef, undef, undef, undef, undef, undef, undef, undef, undef, undef, undef, undef, undef, undef, undef, undef, undef, undef, undef, undef, undef, undef, undef, undef, undef, undef, undef, undef, undef, undef, undef, undef, undef], []⟩ ∧ w = w') ?_ ?_
  · intro B hB
    simp only [List.take_succ_cons, List.take_zero, List.cons_append, List.nil_append]
    cases p1 <;> cases v2 <;> cases u2
    all_goals
      have hp := HP2.out
      subst hp
      go_wp2_with fail
      repeat ((first | (with_reducible refine HA.out.mono ?_; rintro e' w2 ⟨rfl, rfl⟩) | (with_reducible refine HB.out.mono ?_; rintro e' w2 ⟨rfl, rfl⟩) | (with_reducible refine HH1.out.mono ?_; rintro e' w2 ⟨rfl, rfl⟩) | (with_reducible refine HH2.out.mono ?_; rintro e' w2 ⟨rfl, rfl⟩) | (with_reducible refine HH4.out.mono ?_; rintro e' w2 ⟨rfl, rfl⟩) | (with_reducible refine HH8.out.mono ?_; rintro e' w2 ⟨rfl, rfl⟩) | (with_reducible refine HH16.out.mono ?_; rintro e' w2 ⟨rfl, rfl⟩) | (with_reducible refine HH32.out.mono ?_; rintro e' w2 ⟨rfl, rfl⟩)); go_wp2_with fail)
      refine hB.out _ _ ?_
      repeat' apply Exists.intro
      exact ⟨rfl, rfl⟩
  rintro a' w' ⟨u5, u6, u7, u8, u9, u10, u11, u12, u13, u14, u15, u16, u17, u18, u19, u20, u21, u22, u23, u24, u25, u26, rfl, rfl⟩
  simp only [List.drop_succ_cons, List.drop_zero]
  clear HP2
  refine wpList_cut 12 (fun a' w' => ∃ u5 u6 u7 u8 u9 u10 u11 u12 u13 u14 u15 u16 u17 u18 u19 u20 u21 u22 u23 u24 u25 u26 u27 u28 u29 u30 u31 u32 u33 u34 u35 u36 u37 u38 : Value, a' = ⟨#[.pointer (some ⟨b, i, none⟩), .int .i64 o, undef, undef, .bool false, u5, u6, u7, u8, u9, u10, u11, u12, u13, u14, u15, u16, u17, u18, u19, u20, u21, u22, u23, u24, u25, u26, u27, u28, u29, u30, u31, u32, u33, u34, u35, u36, u37, u38, .bool p3, undef, undef, undef, undef, undef, undef, undef, undef, undef, undef, undef, undef, undef, undef, undef, undef, undef, undef, undef, undef, undef, undef, undef, undef, undef, undef, undef, undef, undef, undef, undef, undef, undef, undef, undef, undef, undef], []⟩ ∧ w = w') ?_ ?_
  · intro B hB
    simp only [List.take_succ_cons, List.take_zero, List.cons_append, List.nil_append]
    cases p2 <;> cases v3 <;> cases u3
    all_goals
      have hp := HP3.out
      subst hp
      go_wp2_with fail
      repeat ((first | (with_reducible refine HA.out.mono ?_; rintro e' w2 ⟨rfl, rfl⟩) | (with_reducible refine HB.out.mono ?_; rintro e' w2 ⟨rfl, rfl⟩) | (with_reducible refine HH1.out.mono ?_; rintro e' w2 ⟨rfl, rfl⟩) | (with_reducible refine HH2.out.mono ?_; rintro e' w2 ⟨rfl, rfl⟩) | (with_reducible refine HH4.out.mono ?_; rintro e' w2 ⟨rfl, rfl⟩) | (with_reducible refine HH8.out.mono ?_; rintro e' w2 ⟨rfl, rfl⟩) | (with_reducible refine HH16.out.mono ?_; rintro e' w2 ⟨rfl, rfl⟩) | (with_reducible refine HH32.out.mono ?_; rintro e' w2 ⟨rfl, rfl⟩)); go_wp2_with fail)
      refine hB.out _ _ ?_
      repeat' apply Exists.intro
      exact ⟨rfl, rfl⟩
  rintro a' w' ⟨u5, u6, u7, u8, u9, u10, u11, u12, u13, u14, u15, u16, u17, u18, u19, u20, u21, u22, u23, u24, u25, u26, u27, u28, u29, u30, u31, u32, u33, u34, u35, u36, u37, u38, rfl, rfl⟩
  simp only [List.drop_succ_cons, List.drop_zero]
  clear HP3
  refine wpList_cut 12 (fun a' w' => ∃ u5 u6 u7 u8 u9 u10 u11 u12 u13 u14 u15 u16 u17 u18 u19 u20 u21 u22 u23 u24 u25 u26 u27 u28 u29 u30 u31 u32 u33 u34 u35 u36 u37 u38 u39 u40 u41 u42 u43 u44 u45 u46 u47 u48 u49 u50 : Value, a' = ⟨#[.pointer (some ⟨b, i, none⟩), .int .i64 o, undef, undef, .bool false, u5, u6, u7, u8, u9, u10, u11, u12, u13, u14, u15, u16, u17, u18, u19, u20, u21, u22, u23, u24, u25, u26, u27, u28, u29, u30, u31, u32, u33, u34, u35, u36, u37, u38, u39, u40, u41, u42, u43, u44, u45, u46, u47, u48, u49, u50, .bool p4, undef, undef, undef, undef, undef, undef, undef, undef, undef, undef, undef, undef, undef, undef, undef, undef, undef, undef, undef, undef, undef, undef, undef, undef, undef], []⟩ ∧ w = w') ?_ ?_
  · intro B hB
    simp only [List.take_succ_cons, List.take_zero, List.cons_append, List.nil_append]
    cases p3 <;> cases v4 <;> cases u4
    all_goals
      have hp := HP4.out
      subst hp
      go_wp2_with fail
      repeat ((first | (with_reducible refine HA.out.mono ?_; rintro e' w2 ⟨rfl, rfl⟩) | (with_reducible refine HB.out.mono ?_; rintro e' w2 ⟨rfl, rfl⟩) | (with_reducible refine HH1.out.mono ?_; rintro e' w2 ⟨rfl, rfl⟩) | (with_reducible refine HH2.out.mono ?_; rintro e' w2 ⟨rfl, rfl⟩) | (with_reducible refine HH4.out.mono ?_; rintro e' w2 ⟨rfl, rfl⟩) | (with_reducible refine HH8.out.mono ?_; rintro e' w2 ⟨rfl, rfl⟩) | (with_reducible refine HH16.out.mono ?_; rintro e' w2 ⟨rfl, rfl⟩) | (with_reducible refine HH32.out.mono ?_; rintro e' w2 ⟨rfl, rfl⟩)); go_wp2_with fail)
      refine hB.out _ _ ?_
      repeat' apply Exists.intro
      exact ⟨rfl, rfl⟩
  rintro a' w' ⟨u5, u6, u7, u8, u9, u10, u11, u12, u13, u14, u15, u16, u17, u18, u19, u20, u21, u22, u23, u24, u25, u26, u27, u28, u29, u30, u31, u32, u33, u34, u35, u36, u37, u38, u39, u40, u41, u42, u43, u44, u45, u46, u47, u48, u49, u50, rfl, rfl⟩
  simp only [List.drop_succ_cons, List.drop_zero]
  clear HP4
  refine wpList_cut 13 (fun a' w' => ∃ u5 u6 u7 u8 u9 u10 u11 u12 u13 u14 u15 u16 u17 u18 u19 u20 u21 u22 u23 u24 u25 u26 u27 u28 u29 u30 u31 u32 u33 u34 u35 u36 u37 u38 u39 u40 u41 u42 u43 u44 u45 u46 u47 u48 u49 u50 u51 u52 u53 u54 u55 u56 u57 u58 u59 u60 u61 u62 u63 : Value, a' = ⟨#[.pointer (some ⟨b, i, none⟩), .int .i64 o, undef, undef, .bool false, u5, u6, u7, u8, u9, u10, u11, u12, u13, u14, u15, u16, u17, u18, u19, u20, u21, u22, u23, u24, u25, u26, u27, u28, u29, u30, u31, u32, u33, u34, u35, u36, u37, u38, u39, u40, u41, u42, u43, u44, u45, u46, u47, u48, u49, u50, u51, u52, u53, u54, u55, u56, u57, u58, u59, u60, u61, u62, u63, .bool p5, undef, undef, undef, undef, undef, undef, undef, undef, undef, undef, undef, undef], []⟩ ∧ w = w') ?_ ?_
  · intro B hB
    simp only [List.take_succ_cons, List.take_zero, List.cons_append, List.nil_append]
    cases p4 <;> cases v5 <;> cases u5
    all_goals
      have hp := HP5.out
      subst hp
      go_wp2_with fail
      repeat ((first | (with_reducible refine HA.out.mono ?_; rintro e' w2 ⟨rfl, rfl⟩) | (with_reducible refine HB.out.mono ?_; rintro e' w2 ⟨rfl, rfl⟩) | (with_reducible refine HH1.out.mono ?_; rintro e' w2 ⟨rfl, rfl⟩) | (with_reducible refine HH2.out.mono ?_; rintro e' w2 ⟨rfl, rfl⟩) | (with_reducible refine HH4.out.mono ?_; rintro e' w2 ⟨rfl, rfl⟩) | (with_reducible refine HH8.out.mono ?_; rintro e' w2 ⟨rfl, rfl⟩) | (with_reducible refine HH16.out.mono ?_; rintro e' w2 ⟨rfl, rfl⟩) | (with_reducible refine HH32.out.mono ?_; rintro e' w2 ⟨rfl, rfl⟩)); go_wp2_with fail)
      refine hB.out _ _ ?_
      repeat' apply Exists.intro
      exact ⟨rfl, rfl⟩
  rintro a' w' ⟨u5, u6, u7, u8, u9, u10, u11, u12, u13, u14, u15, u16, u17, u18, u19, u20, u21, u22, u23, u24, u25, u26, u27, u28, u29, u30, u31, u32, u33, u34, u35, u36, u37, u38, u39, u40, u41, u42, u43, u44, u45, u46, u47, u48, u49, u50, u51, u52, u53, u54, u55, u56, u57, u58, u59, u60, u61, u62, u63, rfl, rfl⟩
  simp only [List.drop_succ_cons, List.drop_zero]
  clear HP5
  cases p5 <;> cases v6 <;> cases u6
  all_goals
    have hp := HP6.out
    subst hp
    go_wp2_with fail
    repeat ((first | (with_reducible refine HA.out.mono ?_; rintro e' w2 ⟨rfl, rfl⟩) | (with_reducible refine HB.out.mono ?_; rintro e' w2 ⟨rfl, rfl⟩) | (with_reducible refine HH1.out.mono ?_; rintro e' w2 ⟨rfl, rfl⟩) | (with_reducible refine HH2.out.mono ?_; rintro e' w2 ⟨rfl, rfl⟩) | (with_reducible refine HH4.out.mono ?_; rintro e' w2 ⟨rfl, rfl⟩) | (with_reducible refine HH8.out.mono ?_; rintro e' w2 ⟨rfl, rfl⟩) | (with_reducible refine HH16.out.mono ?_; rintro e' w2 ⟨rfl, rfl⟩) | (with_reducible refine HH32.out.mono ?_; rintro e' w2 ⟨rfl, rfl⟩)); go_wp2_with fail)
    go_ret
    exact ⟨rfl, rfl⟩
end Go.Proofs.YteglaeopaocilaaGreatDoor.A
namespace Go.Proofs.YteglaeopaocilaaGreatDoor.A
open Go.RowKit
open L (Str isName prt size_len below_2 below_box ret_bool ret_int eql_eq bytes_eq)

theorem st_bad {s : St} {d : Nat} (h : badS s = true ∨ badM s = true) : stE s d = 1 := by
  unfold stE
  rcases h with h | h
  · rw [if_pos h]
  · rw [h]; split <;> rfl
theorem st_name {s : St} {d : Nat} (h1 : badS s = false) (h2 : badM s = false) (h : uN s.op = true) (h3 : nam s.name = false) : stE s d = 7 := by
  unfold stE
  rw [h1, h2, h, h3]; rfl
/-- what is left behind the name -/
def restE (s : St) (d : Nat) : Int := if (uA s.op && !decide (vE s.a 1 = 0)) = true then vE s.a 1 else if (uB s.op && !decide (vE s.b 1 = 0)) = true then vE s.b 1 else if 12 < d then 2 else 0
theorem st_rest {s : St} {d : Nat} (h1 : badS s = false) (h2 : badM s = false) (h : uN s.op = false ∨ nam s.name = true) : stE s d = restE s d := by
  unfold stE restE
  rw [h1, h2]
  rcases h with h | h
  · rw [h]; rfl
  · rw [h]; simp
set_option maxHeartbeats 8000000 in
set_option maxRecDepth 100000 in
theorem ostmtError_any (s : St) (b i d : Nat) (hd : d ≤ 1000000) (hok : okS s) (w : World) (h : StAt w s b i) :
    Calls Tryz.prog 36 #[.pointer (some ⟨b, i, none⟩), .int .i64 (d : Int)] w fun e' w' => e' = .returned (.int .i64 (stE s d)) ∧ Below w.heap.size w w' := by
  have ho := okS_open hok
  obtain ⟨a1, c1, a2, c2, a3, c3, a4, c4, hcs, hks⟩ := h.open
  have HU := Lib.hid (fun w => oused_any s.op w)
  have HF := Lib.hid (ofills_any s b i a1 c1 a2 c2 a3 c3 a4 c4 ho.bodyLen ho.elsLen w hcs)
  have HM := Lib.hid (omax_any s b i w hcs.k0 hcs.k2)
  have HH1 := Lib.hid (fun w => ohas_any s.op 1 (by omega) w)
  have HH4 := Lib.hid (fun w => ohas_any s.op 4 (by omega) w)
  have HH8 := Lib.hid (fun w => ohas_any s.op 8 (by omega) w)
  have HI : Hid (∀ w, Calls Tryz.prog 32 #[.string s.name] w fun e' w' => e' = .returned (.bool (nam s.name)) ∧ Below w.heap.size w w') := fun w => L.oname_any s.name w
  have HVA := Lib.hid (fun w h => ovalidExpr_any s.a a1 c1 ho.a w h)
  have HVB := Lib.hid (fun w h => ovalidExpr_any s.b a2 c2 ho.b w h)
  have HC := Lib.hid hcs
  have HK := Lib.hid hks
  have hfb := fill_bad s
  obtain ⟨hu1, hu4, hu8, _, _, _, _⟩ := used_bits s.op
  rw [hu1] at HH1
  rw [hu4] at HH4
  rw [hu8] at HH8
  have X1 := Lib.hid (@st_bad s d)
  have X2 := Lib.hid (@st_name s d)
  have X3 := Lib.hid (@st_rest s d)
  have hR : restE s d = _ := rfl
  unfold restE at hR
  rw [show restE s d = (if (uA s.op && !decide (vE s.a 1 = 0)) = true then vE s.a 1 else if (uB s.op && !decide (vE s.b 1 = 0)) = true then vE s.b 1 else if 12 < d then 2 else 0) from rfl] at X3
  clear hR
  have k0 := hcs.k0
  have k1 := hcs.k1
  generalize badS s = BS at X1 X2 X3 hfb
  generalize badM s = BM at X1 X2 X3 HM
  generalize fillB s = FB at HF hfb
  generalize uN s.op = UN at X2 X3 HH1
  generalize uA s.op = UA at X3 HH4
  generalize uB s.op = UB at X3 HH8
  generalize nam s.name = NM at X2 X3 HI
  generalize vE s.a 1 = va at X3 HVA
  generalize vE s.b 1 = vb at X3 HVB
  obtain ⟨z0, hz0⟩ : ∃ z, (usedI s.op == 0) = z := ⟨_, rfl⟩
  rw [hz0] at hfb
  have HFB := Lib.hid hfb
  have HBc := Lib.hid (Below.refl w.heap.size w)
  generalize stE s d = R at X1 X2 X3 ⊢
  generalize usedI s.op = uu at HU HF HH1 HH4 HH8 hz0
  clear ho hok h hcs hks hfb hu1 hu4 hu8
  unfold exV at HVA HVB
  go_enter Tryz.func36, Tryz.ntmps36
  go_wp2_with fail
  refine (HU.out _).mono ?_; rintro e' w1 ⟨rfl, rfl⟩
  cases z0
  case true =>
    have HV : Hid (R = 1) := X1.out (Or.inl (by rw [← HFB.out]; rfl))
    go_wp2_with fail
    go_ret
    exact ⟨ret_int HV.out.symm, HBc.out⟩
  go_wp2_with fail
  refine HF.out.mono ?_; rintro e' w2 ⟨rfl, rfl⟩
  cases FB
  case true =>
    have HV : Hid (R = 1) := X1.out (Or.inl (by rw [← HFB.out]; rfl))
    go_wp2_with fail
    go_ret
    exact ⟨ret_int HV.out.symm, HBc.out⟩
  obtain rfl : BS = false := by rw [← HFB.out]; rfl
  go_wp2_with fail
  refine HM.out.mono ?_; rintro e' w3 ⟨rfl, rfl⟩
  cases BM
  case true =>
    have HV : Hid (R = 1) := X1.out (by simp)
    go_wp2_with fail
    go_ret
    exact ⟨ret_int HV.out.symm, HBc.out⟩
  go_wp2_with fail
  refine (HH1.out _).mono ?_; rintro e' w4 ⟨rfl, rfl⟩
  cases UN
  · have HRA := Lib.hid (X3.out (by trivial) (by trivial) (by simp))
    go_wp2_with fail
    refine (HH4.out _).mono ?_; rintro e' w5 ⟨rfl, rfl⟩
    cases UA
    · have HRB : Hid (R = if (UB && !decide (vb = 0)) = true then vb else if 12 < d then 2 else 0) := by show _ = _; rw [HRA.out]; rfl
      go_wp2_with fail
      refine (HH8.out _).mono ?_; rintro e' w5 ⟨rfl, rfl⟩
      cases UB
      · have HR : Hid (R = if 12 < d then 2 else 0) := by show _ = _; rw [HRB.out]; rfl
        by_cases hd12 : 12 < d
        · have bd : decide (12 < (d : Int)) = true := decide_eq_true (by omega)
          have HV : Hid (R = 2) := by show _ = _; rw [HR.out, if_pos hd12]
          clear hd12
          go_wp2_with fail
          go_ret
          exact ⟨ret_int HV.out.symm, HBc.out⟩
        · have bd : decide (12 < (d : Int)) = false := decide_eq_false (by omega)
          have HV : Hid (R = 0) := by show _ = _; rw [HR.out, if_neg hd12]
          clear hd12
          go_wp2_with fail
          go_ret
          exact ⟨ret_int HV.out.symm, HBc.out⟩
      · obtain ⟨_, _, _, _, _, _, _, m7, m8, m9, m10, _, _⟩ := HC.out.below HBc.out
        go_wp2_with fail
        refine (HVB.out _ (HK.out.below HBc.out).b).mono ?_; rintro e' w6 ⟨rfl, hb⟩
        have HBc := Lib.hid (below_2 HBc.out hb)
        clear hb m7 m8 m9 m10
        by_cases hvb : vb = 0
        · have bb : (vb != 0) = false := by rw [bne_eq_false_iff_eq]; exact hvb
          have HR : Hid (R = if 12 < d then 2 else 0) := by show _ = _; rw [HRB.out, hvb]; rfl
          clear hvb
          by_cases hd12 : 12 < d
          · have bd : decide (12 < (d : Int)) = true := decide_eq_true (by omega)
            have HV : Hid (R = 2) := by show _ = _; rw [HR.out, if_pos hd12]
            clear hd12
            go_wp2_with fail
            go_ret
            exact ⟨ret_int HV.out.symm, HBc.out⟩
          · have bd : decide (12 < (d : Int)) = false := decide_eq_false (by omega)
            have HV : Hid (R = 0) := by show _ = _; rw [HR.out, if_neg hd12]
            clear hd12
            go_wp2_with fail
            go_ret
            exact ⟨ret_int HV.out.symm, HBc.out⟩
        · have bb : (vb != 0) = true := bne_iff_ne.2 hvb
          have HV : Hid (R = vb) := by show _ = _; rw [HRB.out, decide_eq_false hvb]; rfl
          clear hvb
          go_wp2_with fail
          go_ret
          exact ⟨ret_int HV.out.symm, HBc.out⟩
    · obtain ⟨_, _, _, m3, m4, m5, m6, _, _, _, _, _, _⟩ := HC.out.below HBc.out
      go_wp2_with fail
      refine (HVA.out _ (HK.out.below HBc.out).a).mono ?_; rintro e' w6 ⟨rfl, hb⟩
      have HBc := Lib.hid (below_2 HBc.out hb)
      clear hb m3 m4 m5 m6
      by_cases hva : va = 0
      · have ba : (va != 0) = false := by rw [bne_eq_false_iff_eq]; exact hva
        have HRB : Hid (R = if (UB && !decide (vb = 0)) = true then vb else if 12 < d then 2 else 0) := by show _ = _; rw [HRA.out, hva]; rfl
        clear hva
        go_wp2_with fail
        refine (HH8.out _).mono ?_; rintro e' w5 ⟨rfl, rfl⟩
        cases UB
        · have HR : Hid (R = if 12 < d then 2 else 0) := by show _ = _; rw [HRB.out]; rfl
          by_cases hd12 : 12 < d
          · have bd : decide (12 < (d : Int)) = true := decide_eq_true (by omega)
            have HV : Hid (R = 2) := by show _ = _; rw [HR.out, if_pos hd12]
            clear hd12
            go_wp2_with fail
            go_ret
            exact ⟨ret_int HV.out.symm, HBc.out⟩
          · have bd : decide (12 < (d : Int)) = false := decide_eq_false (by omega)
            have HV : Hid (R = 0) := by show _ = _; rw [HR.out, if_neg hd12]
            clear hd12
            go_wp2_with fail
            go_ret
            exact ⟨ret_int HV.out.symm, HBc.out⟩
        · obtain ⟨_, _, _, _, _, _, _, m7, m8, m9, m10, _, _⟩ := HC.out.below HBc.out
          go_wp2_with fail
          refine (HVB.out _ (HK.out.below HBc.out).b).mono ?_; rintro e' w6 ⟨rfl, hb⟩
          have HBc := Lib.hid (below_2 HBc.out hb)
          clear hb m7 m8 m9 m10
          by_cases hvb : vb = 0
          · have bb : (vb != 0) = false := by rw [bne_eq_false_iff_eq]; exact hvb
            have HR : Hid (R = if 12 < d then 2 else 0) := by show _ = _; rw [HRB.out, hvb]; rfl
            clear hvb
            by_cases hd12 : 12 < d
            · have bd : decide (12 < (d : Int)) = true := decide_eq_true (by omega)
              have HV : Hid (R = 2) := by show _ = _; rw [HR.out, if_pos hd12]
              clear hd12
              go_wp2_with fail
              go_ret
              exact ⟨ret_int HV.out.symm, HBc.out⟩
            · have bd : decide (12 < (d : Int)) = false := decide_eq_false (by omega)
              have HV : Hid (R = 0) := by show _ = _; rw [HR.out, if_neg hd12]
              clear hd12
              go_wp2_with fail
              go_ret
              exact ⟨ret_int HV.out.symm, HBc.out⟩
          · have bb : (vb != 0) = true := bne_iff_ne.2 hvb
            have HV : Hid (R = vb) := by show _ = _; rw [HRB.out, decide_eq_false hvb]; rfl
            clear hvb
            go_wp2_with fail
            go_ret
            exact ⟨ret_int HV.out.symm, HBc.out⟩
      · have ba : (va != 0) = true := bne_iff_ne.2 hva
        have HV : Hid (R = va) := by show _ = _; rw [HRA.out, decide_eq_false hva]; rfl
        clear hva
        go_wp2_with fail
        go_ret
        exact ⟨ret_int HV.out.symm, HBc.out⟩
  · go_wp2_with fail
    refine (HI.out _).mono ?_; rintro e' w5 ⟨rfl, hb⟩
    have HBc := Lib.hid (below_2 HBc.out hb)
    clear hb k0 k1
    cases NM
    · have HV : Hid (R = 7) := X2.out (by trivial) (by trivial) (by trivial) (by trivial)
      go_wp2_with fail
      go_ret
      exact ⟨ret_int HV.out.symm, HBc.out⟩
    · have HRA := Lib.hid (X3.out (by trivial) (by trivial) (by simp))
      go_wp2_with fail
      refine (HH4.out _).mono ?_; rintro e' w5 ⟨rfl, rfl⟩
      cases UA
      · have HRB : Hid (R = if (UB && !decide (vb = 0)) = true then vb else if 12 < d then 2 else 0) := by show _ = _; rw [HRA.out]; rfl
        go_wp2_with fail
        refine (HH8.out _).mono ?_; rintro e' w5 ⟨rfl, rfl⟩
        cases UB
        · have HR : Hid (R = if 12 < d then 2 else 0) := by show _ = _; rw [HRB.out]; rfl
          by_cases hd12 : 12 < d
          · have bd : decide (12 < (d : Int)) = true := decide_eq_true (by omega)
            have HV : Hid (R = 2) := by show _ = _; rw [HR.out, if_pos hd12]
            clear hd12
            go_wp2_with fail
            go_ret
            exact ⟨ret_int HV.out.symm, HBc.out⟩
          · have bd : decide (12 < (d : Int)) = false := decide_eq_false (by omega)
            have HV : Hid (R = 0) := by show _ = _; rw [HR.out, if_neg hd12]
            clear hd12
            go_wp2_with fail
            go_ret
            exact ⟨ret_int HV.out.symm, HBc.out⟩
        · obtain ⟨_, _, _, _, _, _, _, m7, m8, m9, m10, _, _⟩ := HC.out.below HBc.out
          go_wp2_with fail
          refine (HVB.out _ (HK.out.below HBc.out).b).mono ?_; rintro e' w6 ⟨rfl, hb⟩
          have HBc := Lib.hid (below_2 HBc.out hb)
          clear hb m7 m8 m9 m10
          by_cases hvb : vb = 0
          · have bb : (vb != 0) = false := by rw [bne_eq_false_iff_eq]; exact hvb
            have HR : Hid (R = if 12 < d then 2 else 0) := by show _ = _; rw [HRB.out, hvb]; rfl
            clear hvb
            by_cases hd12 : 12 < d
            · have bd : decide (12 < (d : Int)) = true := decide_eq_true (by omega)
              have HV : Hid (R = 2) := by show _ = _; rw [HR.out, if_pos hd12]
              clear hd12
              go_wp2_with fail
              go_ret
              exact ⟨ret_int HV.out.symm, HBc.out⟩
            · have bd : decide (12 < (d : Int)) = false := decide_eq_false (by omega)
              have HV : Hid (R = 0) := by show _ = _; rw [HR.out, if_neg hd12]
              clear hd12
              go_wp2_with fail
              go_ret
              exact ⟨ret_int HV.out.symm, HBc.out⟩
          · have bb : (vb != 0) = true := bne_iff_ne.2 hvb
            have HV : Hid (R = vb) := by show _ = _; rw [HRB.out, decide_eq_false hvb]; rfl
            clear hvb
            go_wp2_with fail
            go_ret
            exact ⟨ret_int HV.out.symm, HBc.out⟩
      · obtain ⟨_, _, _, m3, m4, m5, m6, _, _, _, _, _, _⟩ := HC.out.below HBc.out
        go_wp2_with fail
        refine (HVA.out _ (HK.out.below HBc.out).a).mono ?_; rintro e' w6 ⟨rfl, hb⟩
        have HBc := Lib.hid (below_2 HBc.out hb)
        clear hb m3 m4 m5 m6
        by_cases hva : va = 0
        · have ba : (va != 0) = false := by rw [bne_eq_false_iff_eq]; exact hva
          have HRB : Hid (R = if (UB && !decide (vb = 0)) = true then vb else if 12 < d then 2 else 0) := by show _ = _; rw [HRA.out, hva]; rfl
          clear hva
          go_wp2_with fail
          refine (HH8.out _).mono ?_; rintro e' w5 ⟨rfl, rfl⟩
          cases UB
          · have HR : Hid (R = if 12 < d then 2 else 0) := by show _ = _; rw [HRB.out]; rfl
            by_cases hd12 : 12 < d
            · have bd : decide (12 < (d : Int)) = true := decide_eq_true (by omega)
              have HV : Hid (R = 2) := by show _ = _; rw [HR.out, if_pos hd12]
              clear hd12
              go_wp2_with fail
              go_ret
              exact ⟨ret_int HV.out.symm, HBc.out⟩
            · have bd : decide (12 < (d : Int)) = false := decide_eq_false (by omega)
              have HV : Hid (R = 0) := by show _ = _; rw [HR.out, if_neg hd12]
              clear hd12
              go_wp2_with fail
              go_ret
              exact ⟨ret_int HV.out.symm, HBc.out⟩
          · obtain ⟨_, _, _, _, _, _, _, m7, m8, m9, m10, _, _⟩ := HC.out.below HBc.out
            go_wp2_with fail
            refine (HVB.out _ (HK.out.below HBc.out).b).mono ?_; rintro e' w6 ⟨rfl, hb⟩
            have HBc := Lib.hid (below_2 HBc.out hb)
            clear hb m7 m8 m9 m10
            by_cases hvb : vb = 0
            · have bb : (vb != 0) = false := by rw [bne_eq_false_iff_eq]; exact hvb
              have HR : Hid (R = if 12 < d then 2 else 0) := by show _ = _; rw [HRB.out, hvb]; rfl
              clear hvb
              by_cases hd12 : 12 < d
              · have bd : decide (12 < (d : Int)) = true := decide_eq_true (by omega)
                have HV : Hid (R = 2) := by show _ = _; rw [HR.out, if_pos hd12]
                clear hd12
                go_wp2_with fail
                go_ret
                exact ⟨ret_int HV.out.symm, HBc.out⟩
              · have bd : decide (12 < (d : Int)) = false := decide_eq_false (by omega)
                have HV : Hid (R = 0) := by show _ = _; rw [HR.out, if_neg hd12]
                clear hd12
                go_wp2_with fail
                go_ret
                exact ⟨ret_int HV.out.symm, HBc.out⟩
            · have bb : (vb != 0) = true := bne_iff_ne.2 hvb
              have HV : Hid (R = vb) := by show _ = _; rw [HRB.out, decide_eq_false hvb]; rfl
              clear hvb
              go_wp2_with fail
              go_ret
              exact ⟨ret_int HV.out.symm, HBc.out⟩
        · have ba : (va != 0) = true := bne_iff_ne.2 hva
          have HV : Hid (R = va) := by show _ = _; rw [HRA.out, decide_eq_false hva]; rfl
          clear hva
          go_wp2_with fail
          go_ret
          exact ⟨ret_int HV.out.symm, HBc.out⟩
end Go.Proofs.YteglaeopaocilaaGreatDoor.A
