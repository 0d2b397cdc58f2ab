/-
  What the parser's small methods return: next, unexpected, tooDeep: contracts.
  What the parser's small methods return: skip, sees, take, expect: contracts.
  What the parser's small methods return: sees, take, expect: contracts.
  What the parser's small methods return: token, name, max, end, apply: contracts.
  What the parser's methods return: exprBefore, enclosed, argument, nested: contracts.
  What the parser's methods return: enclosed, argument: contracts.
-/
import Derived.Test.YteglaeopaocilaaGreatDoorM21
namespace Go.Proofs.YteglaeopaocilaaGreatDoor.P
open Go.RowKit
open L (Str Tok Tks toks At below_2 below_box ret_bool ret_int ret_string)
open A

abbrev ptr (g : Nat) : Value := .pointer (some ⟨g, 0, none⟩)
/-- the next token, or a zero one -/
def nxt (XS : List L.T) (k : Nat) : L.T := if h : k < XS.length then XS[k] else ⟨0, ⟨#[]⟩, 0, 0⟩
theorem nxt_in {XS : List L.T} {k : Nat} (h : k < XS.length) : nxt XS k = XS[k] := by unfold nxt; rw [dif_pos h]
theorem nxt_out {XS : List L.T} {k : Nat} (h : XS.length ≤ k) : nxt XS k = ⟨0, ⟨#[]⟩, 0, 0⟩ := by unfold nxt; rw [dif_neg (by omega)]
theorem drop_in {XS : List L.T} {k : Nat} (h : k < XS.length) : XS.drop k = XS[k] :: XS.drop (k + 1) := List.drop_eq_getElem_cons h
set_option maxHeartbeats 4000000 in
set_option maxRecDepth 100000 in
theorem onext_any (g : Nat) (XS : List L.T) (k ne bl : Nat) (w : World) (h : Psr g XS k ne bl w) :
    Calls Tryz.prog 159 #[ptr g] w fun e w' => e = .returned (nxt XS k).val ∧ Below w.heap.size w w' := by
  obtain ⟨hk, -, -, a, c, hB, hc, hT⟩ := h
  have hbx := below_box w (.cells #[.int .i64 0, .string ⟨#[]⟩, .int .i64 0, .int .i64 0] 101)
  obtain ⟨c0, c1, c2, c3⟩ := cells4 (hB.below hbx)
  rcases Nat.lt_or_ge k XS.length with hlt | hge
  · rw [nxt_in hlt]
    rw [drop_in hlt] at hT
    obtain ⟨b, o, rfl, hg, hat⟩ := (hT.kp (Kp.of hbx)).open
    obtain ⟨d0, d1, d2, d3⟩ := hat 0 (Nat.succ_pos _)
    simp only [Nat.zero_mul, Nat.add_zero, List.getElem_cons_zero] at d0 d1 d2 d3
    have hmp : 0 < XS.length - k := by omega
    have e0 : (((XS.length - k : Nat) : Int) == 0) = false := beq_eq_false_iff_ne.2 (by omega)
    generalize XS.length - k = m at *
    clear hat hT hk hB hc
    generalize XS[k] = p at *
    clear hlt
    go_enter Tryz.func159, Tryz.ntmps159
    go_wp2_with fail
    refine bodyPost_ret (v := p.val) (by simp [results, Tryz.results159, go_sem, L.T.val]) rfl ?_
    exact ⟨rfl, below_box _ _⟩
  · rw [nxt_out hge]
    have hm : XS.length - k = 0 := by omega
    rw [hm] at c0
    clear hT hge hk hB hc
    go_enter Tryz.func159, Tryz.ntmps159
    go_wp2_with fail
    refine bodyPost_ret (v := L.T.val ⟨0, ⟨#[]⟩, 0, 0⟩) (by simp [results, Tryz.results159, go_sem, L.T.val]) rfl ?_
    exact ⟨rfl, below_box _ _⟩
def failV (l x : Int) : Value := .agg #[.int .i64 l, .int .i64 x]
theorem cells2 {w : World} {b : Nat} {x y : Value} {t : TypeId} (h : Bk w b #[x, y] t) : w.cell? ⟨b, 0, none⟩ = some x ∧ w.cell? ⟨b, 1, none⟩ = some y := ⟨h.cell 0, h.cell 1⟩
theorem free2 {w : World} {b : Nat} {x y : Value} {t : TypeId} (h : Bk w b #[x, y] t) : w.frozen? ⟨b, 0, none⟩ = false ∧ w.frozen? ⟨b, 1, none⟩ = false := ⟨h.free 0, h.free 1⟩
theorem stored2 {w : World} {g : Nat} {x y : Value} {t : TypeId} (h : Bk w g #[x, y] t) (a b : Value) :
    let w' := (w.setCell ⟨g, 0, none⟩ a).setCell ⟨g, 1, none⟩ b
    w'.cell? ⟨g, 0, none⟩ = some a ∧ w'.cell? ⟨g, 1, none⟩ = some b := by
  have h4 := (h.set 0 (u := a)).set 1 (u := b)
  exact cells2 (x := a) (y := b) (by simpa using h4)
set_option maxHeartbeats 4000000 in
set_option maxRecDepth 100000 in
theorem ounexpected_any (g : Nat) (XS : List L.T) (k ne bl : Nat) (w : World) (h : Psr g XS k ne bl w) :
    Calls Tryz.prog 133 #[ptr g] w fun e w' => e = .returned (failV (lineAt XS k) (wrong (dr XS k))) ∧ Below w.heap.size w w' := by
  obtain ⟨hk, -, -, a, c, hB, hc, hT⟩ := h
  have hbx := below_box w (.cells #[.int .i64 0, .int .i64 0] 117)
  obtain ⟨c0, c1, c2, c3⟩ := cells4 (hB.below hbx)
  rcases Nat.lt_or_ge k XS.length with hlt | hge
  · rw [wr_in hlt, line_here hlt]
    rw [drop_in hlt] at hT
    obtain ⟨b, o, rfl, hg, hat⟩ := (hT.kp (Kp.of hbx)).open
    obtain ⟨d0, d1, d2, d3⟩ := hat 0 (Nat.succ_pos _)
    simp only [Nat.zero_mul, Nat.add_zero, List.getElem_cons_zero] at d0 d1 d2 d3
    have hmp : 0 < XS.length - k := by omega
    have e0 : (((XS.length - k : Nat) : Int) == 0) = false := beq_eq_false_iff_ne.2 (by omega)
    generalize XS.length - k = m at *
    clear hat hT hk hB hc
    generalize XS[k] = p at *
    clear hlt
    go_enter Tryz.func133, Tryz.ntmps133
    go_wp2_with fail
    refine bodyPost_ret (v := failV p.line 5) (by simp [results, Tryz.results133, go_sem, failV]) rfl ?_
    exact ⟨rfl, below_box _ _⟩
  · have hk2 : k = XS.length := by omega
    rw [wr_end hge]
    subst hk2
    rw [line_end]
    have hm : XS.length - XS.length = 0 := by omega
    rw [hm] at c0
    generalize lnAt XS XS.length = ln at *
    clear hT hge hk hB hc
    go_enter Tryz.func133, Tryz.ntmps133
    go_wp2_with fail
    refine bodyPost_ret (v := failV ln 6) (by simp [results, Tryz.results133, go_sem, failV]) rfl ?_
    exact ⟨rfl, below_box _ _⟩
set_option maxHeartbeats 4000000 in
set_option maxRecDepth 100000 in
theorem otooDeep_any (g : Nat) (XS : List L.T) (k ne bl : Nat) (w : World) (h : Psr g XS k ne bl w) :
    Calls Tryz.prog 137 #[ptr g] w fun e w' => e = .returned (failV (lnAt XS k) 2) ∧ Below w.heap.size w w' := by
  obtain ⟨hk, -, -, a, c, hB, hc, hT⟩ := h
  have hbx := below_box w (.cells #[.int .i64 0, .int .i64 0] 117)
  obtain ⟨c0, c1, c2, c3⟩ := cells4 (hB.below hbx)
  generalize lnAt XS k = ln at *
  clear hT hk hB hc
  go_enter Tryz.func137, Tryz.ntmps137
  go_wp2_with fail
  refine bodyPost_ret (v := failV ln 2) (by simp [results, Tryz.results137, go_sem, failV]) rfl ?_
  exact ⟨rfl, below_box _ _⟩
end Go.Proofs.YteglaeopaocilaaGreatDoor.P
namespace Go.Proofs.YteglaeopaocilaaGreatDoor.P
open Go.RowKit
open L (Str Tok Tks toks At below_2 below_box ret_bool ret_int ret_string)
open A

theorem bk_skip {w : World} {g : Nat} {x y z u a b : Value} {t : TypeId} (h : Bk w g #[x, y, z, u] t) : Bk ((w.setCell ⟨g, 1, none⟩ b).setCell ⟨g, 0, none⟩ a) g #[a, b, z, u] t := by
  have h4 := (h.set 1 (u := b)).set 0 (u := a)
  simpa using h4
theorem psr_skip {g : Nat} {XS : List L.T} {k ne bl m c' : Nat} {w : World} {x y : Value} {ln : Int} {ad : Option Addr} (h : Bk w g #[x, y, .int .i64 ne, .int .i64 bl] 164) (hk : k + 1 ≤ XS.length) (hm : XS.length - (k + 1) = m - 1) (hl : lnAt XS (k + 1) = ln) (ht : OTab w) (hg : 3 < g)
    (hc : XS.length - (k + 1) ≤ c') (hT : TkK g w ad (XS.drop (k + 1))) : Psr g XS (k + 1) ne bl ((w.setCell ⟨g, 1, none⟩ (.int .i64 ln)).setCell ⟨g, 0, none⟩ (.slice ad (m - 1) c')) := by
  have hkp : Kp w.heap.size g w ((w.setCell ⟨g, 1, none⟩ (.int .i64 ln)).setCell ⟨g, 0, none⟩ (.slice ad (m - 1) c')) := Kp.set.trans Kp.set
  exact ⟨hk, ht.kp hg hkp, hg, ad, c', by rw [hm, hl]; exact bk_skip h, hc, hT.kp hkp⟩
set_option maxHeartbeats 4000000 in
set_option maxRecDepth 100000 in
theorem oskip_any (g : Nat) (XS : List L.T) (k ne bl : Nat) (w : World) (h : Psr g XS k ne bl w) (hlt : k < XS.length) :
    Calls Tryz.prog 177 #[ptr g] w fun e w' => e = .returned (.tuple #[]) ∧ Kp w.heap.size g w w' ∧ Psr g XS (k + 1) ne bl w' := by
  obtain ⟨hk, htab, hgn, a, c, hB, hc, hT⟩ := h
  obtain ⟨c0, c1, c2, c3⟩ := cells4 hB
  obtain ⟨f0, f1, f2, f3⟩ := free4 hB
  rw [drop_in hlt] at hT
  obtain ⟨b, o, rfl, hg, hat⟩ := hT.open
  obtain ⟨d0, d1, d2, d3⟩ := hat 0 (Nat.succ_pos _)
  simp only [Nat.zero_mul, Nat.add_zero, List.getElem_cons_zero] at d0 d1 d2 d3
  have HL := Lib.hid (lnAt_next hlt)
  have HA := Lib.hid (TkK.tail hg hat)
  have HB := Lib.hid hB
  have HTab := Lib.hid htab
  have HG := Lib.hid hgn
  have hbg : ¬ b = g := Nat.ne_of_lt hg
  have hbg2 : ¬ g = b := fun e => hbg e.symm
  have hmp : 0 < XS.length - k := by omega
  have HM2 : Hid (XS.length - (k + 1) = XS.length - k - 1) := by show _ = _; omega
  have HK : Hid (k + 1 ≤ XS.length) := hlt
  clear hat hT hk hB htab hgn hg
  generalize XS[k] = p at *
  clear hlt
  generalize XS.length - k = m at *
  have e1 : ¬ (m : Int) < 1 := by omega
  have e2 : ¬ (c : Int) < 1 := by omega
  go_enter Tryz.func177, Tryz.ntmps177
  go_wp2_with fail
  · go_end0
    have hz : XS.length ≤ k + 1 := by have := HM2.out; omega
    exact ⟨rfl, Kp.set.trans Kp.set, psr_skip HB.out HK.out HM2.out HL.out HTab.out HG.out (by rw [HM2.out]; omega) (Or.inl (List.drop_eq_nil_of_le hz))⟩
  · go_end0
    exact ⟨rfl, Kp.set.trans Kp.set, psr_skip HB.out HK.out HM2.out HL.out HTab.out HG.out (by rw [HM2.out]; omega) HA.out⟩
end Go.Proofs.YteglaeopaocilaaGreatDoor.P
namespace Go.Proofs.YteglaeopaocilaaGreatDoor.P
open Go.RowKit
open L (Str Tok Tks toks At below_2 below_box ret_bool ret_int ret_string)
open A

theorem isW_nxt {XS : List L.T} {k : Nat} (s : Str) : isW (dr XS k) s = ((decide ((nxt XS k).k = 2) || decide ((nxt XS k).k = 5)) && decide ((nxt XS k).t.data.toList = s)) := by
  rcases Nat.lt_or_ge k XS.length with h | h
  · rw [nxt_in h, is_some h]
  · rw [nxt_out h, is_none h]; rfl
set_option maxHeartbeats 4000000 in
set_option maxRecDepth 100000 in
theorem osees_any (g : Nat) (XS : List L.T) (k ne bl : Nat) (w : World) (h : Psr g XS k ne bl w) (s : ByteArray) :
    Calls Tryz.prog 106 #[ptr g, .string s] w fun e w' => e = .returned (.bool (isW (dr XS k) s.data.toList)) ∧ Below w.heap.size w w' := by
  have HN := Lib.hid (onext_any g XS k ne bl w h)
  have HV := Lib.hid (isW_nxt (XS := XS) (k := k) s.data.toList)
  generalize isW (dr XS k) s.data.toList = V at HV ⊢
  generalize nxt XS k = p at HN HV
  unfold L.T.val at HN
  clear h
  cases h2 : decide (p.k = 2) <;> cases h5 : decide (p.k = 5) <;> cases ht : decide (p.t.data.toList = s.data.toList)
  all_goals
    have b2 : (p.k == 2) = decide (p.k = 2) := rfl
    have b5 : (p.k == 5) = decide (p.k = 5) := rfl
    have bt := L.eql_eq p.t s
    rw [h2, h5, ht] at HV
    rw [h2] at b2
    rw [h5] at b5
    rw [ht] at bt
    clear h2 h5 ht
    rw [HV.out]
    clear HV
    go_enter Tryz.func106, Tryz.ntmps106
    go_wp2_with fail
    refine HN.out.mono ?_; rintro e w1 ⟨rfl, hb⟩
    have HB := Lib.hid (hb.trans ((below_box w1 (.cells #[.int .i64 p.k, .string p.t, .int .i64 p.n, .int .i64 p.line] 101)).mono hb.size))
    clear hb
    go_wp2_with fail
    go_ret
    exact ⟨rfl, HB.out⟩
/-- behind the word, or here -/
def adv (b : Bool) (k : Nat) : Nat := if b then k + 1 else k
set_option maxHeartbeats 4000000 in
set_option maxRecDepth 100000 in
theorem otake_any (g : Nat) (XS : List L.T) (k ne bl : Nat) (w : World) (h : Psr g XS k ne bl w) (s : ByteArray) :
    Calls Tryz.prog 134 #[ptr g, .string s] w fun e w' => e = .returned (.bool (isW (dr XS k) s.data.toList)) ∧ Kp w.heap.size g w w' ∧ Psr g XS (adv (isW (dr XS k) s.data.toList) k) ne bl w' := by
  have HN := Lib.hid (osees_any g XS k ne bl w h s)
  have HP := Lib.hid h
  cases hV : isW (dr XS k) s.data.toList
  · rw [hV] at HN
    clear h hV
    go_enter Tryz.func134, Tryz.ntmps134
    go_wp2_with fail
    refine HN.out.mono ?_; rintro e w1 ⟨rfl, hb⟩
    have HB := Lib.hid hb
    clear hb
    go_wp2_with fail
    go_ret
    exact ⟨rfl, Kp.of HB.out, HP.out.below HB.out⟩
  · rw [hV] at HN
    have hlt : k < XS.length := by
      rcases Nat.lt_or_ge k XS.length with h | h
      · exact h
      · rw [is_none h] at hV; cases hV
    have HS := Lib.hid (fun w' (h' : Psr g XS k ne bl w') => oskip_any g XS k ne bl w' h' hlt)
    clear h hV hlt
    go_enter Tryz.func134, Tryz.ntmps134
    go_wp2_with fail
    refine HN.out.mono ?_; rintro e w1 ⟨rfl, hb⟩
    have HB := Lib.hid hb
    clear hb
    go_wp2_with fail
    refine (HS.out w1 (HP.out.below HB.out)).mono ?_; rintro e w2 ⟨rfl, hb2, hP2⟩
    have HB2 := Lib.hid hb2
    have HP2 := Lib.hid hP2
    clear hb2 hP2
    go_wp2_with fail
    go_ret
    exact ⟨rfl, (Kp.of HB.out).on rfl HB2.out, HP2.out⟩
theorem fails_of {XS : List L.T} {k : Nat} {x l : Int} (h : lineAt XS k = l) : Ending.panicked [{ v := .iface 117 (.agg #[.int .i64 l, .int .i64 x]), recovered := false }] = fails XS k x := by
  subst h; rfl
/-- a word, or the error -/
def wQ (XS : List L.T) (k : Nat) (s : Str) : R Unit := if isW (dr XS k) s = true then .ok () (dr XS (k + 1)) else .no (dr XS k) (wrong (dr XS k))
def okU (_ : Unit) (v : Value) : Prop := v = .tuple #[]
theorem len_dr {XS : List L.T} {k : Nat} (h : k ≤ XS.length) : XS.length - (dr XS k).length = k := by rw [dr_len]; omega
set_option maxHeartbeats 4000000 in
set_option maxRecDepth 100000 in
theorem oexpect_any (g : Nat) (XS : List L.T) (k ne bl : Nat) (w : World) (h : Psr g XS k ne bl w) (s : ByteArray) :
    Calls Tryz.prog 82 #[ptr g, .string s] w fun e w' => PRd g XS ne bl w w' (wQ XS k s.data.toList) okU e := by
  have HN := Lib.hid (otake_any g XS k ne bl w h s)
  have hk := h.le
  unfold wQ
  cases hV : isW (dr XS k) s.data.toList
  · rw [hV] at HN
    have HU := Lib.hid (fun w' h' => ounexpected_any g XS k ne bl w' h')
    unfold adv failV at *
    simp only [Bool.false_eq_true, if_false] at HN
    rw [if_neg (by decide)]
    have HF : Hid (XS.length - (dr XS k).length = k) := len_dr hk
    generalize hW : wrong (dr XS k) = x at HU ⊢
    unfold PRd
    simp only [HF.out]
    obtain ⟨l, hl⟩ : ∃ l, lineAt XS k = l := ⟨_, rfl⟩
    rw [hl] at HU
    have HE := Lib.hid (fails_of (x := x) hl)
    clear h hV hk hW hl
    go_enter Tryz.func82, Tryz.ntmps82
    go_wp2_with fail
    refine HN.out.mono ?_; rintro e w1 ⟨rfl, hb, hP⟩
    have HB := Lib.hid hb
    have HP := Lib.hid hP
    clear hb hP
    go_wp2_with fail
    refine (HU.out w1 HP.out).mono ?_; rintro e w2 ⟨rfl, hb2⟩
    have HB2 := Lib.hid hb2
    clear hb2
    go_wp2_with fail
    exact ⟨rfl, HB.out.on rfl (Kp.of HB2.out), HE.out⟩
  · rw [hV] at HN
    unfold adv at *
    simp only [if_true] at HN
    rw [if_pos rfl]
    have hlt : k < XS.length := by
      rcases Nat.lt_or_ge k XS.length with h | h
      · exact h
      · rw [is_none h] at hV; cases hV
    have HF : Hid (XS.length - (dr XS (k + 1)).length = k + 1) := len_dr hlt
    unfold PRd
    simp only [HF.out]
    clear h hV hlt hk
    go_enter Tryz.func82, Tryz.ntmps82
    go_wp2_with fail
    refine HN.out.mono ?_; rintro e w1 ⟨rfl, hb, hP⟩
    have HB := Lib.hid hb
    have HP := Lib.hid hP
    clear hb hP
    go_wp2_with fail
    first | go_end0 | refine bodyPost_ret (results_none rfl _ _ _) rfl ?_
    exact ⟨HB.out, _, rfl, HP.out, rfl⟩
end Go.Proofs.YteglaeopaocilaaGreatDoor.P
namespace Go.Proofs.YteglaeopaocilaaGreatDoor.P
open Go.RowKit
open L (Str Tok Tks toks At below_2 below_box ret_bool ret_int ret_string)
open A

/-- a token of a kind, or the error -/
def tQ (XS : List L.T) (k : Nat) (kind : Int) : R L.T := if k < XS.length ∧ (nxt XS k).k = kind then .ok (nxt XS k) (dr XS (k + 1)) else .no (dr XS k) (wrong (dr XS k))
def okT (t : L.T) (v : Value) : Prop := v = t.val
theorem dec_bne (x y : Int) : (x != y) = !decide (x = y) := rfl
set_option maxHeartbeats 4000000 in
set_option maxRecDepth 100000 in
theorem otoken_any (g : Nat) (XS : List L.T) (k ne bl : Nat) (w : World) (h : Psr g XS k ne bl w) (kind : Int) (h0 : kind ≠ 0) :
    Calls Tryz.prog 135 #[ptr g, .int .i64 kind] w fun e w' => PRd g XS ne bl w w' (tQ XS k kind) okT e := by
  have hbx := below_box w (.cells #[.int .i64 0, .string ⟨#[]⟩, .int .i64 0, .int .i64 0] 101)
  have hM := Bk.new w #[.int .i64 0, .string ⟨#[]⟩, .int .i64 0, .int .i64 0] 101
  have hlt0 := h.lt
  have HP := Lib.hid (h.below hbx)
  have HN := Lib.hid (onext_any g XS k ne bl _ HP.out)
  have HB := Lib.hid hbx
  have HM := Lib.hid hM
  have hk := h.le
  unfold tQ
  by_cases hq : k < XS.length ∧ (nxt XS k).k = kind
  · rw [if_pos hq]
    have HS := Lib.hid (fun w' (h' : Psr g XS k ne bl w') => oskip_any g XS k ne bl w' h' hq.1)
    have HF : Hid (XS.length - (dr XS (k + 1)).length = k + 1) := len_dr hq.1
    unfold PRd
    simp only [HF.out]
    have hkd := hq.2
    generalize nxt XS k = p at HN hkd ⊢
    have hb : (p.k != kind) = false := by rw [dec_bne, hkd]; simp
    unfold L.T.val at HN
    unfold okT L.T.val
    clear h hq hk hbx hM hkd h0
    go_enter Tryz.func135, Tryz.ntmps135
    go_wp2_with fail
    generalize w.alloc (.cells #[.int .i64 0, .string ⟨#[]⟩, .int .i64 0, .int .i64 0] 101) = W0 at *
    generalize hB0 : w.heap.size = B at *
    refine HN.out.mono ?_; rintro e w1 ⟨rfl, hb1⟩
    have hx1 := below_box w1 (.cells #[.int .i64 p.k, .string p.t, .int .i64 p.n, .int .i64 p.line] 101)
    have HB1 := Lib.hid (below_on (below_on HB.out hB0 hb1) hB0 hx1)
    have HM1 := Lib.hid ((HM.out.below hb1).below hx1)
    have HP1 := Lib.hid ((HP.out.below hb1).below hx1)
    have HX1 := Lib.hid (Bk.new w1 #[.int .i64 p.k, .string p.t, .int .i64 p.n, .int .i64 p.line] 101)
    have hgB : Hid (g < B) := by show g < B; omega
    have hgB1 : Hid (g < w1.heap.size) := (HP.out.below hb1).lt
    clear hb1 hx1 hlt0
    go_wp2_with fail
    generalize w1.alloc (.cells #[.int .i64 p.k, .string p.t, .int .i64 p.n, .int .i64 p.line] 101) = W1 at *
    generalize w1.heap.size = B1 at *
    refine (HS.out _ HP1.out).mono ?_; rintro e w2 ⟨rfl, hb2, hP2⟩
    have HP2 := Lib.hid hP2
    have HB2 := Lib.hid ((Kp.of HB1.out).on hB0 hb2)
    have HM2 := Lib.hid (HM1.out.kp (Nat.ne_of_gt hgB.out) hb2)
    obtain ⟨c0, c1, c2, c3⟩ := cells4 (HX1.out.kp (Nat.ne_of_gt hgB1.out) hb2)
    obtain ⟨r0, r1, r2, r3⟩ := cells4 HM2.out
    obtain ⟨f0, f1, f2, f3⟩ := free4 HM2.out
    clear hb2 hP2
    go_wp2_with fail
    obtain ⟨q0, q1, q2, q3⟩ := stored4 HM2.out (.int .i64 p.k) (.string p.t) (.int .i64 p.n) (.int .i64 p.line)
    refine bodyPost_ret (v := .agg #[.int .i64 p.k, .string p.t, .int .i64 p.n, .int .i64 p.line]) (by simp [results, Tryz.results135, go_sem, q0, q1, q2, q3]) rfl ?_
    exact ⟨kp_wset (hB0 ▸ HB2.out) (by omega), _, rfl, HP2.out.wset hgB.out, rfl⟩
  · rw [if_neg hq]
    have HF : Hid (XS.length - (dr XS k).length = k) := len_dr hk
    have HU := Lib.hid (fun w' h' => ounexpected_any g XS k ne bl w' h')
    unfold failV at *
    generalize hW : wrong (dr XS k) = x at HU ⊢
    unfold PRd
    simp only [HF.out]
    obtain ⟨l, hl⟩ : ∃ l, lineAt XS k = l := ⟨_, rfl⟩
    rw [hl] at HU
    have HE := Lib.hid (fails_of (x := x) hl)
    have hkd : (nxt XS k).k ≠ kind := fun e => by
      rcases Nat.lt_or_ge k XS.length with h1 | h1
      · exact hq ⟨h1, e⟩
      · rw [nxt_out h1] at e; exact h0 e.symm
    generalize nxt XS k = p at HN hkd
    have hb : (p.k != kind) = true := by rw [dec_bne, decide_eq_false hkd]; rfl
    unfold L.T.val at HN
    clear h hq hk hbx hM hkd h0 hW hl HM hlt0
    go_enter Tryz.func135, Tryz.ntmps135
    go_wp2_with fail
    generalize w.alloc (.cells #[.int .i64 0, .string ⟨#[]⟩, .int .i64 0, .int .i64 0] 101) = W0 at *
    generalize hB0 : w.heap.size = B at *
    refine HN.out.mono ?_; rintro e w1 ⟨rfl, hb1⟩
    have hx1 := below_box w1 (.cells #[.int .i64 p.k, .string p.t, .int .i64 p.n, .int .i64 p.line] 101)
    have HB1 := Lib.hid (below_on (below_on HB.out hB0 hb1) hB0 hx1)
    have HP1 := Lib.hid ((HP.out.below hb1).below hx1)
    clear hb1 hx1
    go_wp2_with fail
    generalize w1.alloc (.cells #[.int .i64 p.k, .string p.t, .int .i64 p.n, .int .i64 p.line] 101) = W1 at *
    refine (HU.out _ HP1.out).mono ?_; rintro e w2 ⟨rfl, hb2⟩
    have HB2 := Lib.hid (below_on HB1.out hB0 hb2)
    clear hb2
    go_wp2_with fail
    exact ⟨rfl, Kp.of (hB0 ▸ HB2.out), HE.out⟩
/-- a name, or the error -/
def nQ (XS : List L.T) (k : Nat) : R ByteArray := match nm1 (dr XS k) with | some nm => .ok nm (dr XS (k + 1)) | none => .no (dr XS k) (wrong (dr XS k))
def okN (t : ByteArray) (v : Value) : Prop := v = .string t
/-- an integer, or the error -/
def mQ (XS : List L.T) (k : Nat) : R Int := match int1 (dr XS k) with | some m => .ok m (dr XS (k + 1)) | none => .no (dr XS k) (wrong (dr XS k))
def okM (t : Int) (v : Value) : Prop := v = .int .i64 (cut t)
theorem nQ_t (XS : List L.T) (k : Nat) : nQ XS k = (tQ XS k 1).to fun t r => .ok t.t r := by
  unfold nQ tQ
  rcases Nat.lt_or_ge k XS.length with h | h
  · have e1 : nm1 (dr XS k) = if XS[k].k = 1 then some (ba XS[k].t.data.toList) else none := by rw [dr_cons h]; rfl
    rw [nxt_in h, e1]
    by_cases h1 : XS[k].k = 1
    · rw [if_pos h1, if_pos ⟨h, h1⟩]
      show R.ok (ba XS[k].t.data.toList) _ = R.ok XS[k].t _
      unfold ba
      simp
    · rw [if_neg h1, if_neg (fun e => h1 e.2)]
      rfl
  · rw [if_neg (fun e => by omega), dr_end h]
    rfl
theorem mQ_t (XS : List L.T) (k : Nat) : mQ XS k = (tQ XS k 3).to fun t r => .ok t.n r := by
  unfold mQ tQ
  rcases Nat.lt_or_ge k XS.length with h | h
  · have e1 : int1 (dr XS k) = if XS[k].k = 3 then some XS[k].n else none := by rw [dr_cons h]; rfl
    rw [nxt_in h, e1]
    by_cases h1 : XS[k].k = 3
    · rw [if_pos h1, if_pos ⟨h, h1⟩]
      rfl
    · rw [if_neg h1, if_neg (fun e => h1 e.2)]
      rfl
  · rw [if_neg (fun e => by omega), dr_end h]
    rfl
set_option maxHeartbeats 4000000 in
set_option maxRecDepth 100000 in
theorem oname_any (g : Nat) (XS : List L.T) (k ne bl : Nat) (w : World) (h : Psr g XS k ne bl w) :
    Calls Tryz.prog 83 #[ptr g] w fun e w' => PRd g XS ne bl w w' (nQ XS k) okN e := by
  have HT := Lib.hid (otoken_any g XS k ne bl w h 1 (by decide))
  rw [nQ_t]
  generalize tQ XS k 1 = q at HT ⊢
  clear h
  go_enter Tryz.func83, Tryz.ntmps83
  go_wp2_with fail
  refine HT.out.mono ?_; intro e w1 ⟨hb, hm⟩
  have HB := Lib.hid hb
  clear hb
  cases q with
  | no r x =>
    unfold fails at hm
    obtain rfl := hm
    go_wp2_with fail
    exact ⟨rfl, HB.out, rfl⟩
  | ok t r =>
    obtain ⟨v, rfl, hP, hv⟩ := hm
    have HP := Lib.hid hP
    unfold okT L.T.val at hv
    subst hv
    clear hP
    have hfld : ∀ w : World, (Instr.field 101 (.agg #[.int .i64 t.k, .string t.t, .int .i64 t.n, .int .i64 t.line]) 1).run Tryz.prog w = .ok (.string t.t) w := fun _ => by kernel_rfl
    go_wp2_with fail
    go_ret
    exact ⟨HB.out, _, rfl, HP.out, rfl⟩
set_option maxHeartbeats 4000000 in
set_option maxRecDepth 100000 in
theorem omax_any (g : Nat) (XS : List L.T) (k ne bl : Nat) (w : World) (h : Psr g XS k ne bl w) :
    Calls Tryz.prog 215 #[ptr g] w fun e w' => PRd g XS ne bl w w' (mQ XS k) okM e := by
  have HT := Lib.hid (otoken_any g XS k ne bl w h 3 (by decide))
  rw [mQ_t]
  generalize tQ XS k 3 = q at HT ⊢
  clear h
  go_enter Tryz.func215, Tryz.ntmps215
  go_wp2_with fail
  refine HT.out.mono ?_; intro e w1 ⟨hb, hm⟩
  have HB := Lib.hid hb
  clear hb
  cases q with
  | no r x =>
    unfold fails at hm
    obtain rfl := hm
    go_wp2_with fail
    exact ⟨rfl, HB.out, rfl⟩
  | ok t r =>
    obtain ⟨v, rfl, hP, hv⟩ := hm
    have HP := Lib.hid hP
    unfold okT L.T.val at hv
    subst hv
    clear hP
    have hfld : ∀ w : World, (Instr.field 101 (.agg #[.int .i64 t.k, .string t.t, .int .i64 t.n, .int .i64 t.line]) 2).run Tryz.prog w = .ok (.int .i64 t.n) w := fun _ => by kernel_rfl
    have hmin : min t.n 2147483647 = cut t.n := rfl
    go_wp2_with fail
    go_ret
    exact ⟨HB.out, _, rfl, HP.out, rfl⟩
set_option maxHeartbeats 4000000 in
set_option maxRecDepth 100000 in
theorem oend_any (g : Nat) (XS : List L.T) (k ne bl : Nat) (w : World) (h : Psr g XS k ne bl w) :
    Calls Tryz.prog 81 #[ptr g] w fun e w' => Kp w.heap.size g w w' ∧ (if k = XS.length then e = .returned (.tuple #[]) else e = fails XS k 5) := by
  obtain ⟨hk, htab, hgn, a, c, hB, hc, hT⟩ := id h
  obtain ⟨c0, c1, c2, c3⟩ := cells4 hB
  by_cases hq : k = XS.length
  · simp only [if_pos hq]
    have hm : XS.length - k = 0 := by omega
    rw [hm] at c0
    clear hT hB h hq hm hk hc
    go_enter Tryz.func81, Tryz.ntmps81
    go_wp2_with fail
    go_end0
    exact ⟨Kp.refl _ _ _, rfl⟩
  · simp only [if_neg hq]
    have HU := Lib.hid (ounexpected_any g XS k ne bl w h)
    have hlt : k < XS.length := by omega
    rw [wr_in hlt] at HU
    unfold failV at HU
    obtain ⟨l, hl⟩ : ∃ l, lineAt XS k = l := ⟨_, rfl⟩
    rw [hl] at HU
    have HE := Lib.hid (fails_of (x := 5) hl)
    have hmp : 0 < XS.length - k := by omega
    have hb : decide (((XS.length - k : Nat) : Int) > 0) = true := decide_eq_true (by omega)
    have hb2 : (0 : Int) < ((XS.length - k : Nat) : Int) := by omega
    generalize XS.length - k = m at *
    clear hT hB h hq hk hc hlt hl
    go_enter Tryz.func81, Tryz.ntmps81
    go_wp2_with fail
    refine HU.out.mono ?_; rintro e w1 ⟨rfl, hb1⟩
    have HB1 := Lib.hid hb1
    clear hb1
    go_wp2_with fail
    exact ⟨rfl, Kp.of HB1.out, HE.out⟩
set_option maxHeartbeats 4000000 in
set_option maxRecDepth 100000 in
theorem oapply_any (op : Int) (a : Option Addr) (n c : Nat) (w : World) :
    Calls Tryz.prog 141 #[.int .i64 op, .slice a n c] w fun e w' => e = .returned (.agg #[.int .i64 op, .int .i64 0, .string ⟨#[]⟩, .slice a n c]) ∧ Below w.heap.size w w' := by
  go_enter Tryz.func141, Tryz.ntmps141
  go_wp2_with fail
  refine bodyPost_ret (v := .agg #[.int .i64 op, .int .i64 0, .string ⟨#[]⟩, .slice a n c]) (by simp [results, Tryz.results141, go_sem]) rfl ?_
  exact ⟨rfl, below_box _ _⟩
end Go.Proofs.YteglaeopaocilaaGreatDoor.P
namespace Go.Proofs.YteglaeopaocilaaGreatDoor.P
open Go.RowKit
open L (Str Tok Tks toks At below_2 below_box ret_bool ret_int ret_string)
open A

/-- a method that reads an expression from the k-th token on -/
def CF (F : Nat) (g : Nat) (XS : List L.T) (k ne bl : Nat) (q : R Ex) : Prop := ∀ w', Psr g XS k ne bl w' → Calls Tryz.prog F #[ptr g] w' fun e w'' => PRdX g XS ne bl w' w'' q e
theorem PRd.ok_dr {α : Type} {g : Nat} {XS : List L.T} {ne bl j : Nat} {w w' : World} {t : α} {ok : α → Value → Prop} {e : Ending} (h : PRd g XS ne bl w w' (.ok t (dr XS j)) ok e) (hj : j ≤ XS.length) : Kp w.heap.size g w w' ∧ ∃ v, e = .returned v ∧ Psr g XS j ne bl w' ∧ ok t v := by
  unfold PRd at h
  simp only [len_dr hj] at h
  exact h
theorem PRd.no_dr {α : Type} {g : Nat} {XS : List L.T} {ne bl j : Nat} {w w' : World} {x : Int} {ok : α → Value → Prop} {e : Ending} (h : PRd g XS ne bl w w' (.no (dr XS j) x) ok e) (hj : j ≤ XS.length) : Kp w.heap.size g w w' ∧ e = fails XS j x := by
  unfold PRd at h
  simp only [len_dr hj] at h
  exact h
theorem PRd.mk_ok {α : Type} {g : Nat} {XS : List L.T} {ne bl j : Nat} {w w' : World} {t : α} {ok : α → Value → Prop} {v : Value} (hj : j ≤ XS.length) (hk : Kp w.heap.size g w w') (hp : Psr g XS j ne bl w') (ho : ok t v) : PRd g XS ne bl w w' (.ok t (dr XS j)) ok (.returned v) := by
  unfold PRd
  simp only [len_dr hj]
  exact ⟨hk, v, rfl, hp, ho⟩
theorem PRd.mk_no {α : Type} {g : Nat} {XS : List L.T} {ne bl j : Nat} {w w' : World} {x : Int} {ok : α → Value → Prop} (hj : j ≤ XS.length) (hk : Kp w.heap.size g w w') : PRd g XS ne bl w w' (.no (dr XS j) x : R α) ok (fails XS j x) := by
  unfold PRd
  simp only [len_dr hj]
  exact ⟨hk, trivial⟩
/-- what a symbol leaves begins at a later token -/
theorem sf_ok {α : Type} {XS : List L.T} {k : Nat} {t : α} {r : T} (h : Sf (dr XS k) (.ok t r)) : ∃ j, k < j ∧ j ≤ XS.length ∧ r = dr XS j := by
  have h1 := dr_of h.1
  have h2 := dr_le h.1
  have h3 : r.length < (dr XS k).length := h.2
  rw [dr_len] at h3
  exact ⟨XS.length - r.length, by omega, by omega, h1⟩
theorem sf_no {α : Type} {XS : List L.T} {k : Nat} {x : Int} {r : T} (h : Sf (dr XS k) (.no r x : R α)) : ∃ j, j ≤ XS.length ∧ r = dr XS j := ⟨XS.length - r.length, by omega, dr_of h.1⟩
/-- an expression, and the word behind it -/
def closeW (s : Str) (e : Ex) (r : T) : R Ex := if isW r s = true then .ok e r.tail else .no r (wrong r)
set_option maxHeartbeats 4000000 in
set_option maxRecDepth 100000 in
theorem oexprBefore_any (g : Nat) (XS : List L.T) (k ne bl : Nat) (q : R Ex) (hsf : Sf (dr XS k) q) (H : CF 44 g XS k ne bl q) (s : ByteArray) (w : World) (h : Psr g XS k ne bl w) :
    Calls Tryz.prog 180 #[ptr g, .string s] w fun e w' => PRdX g XS ne bl w w' (q.to (closeW s.data.toList)) e := by
  have hbx := below_box w (.cells #[.int .i64 0, .int .i64 0, .string ⟨#[]⟩, .slice none 0 0] 38)
  have HM := Lib.hid (Bk.new w #[.int .i64 0, .int .i64 0, .string ⟨#[]⟩, .slice none 0 0] 38)
  have hlt0 := h.lt
  have HP := Lib.hid (h.below hbx)
  have HB := Lib.hid hbx
  have HX := Lib.hid (H _ HP.out)
  clear hbx h H
  go_enter Tryz.func180, Tryz.ntmps180
  go_wp2_with fail
  generalize w.alloc (.cells #[.int .i64 0, .int .i64 0, .string ⟨#[]⟩, .slice none 0 0] 38) = W0 at *
  generalize hB0 : w.heap.size = B at *
  cases q with
  | no r x =>
    obtain ⟨j, hj, rfl⟩ := sf_no hsf
    refine HX.out.mono ?_; intro e w1 hm
    obtain ⟨hb, he⟩ := PRd.no_dr hm hj
    have HB1 := Lib.hid ((Kp.of HB.out).on hB0 hb)
    unfold fails at he
    subst he
    have HJ := Lib.hid hj
    clear hb hm hj hsf
    go_wp2_with fail
    exact ⟨rfl, PRd.mk_no HJ.out (hB0.symm ▸ HB1.out)⟩
  | ok t r =>
    obtain ⟨j, hkj, hj, rfl⟩ := sf_ok hsf
    refine HX.out.mono ?_; intro e w1 hm
    obtain ⟨hb, v, rfl, hP, a0, c0, rfl, hK⟩ := PRd.ok_dr hm hj
    have hx1 := below_box w1 (.cells #[.int .i64 t.op, .int .i64 t.n, .string t.s, .slice a0 t.args.length c0] 38)
    have HB1 := Lib.hid (((Kp.of HB.out).on hB0 hb).on hB0 (Kp.of hx1))
    have HM1 := Lib.hid ((HM.out.kp (by omega) hb).below hx1)
    have HP1 := Lib.hid (hP.below hx1)
    have HX1 := Lib.hid (Bk.new w1 #[.int .i64 t.op, .int .i64 t.n, .string t.s, .slice a0 t.args.length c0] 38)
    have hzB : B < W0.heap.size := HM.out.lt
    have HK1 := Lib.hid (kidsK hK (by omega) (Kp.of hx1))
    have hgB : Hid (g < B) := by show g < B; omega
    have hgB1 : Hid (g < w1.heap.size) := hP.lt
    have hBB1 : Hid (B < w1.heap.size) := (HM.out.kp (by omega) hb).lt
    have hBW : Hid (B < W0.heap.size) := hzB
    have HJ := Lib.hid hj
    have HE := Lib.hid (oexpect_any g XS j ne bl _ HP1.out s)
    unfold exV
    clear hb hx1 hlt0 hm hP hK hkj hj hsf hzB
    go_wp2_with fail
    generalize w1.alloc (.cells #[.int .i64 t.op, .int .i64 t.n, .string t.s, .slice a0 t.args.length c0] 38) = W1 at *
    generalize w1.heap.size = B1 at *
    show Calls _ _ _ _ _
    refine HE.out.mono ?_; intro e w2 hm
    unfold wQ at hm
    cases h2 : isW (dr XS j) s.data.toList
    · rw [h2, if_neg (by decide)] at hm
      obtain ⟨hb2, he⟩ := PRd.no_dr hm HJ.out
      have HB2 := Lib.hid (HB1.out.on hB0 hb2)
      have HQ : Hid ((R.ok t (dr XS j)).to (closeW s.data.toList) = .no (dr XS j) (wrong (dr XS j))) := by
        show closeW _ _ _ = _
        unfold closeW
        rw [h2, if_neg (by decide)]
      unfold fails at he
      subst he
      clear hm hb2 h2
      go_wp2_with fail
      refine ⟨rfl, ?_⟩
      rw [HQ.out]
      exact PRd.mk_no HJ.out (hB0.symm ▸ HB2.out)
    · rw [h2, if_pos rfl] at hm
      have hlt : j < XS.length := by
        rcases Nat.lt_or_ge j XS.length with h | h
        · exact h
        · rw [is_none h] at h2; cases h2
      obtain ⟨hb2, v, rfl, hP2, rfl⟩ := PRd.ok_dr hm hlt
      have HQ : Hid ((R.ok t (dr XS j)).to (closeW s.data.toList) = .ok t (dr XS (j + 1))) := by
        show closeW _ _ _ = _
        unfold closeW
        rw [h2, if_pos rfl, dr_tail]
      have HJ2 : Hid (j + 1 ≤ XS.length) := hlt
      have HB2 := Lib.hid (HB1.out.on hB0 hb2)
      have HP2 := Lib.hid hP2
      have HM2 := Lib.hid (HM1.out.kp (Nat.ne_of_gt hgB.out) hb2)
      have HK2 := Lib.hid (kidsK HK1.out (Nat.lt_trans hgB.out hBW.out) hb2)
      obtain ⟨c0', c1, c2, c3⟩ := cells4 (HX1.out.kp (Nat.ne_of_gt hgB1.out) hb2)
      obtain ⟨r0, r1, r2, r3⟩ := cells4 HM2.out
      obtain ⟨f0, f1, f2, f3⟩ := free4 HM2.out
      clear hm hb2 hP2 h2 hlt
      go_wp2_with fail
      obtain ⟨q0, q1, q2, q3⟩ := stored4 HM2.out (.int .i64 t.op) (.int .i64 t.n) (.string t.s) (.slice a0 t.args.length c0)
      refine bodyPost_ret (v := .agg #[.int .i64 t.op, .int .i64 t.n, .string t.s, .slice a0 t.args.length c0]) (by simp [results, Tryz.results180, go_sem, q0, q1, q2, q3]) rfl ?_
      rw [HQ.out]
      have hBW' := hBW.out
      exact PRd.mk_ok HJ2.out (kp_wset (hB0.symm ▸ HB2.out) (by omega)) (HP2.out.wset hgB.out) ⟨a0, c0, rfl, kids_less (kids_wset (kids_less HK2.out (by omega))) (by omega)⟩
end Go.Proofs.YteglaeopaocilaaGreatDoor.P
namespace Go.Proofs.YteglaeopaocilaaGreatDoor.P
open Go.RowKit
open L (Str Tok Tks toks At below_2 below_box ret_bool ret_int ret_string)
open A

theorem sf_close {l : T} {q : R Ex} (h : Sf l q) (s : Str) : Sf l (q.to (closeW s)) := by
  cases q with
  | no r x => exact h
  | ok t r =>
    show Sf l (closeW s t r)
    unfold closeW
    split
    · exact ⟨(tail_sf r).trans h.1, Nat.lt_of_le_of_lt (tail_sf r).length_le h.2⟩
    · exact ⟨h.1, er_w r⟩
set_option maxHeartbeats 4000000 in
set_option maxRecDepth 100000 in
theorem oenclosed_any (g : Nat) (XS : List L.T) (k ne bl : Nat) (q : R Ex) (hq : Sf (dr XS k) q) (H : CF 44 g XS k ne bl q) (w : World) (h : Psr g XS k ne bl w) :
    Calls Tryz.prog 245 #[ptr g] w fun e w' => PRdX g XS ne bl w w' (q.to closeE) e := by
  have hbx := below_box w (.cells #[.int .i64 0, .int .i64 0, .string ⟨#[]⟩, .slice none 0 0] 38)
  have HM := Lib.hid (Bk.new w #[.int .i64 0, .int .i64 0, .string ⟨#[]⟩, .slice none 0 0] 38)
  have hlt0 := h.lt
  have HP := Lib.hid (h.below hbx)
  have HB := Lib.hid hbx
  have HX := Lib.hid (oexprBefore_any g XS k ne bl q hq H ⟨#[41]⟩ _ HP.out)
  change Hid (Calls _ _ _ _ fun e w' => PRdX g XS ne bl _ w' (q.to closeE) e) at HX
  have hsf : Sf (dr XS k) (q.to closeE) := sf_close hq [41]
  generalize (q.to closeE) = q2 at HX hsf ⊢
  clear hbx h H hq
  go_enter Tryz.func245, Tryz.ntmps245
  go_wp2_with fail
  generalize w.alloc (.cells #[.int .i64 0, .int .i64 0, .string ⟨#[]⟩, .slice none 0 0] 38) = W0 at *
  generalize hB0 : w.heap.size = B at *
  refine HX.out.mono ?_; intro e w1 hm
  cases q2 with
  | no r x =>
    obtain ⟨j, hj, rfl⟩ := sf_no hsf
    obtain ⟨hb, he⟩ := PRd.no_dr hm hj
    have HB1 := Lib.hid ((Kp.of HB.out).on hB0 hb)
    unfold fails at he
    subst he
    have HJ := Lib.hid hj
    clear hb hm hj hsf
    go_wp2_with fail
    exact ⟨rfl, PRd.mk_no HJ.out (hB0.symm ▸ HB1.out)⟩
  | ok t r =>
    obtain ⟨j, hkj, hj, rfl⟩ := sf_ok hsf
    obtain ⟨hb, v, rfl, hP, a0, c0, rfl, hK⟩ := PRd.ok_dr hm hj
    have hBW : B < W0.heap.size := HM.out.lt
    have HB1 := Lib.hid ((Kp.of HB.out).on hB0 hb)
    have HM1 := Lib.hid (HM.out.kp (by omega) hb)
    have HP1 := Lib.hid hP
    have HK1 := Lib.hid hK
    have HJ := Lib.hid hj
    have hgB : Hid (g < B) := by show g < B; omega
    have HBW := Lib.hid hBW
    obtain ⟨r0, r1, r2, r3⟩ := cells4 HM1.out
    obtain ⟨f0, f1, f2, f3⟩ := free4 HM1.out
    unfold exV
    clear hb hm hP hK hkj hj hsf hBW hlt0
    go_wp2_with fail
    obtain ⟨q0, q1, q2, q3⟩ := stored4 HM1.out (.int .i64 t.op) (.int .i64 t.n) (.string t.s) (.slice a0 t.args.length c0)
    refine bodyPost_ret (v := .agg #[.int .i64 t.op, .int .i64 t.n, .string t.s, .slice a0 t.args.length c0]) (by simp [results, Tryz.results245, go_sem, q0, q1, q2, q3]) rfl ?_
    have hBW' := HBW.out
    exact PRd.mk_ok HJ.out (kp_wset (hB0.symm ▸ HB1.out) (by omega)) (HP1.out.wset hgB.out) ⟨a0, c0, rfl, kids_less (kids_wset (kids_less HK1.out (by omega))) (by omega)⟩
set_option maxHeartbeats 4000000 in
set_option maxRecDepth 100000 in
theorem oargument_any (g : Nat) (XS : List L.T) (k ne bl : Nat) (H : k < XS.length → CF 44 g XS (k + 1) ne bl (gX 1 ne (dr XS (k + 1)))) (w : World) (h : Psr g XS k ne bl w) :
    Calls Tryz.prog 246 #[ptr g] w fun e w' => PRdX g XS ne bl w w' (gI ne (dr XS k)) e := by
  have hbx := below_box w (.cells #[.int .i64 0, .int .i64 0, .string ⟨#[]⟩, .slice none 0 0] 38)
  have HM := Lib.hid (Bk.new w #[.int .i64 0, .int .i64 0, .string ⟨#[]⟩, .slice none 0 0] 38)
  have hlt0 := h.lt
  have hk := h.le
  have HP := Lib.hid (h.below hbx)
  have HB := Lib.hid hbx
  have HE := Lib.hid (oexpect_any g XS k ne bl _ HP.out ⟨#[40]⟩)
  rw [gI_step]
  unfold wQ at HE
  change Hid (Calls _ _ _ _ fun e w' => PRd g XS ne bl _ w' (if isW (dr XS k) [40] = true then _ else _) okU e) at HE
  cases h2 : isW (dr XS k) [40]
  · rw [h2, if_neg (by decide)] at HE
    rw [if_neg (by decide)]
    generalize wrong (dr XS k) = x at *
    clear hbx h H h2 HM hlt0
    go_enter Tryz.func246, Tryz.ntmps246
    go_wp2_with fail
    generalize w.alloc (.cells #[.int .i64 0, .int .i64 0, .string ⟨#[]⟩, .slice none 0 0] 38) = W0 at *
    generalize hB0 : w.heap.size = B at *
    refine HE.out.mono ?_; intro e w1 hm
    obtain ⟨hb, he⟩ := PRd.no_dr hm hk
    have HB1 := Lib.hid ((Kp.of HB.out).on hB0 hb)
    unfold fails at he
    subst he
    have HJ := Lib.hid hk
    clear hb hm hk
    go_wp2_with fail
    exact ⟨rfl, PRd.mk_no HJ.out (hB0.symm ▸ HB1.out)⟩
  · rw [h2, if_pos rfl] at HE
    rw [if_pos rfl]
    have hlt : k < XS.length := by
      rcases Nat.lt_or_ge k XS.length with h | h
      · exact h
      · rw [is_none h] at h2; cases h2
    have hsf0 : Sf (dr XS (k + 1)) (gX 1 ne (dr XS (k + 1))) := (gX_is (by decide)).2
    have hsf : Sf (dr XS (k + 1)) ((gX 1 ne (dr XS (k + 1))).to closeE) := sf_close hsf0 [41]
    rw [dr_tail]
    have HX := Lib.hid (fun w' h' => oenclosed_any g XS (k + 1) ne bl _ hsf0 (H hlt) w' h')
    generalize (gX 1 ne (dr XS (k + 1))).to closeE = q2 at HX hsf ⊢
    have HLT := Lib.hid hlt
    clear hbx h H hsf0 h2 hlt
    go_enter Tryz.func246, Tryz.ntmps246
    go_wp2_with fail
    generalize w.alloc (.cells #[.int .i64 0, .int .i64 0, .string ⟨#[]⟩, .slice none 0 0] 38) = W0 at *
    generalize hB0 : w.heap.size = B at *
    refine HE.out.mono ?_; intro e w1 hm
    obtain ⟨hb, v, rfl, hP1, rfl⟩ := PRd.ok_dr hm HLT.out
    have hBW : B < W0.heap.size := HM.out.lt
    have HB1 := Lib.hid ((Kp.of HB.out).on hB0 hb)
    have HM1 := Lib.hid (HM.out.kp (by omega) hb)
    have HP1 := Lib.hid hP1
    have hgB : Hid (g < B) := by show g < B; omega
    have hB1 : Hid (B < w1.heap.size) := (HM.out.kp (by omega) hb).lt
    clear hb hm hP1 hBW hlt0
    go_wp2_with fail
    refine (HX.out _ HP1.out).mono ?_; intro e w2 hm
    cases q2 with
    | no r x =>
      obtain ⟨j, hj, rfl⟩ := sf_no hsf
      obtain ⟨hb, he⟩ := PRd.no_dr hm hj
      have HB2 := Lib.hid (HB1.out.on hB0 hb)
      unfold fails at he
      subst he
      have HJ := Lib.hid hj
      clear hb hm hj hsf hk
      go_wp2_with fail
      exact ⟨rfl, PRd.mk_no HJ.out (hB0.symm ▸ HB2.out)⟩
    | ok t r =>
      obtain ⟨j, hkj, hj, rfl⟩ := sf_ok hsf
      obtain ⟨hb, v, rfl, hP, a0, c0, rfl, hK⟩ := PRd.ok_dr hm hj
      have HB2 := Lib.hid (HB1.out.on hB0 hb)
      have HM2 := Lib.hid (HM1.out.kp (Nat.ne_of_gt hgB.out) hb)
      have HP2 := Lib.hid hP
      have HK2 := Lib.hid hK
      have HJ := Lib.hid hj
      obtain ⟨r0, r1, r2, r3⟩ := cells4 HM2.out
      obtain ⟨f0, f1, f2, f3⟩ := free4 HM2.out
      unfold exV
      clear hb hm hP hK hkj hj hsf hk
      go_wp2_with fail
      obtain ⟨q0, q1, q2, q3⟩ := stored4 HM2.out (.int .i64 t.op) (.int .i64 t.n) (.string t.s) (.slice a0 t.args.length c0)
      refine bodyPost_ret (v := .agg #[.int .i64 t.op, .int .i64 t.n, .string t.s, .slice a0 t.args.length c0]) (by simp [results, Tryz.results246, go_sem, q0, q1, q2, q3]) rfl ?_
      have hBW' := hB1.out
      exact PRd.mk_ok HJ.out (kp_wset (hB0.symm ▸ HB2.out) (by omega)) (HP2.out.wset hgB.out) ⟨a0, c0, rfl, kids_less (kids_wset (kids_less HK2.out (by omega))) (by omega)⟩
end Go.Proofs.YteglaeopaocilaaGreatDoor.P
