/-
  What the program's own functions of layer 6 return: copied, Get, Slice: contracts, one a function.
-/
import Derived.Test.YtieloegadhgipaaSOA
import Derived.Test.YtieloegadhgipaaSParts
import Derived.Laws.MakeOwn
import Derived.Deep.RegionHeld3
import Derived.BigRegion
import Derived.Deep.AppendLies
namespace Go.Proofs.Ytieloegadhgipaa.S
open Go.RowKit
open Go.Proofs.Ytieloegadhgipaa.V (ret_bool ret_int ret_string below_2 below_box below_box2 size_len)

theorem Prs.alloc {w : World} {a : Option Addr} {xs : List P} (h : Prs w a xs) (o : Obj) : Prs (w.alloc o) a xs := h.below (below_box w o)
theorem bel_drew (w : World) : Below w.heap.size w w.drew := ⟨rfl, rfl, rfl, Nat.le_refl _, fun _ _ => rfl⟩
theorem own_lt {w : World} {B n size : Nat} {e : TypeId} {v : Value} {xs : List Value} (h : w.ownsRow B e size v n xs) : ∀ g, v.ownBlock = some g → g < w.heap.size := by
  intro g hg
  rcases h.2 with ⟨rfl, _⟩ | ⟨g', cap, cur, rfl, _, hh, _⟩
  · cases hg
  · cases hg; exact (Array.getElem?_eq_some_iff.1 hh).1
theorem at_far {w3 w4 : World} {b o : Nat} {p : P} {ob : Obj} {r : Option Nat} (h : At w3 b o p) (hg : (w3.alloc ob).grownBy w4 r) (hne : r ≠ some b) : At w4 b o p := by
  have h' : At (w3.alloc ob) b o p := h.below (below_box w3 ob) h.lt
  exact ⟨(hg.cell_far _ h'.lt (fun e => hne e.symm)).trans h'.key, (hg.cell_far _ h'.lt (fun e => hne e.symm)).trans h'.kind, (hg.cell_far _ h'.lt (fun e => hne e.symm)).trans h'.num, (hg.cell_far _ h'.lt (fun e => hne e.symm)).trans h'.str⟩
/-- a pair appended, at a step of a region that draws -/
theorem step_append_pair {w : World} {ops : Array Oper} {o : Oper} {a : Act} {K : Act → World → Prop} {Q : Exit → Act → World → Prop} {E : Prop} (hgd : o.guard = none) (s x : Operand)
    (ho : o.op = .call { callee := .builtin .append, args := #[s, x], argTypes := #[22, 22] })
    (base : Nat) (v : Value) (xs : List P) (hs : a.eval s = v) (p : P) (hown : w.ownsRow base 33 4 v xs.length (pc xs))
    (g : Nat) (hx : a.eval x = .slice (some ⟨g, 0, none⟩) 1 1) (hg : g = w.heap.size) (hn : xs.length ≤ 2932031007401) (hbase : base ≤ w.heap.size)
    (h : ∀ v' w', w'.ownsRow base 33 4 v' (xs ++ [p]).length (pc (xs ++ [p])) → (w.alloc (.cells #[.string p.key, .int .i64 p.k, .int .i64 p.n, .string p.s] 33)).grownBy w' v.ownBlock → K (a.put o.dst v') w') :
    if Region.wanted o (yielded ops a.tmps) = true then Oper.wp Try.prog o a (w.alloc (.cells #[.string p.key, .int .i64 p.k, .int .i64 p.n, .string p.s] 33)) K Q else E := by
  subst hg
  obtain ⟨i0, hi, hz0, hz1, hz2⟩ := info_parts info_pair
  refine step_append_lies _ hgd s x 22 ho base 33 i0 _ 4 48 Try.underlying22 hi hz0 hz1 hz2 rfl (by decide) v xs.length (pc xs) hs (hown.alloc _) ⟨w.heap.size, 0, none⟩ 1 1 [.string p.key, .int .i64 p.k, .int .i64 p.n, .string p.s] hx rfl (cells_new _ _ _ _ _ _) (one_cells (p := p)) (by decide) (by unfold maxLen; omega) (by omega) (by simp; omega) _ rfl ?_
  intro g cap w' h1 h2 _ _
  refine h _ w' ?_ h2
  rw [List.length_append, pc_append, pc_one]
  exact h1
set_option maxHeartbeats 4000000 in
set_option maxRecDepth 100000 in
theorem copied_any (a : Option Addr) (c : Nat) (xs : List P) (hf : Fitz xs) (w : World) (hA : Prs w a xs) :
    Calls Try.prog 34 #[.slice a xs.length c] w fun e w' => GivesL e w' xs ∧ Below w.heap.size w w' := by
  have hx := hf.len
  have HF := Lib.hid hf
  have HA := Lib.hid hA
  obtain ⟨i0, hi, hz0, hz1, hz2⟩ := info_parts info_pair
  have hmk := run_make_own (P := Try.prog) w w.heap.size 22 33 i0 _ 4 Try.underlying22 hi hz0 hz1 .i64 .i64 xs.length (by rw [hz2]; omega) (by unfold maxLen; omega) (Nat.le_refl _)
  obtain ⟨w1, hr1, hown1, hgr1⟩ := hmk
  have hb1 : Below w.heap.size w w1 := (Below.refl _ _).grown hgr1 (Nat.le_refl _) (fun k hk => by cases hk)
  have HO1 := Lib.hid hown1
  have HB1 := Lib.hid hb1
  clear hA hf hown1 hgr1 hb1 hi hz0 hz1 hz2
  obtain ⟨n, hn⟩ : ∃ n, xs.length = n := ⟨_, rfl⟩
  have HL := Lib.hid hn
  rw [hn] at hx hr1 HO1 ⊢
  clear hn
  go_enter Try.func34, Try.ntmps34
  go_wp2_with fail
  go_loopw [3, 11] (fun vo vi wr => ∃ k : Nat, k ≤ n ∧ vi = .int .i64 k ∧ Hid (wr.ownsRow w.heap.size 33 4 vo (xs.take k).length (pc (xs.take k))) ∧ Below w.heap.size w wr) (fun _ vi _ => n - (intOf vi).toNat)
  case atStart => exact ⟨0, Nat.zero_le _, rfl, HO1.out, HB1.out⟩
  case round =>
    obtain ⟨k, hk, rfl, HO, hb⟩ := hrel
    have HB := Lib.hid hb
    by_cases hlt : k < n
    · have hlx : k < xs.length := by rw [HL.out]; exact hlt
      obtain ⟨b, o, rfl, hc⟩ := (HA.out.below hb).open hlx
      obtain ⟨z0, z1⟩ := HF.out.at hlx
      have HC1 := Lib.hid (fun w => W.clone_any xs[k].key w (by omega))
      have HC2 := Lib.hid (ocv_any xs[k].k xs[k].n xs[k].s (by omega))
      have HN : Hid (xs.take (k + 1) = xs.take k ++ [xs[k]]) := List.take_succ_eq_append_getElem hlx
      have hl : (xs.take k).length = k := by rw [List.length_take]; omega
      have hwd := below_2 (below_box wr (.cells #[.string xs[k].key, .int .i64 xs[k].k, .int .i64 xs[k].n, .string xs[k].s] 33)) (bel_drew _)
      have HWD := Lib.hid hwd
      have hat := (at_box wr xs[k]).below (bel_drew _) (at_box wr xs[k]).lt
      have HAT := Lib.hid hat
      obtain ⟨e0, e1, e2, e3⟩ := hat
      simp only [Nat.zero_add] at e0 e1 e2 e3
      have hzr := hb.size
      obtain ⟨c0, c1, c2, c3⟩ := hc k hlx
      generalize xs[k] = p at c0 c1 c2 c3 e0 e1 e2 e3 HC1 HC2 HN HWD HAT
      generalize xs.take k = ts at HO HN hl ⊢
      clear hc hwd hb z0 z1
      go_wp2_with fail
      go_region_held3 (fun w' => w'.cell? ⟨wr.heap.size, 0, none⟩ = some (.string p.key) ∧ w'.cell? ⟨wr.heap.size, 1, none⟩ = some (.int .i64 p.k) ∧ w'.cell? ⟨wr.heap.size, 2, none⟩ = some (.int .i64 p.n) ∧ w'.cell? ⟨wr.heap.size, 3, none⟩ = some (.string p.s)) (first | go_keep | (refine ⟨?_, ?_, ?_, ?_⟩ <;> go_simp))
        (first
          | (go_at_call 41; refine (HC2.out _).mono ?_; rintro e w3 ⟨rfl, hb3⟩; have HAT3 := Lib.hid (HAT2.out.below hb3 HAT2.out.lt); obtain ⟨h0, h1, h2, h3⟩ := HAT3.out; simp only [Nat.zero_add] at h0 h1 h2 h3; have HO3 := Lib.hid (own_belowO HO2.out hb3); have HB3 := Lib.hid (below_2 HB2.out hb3); have hz3 := HB3.out.size)
          | (go_at_call 60; refine (HC1.out _).mono ?_; rintro e w2 ⟨rfl, hb2⟩; have HAT2 := Lib.hid (HAT.out.below hb2 HAT.out.lt); obtain ⟨g0, g1, g2, g3⟩ := HAT2.out; simp only [Nat.zero_add] at g0 g1 g2 g3; have HO2 := Lib.hid (own_belowO (own_belowO HO.out HWD.out) hb2); have HB2 := Lib.hid (below_2 (below_2 HB.out HWD.out) hb2))
          | (refine step_append_pair rfl (.tmp 15) (.tmp 23) rfl w.heap.size u3 ts rfl p HO3.out w3.heap.size rfl rfl (by omega) (by omega) ?_; intro v1 w4 hown1 hgrow1; have HO4 := Lib.hid hown1; have HB4 := Lib.hid (below_app HB3.out (by omega) hgrow1 (own_ge HO3.out)); obtain ⟨i0, i1, i2, i3⟩ := at_far HAT3.out hgrow1 (fun e => absurd (own_lt HO.out _ e) (Nat.lt_irrefl _)); simp only [Nat.zero_add] at i0 i1 i2 i3))
      go_wp2_with fail
      go_roundw
      case rel => exact ⟨k + 1, by omega, by go_num, (by unfold Hid; rw [HN.out]; exact HO4.out), HB4.out⟩
      case measure => simp [intOf]; omega
    · obtain rfl : n = k := by omega
      have hown := HO.out
      rw [List.take_of_length_le (by rw [HL.out]; exact Nat.le_refl _)] at hown
      obtain ⟨a2, c2, rfl, hS2⟩ := own_sl hown
      rw [HL.out] at ⊢
      have HS2 := Lib.hid hS2
      clear hown hS2 HO
      go_wp2_with fail
      go_ret
      exact ⟨⟨a2, c2, by rw [HL.out]; rfl, HS2.out⟩, hb⟩
/-! ### Get -/

set_option maxHeartbeats 2000000 in
set_option maxRecDepth 100000 in
theorem oget_any (a : Option Addr) (c : Nat) (xs : List P) (q : ByteArray) (hf : Fitz xs) (w : World) (hA : Prs w a xs) :
    Calls Try.prog 16 #[.slice a xs.length c, .string q] w fun e w' => e = .returned (getP xs q).v ∧ Below w.heap.size w w' := by
  have hx := hf.len
  have HF := Lib.hid hf
  have HM := Lib.hid (V.Mine.new w 0 0 ⟨#[]⟩)
  have HW := Lib.hid (fun x y z => below_box w (.cells #[.int .i64 x, .int .i64 y, .string z] 30))
  have HA := Lib.hid (hA.below (HW.out 0 0 ⟨#[]⟩))
  clear hA hf
  obtain ⟨n, hn⟩ : ∃ n, xs.length = n := ⟨_, rfl⟩
  have HL := Lib.hid hn
  rw [hn] at hx ⊢
  clear hn
  go_enter Try.func16, Try.ntmps16
  go_wp2
  go_loopw [9] (fun s9 wr => ∃ k : Nat, k ≤ n ∧ s9 = .int .i64 k ∧ Below (w.heap.size + 1) (w.alloc (.cells #[.int .i64 0, .int .i64 0, .string ⟨#[]⟩] 30)) wr ∧ Hid (∀ j (h : j < xs.length), j < k → xs[j].key.data.toList ≠ q.data.toList)) (fun s9 _ => n - (intOf s9).toNat)
  case atStart => exact ⟨0, Nat.zero_le _, rfl, Below.refl _ _, fun j _ h => absurd h (Nat.not_lt_zero _)⟩
  case round =>
    obtain ⟨k, hk, rfl, hb, HK⟩ := hrel
    have hbn : Below (w.alloc (.cells #[.int .i64 0, .int .i64 0, .string ⟨#[]⟩] 30)).heap.size (w.alloc (.cells #[.int .i64 0, .int .i64 0, .string ⟨#[]⟩] 30)) wr := by simpa using hb
    have HB := Lib.hid (below_2 (HW.out 0 0 ⟨#[]⟩) hbn)
    have hzr := hb.size
    simp at hzr
    by_cases hlt : k < n
    · have hlx : k < xs.length := by rw [HL.out]; exact hlt
      obtain ⟨b, o, rfl, hc⟩ := (HA.out.below hbn).open hlx
      obtain ⟨z0, z1⟩ := HF.out.at hlx
      obtain ⟨c0, c1, c2, c3⟩ := hc k hlx
      obtain ⟨b0, b1, b2, b3⟩ := at_box wr xs[k]
      simp only [Nat.zero_add] at b0 b1 b2 b3
      have HC := Lib.hid (ocv_any xs[k].k xs[k].n xs[k].s (by omega))
      have HMR := Lib.hid (HM.out.below hbn (by simp))
      have HN2 := Lib.hid (below_2 HB.out (below_box wr (.cells #[.string xs[k].key, .int .i64 xs[k].k, .int .i64 xs[k].n, .string xs[k].s] 33)))
      by_cases hok : xs[k].key.data.toList = q.data.toList
      · have HV := Lib.hid (getP_hit hlx (fun j h hj => HK.out j h hj) hok)
        have bq : (xs[k].key.toList == q.toList) = true := by rw [K.eql_eq]; exact decide_eq_true hok
        generalize xs[k] = p at c0 c1 c2 c3 b0 b1 b2 b3 bq HV HC HN2
        clear hc hok z0 z1 hb hbn
        go_wp2_with fail
        refine (HC.out _).mono ?_; rintro e w3 ⟨rfl, hb3⟩
        obtain ⟨⟨y0, y1, y2, f0, f1, f2⟩, g0, g1, g2⟩ := (HMR.out.below (below_box wr (.cells #[.string p.key, .int .i64 p.k, .int .i64 p.n, .string p.s] 33)) (by omega)).below hb3 (by simp; omega)
        have HB3 := Lib.hid (below_2 HN2.out hb3)
        go_wp2_with fail
        obtain ⟨q0, q1, q2⟩ := V.stored (w := w3) (b := w.heap.size) ⟨f0, f1, f2⟩ p.k p.n p.s
        refine bodyPost_ret (v := p.v) (by simp [results, Try.results16, go_sem, q0, q1, q2, P.v]) rfl ⟨?_, V.stored_below HB3.out (Nat.le_refl _) _ _ _⟩
        rw [HV.out]
      · have HNX : Hid (∀ j (h : j < xs.length), j < k + 1 → xs[j].key.data.toList ≠ q.data.toList) := by
          intro j h hj
          by_cases e : j = k
          · subst e; exact hok
          · exact HK.out j h (by omega)
        have bq : (xs[k].key.toList == q.toList) = false := by rw [K.eql_eq]; exact decide_eq_false hok
        generalize xs[k] = p at c0 c1 c2 c3 b0 b1 b2 b3 bq HC HN2
        clear hc hok z0 z1
        go_wp2_with fail
        go_roundw
        case rel => exact ⟨k + 1, by omega, by go_num, hb.alloc (by omega) _, HNX⟩
        case measure => simp [intOf]; omega
    · obtain rfl : n = k := by omega
      have HV : Hid (getP xs q = ⟨q, 0, 0, ⟨#[]⟩⟩) := getP_miss fun j h => HK.out j h (by rw [← HL.out]; exact h)
      obtain ⟨⟨y0, y1, y2, f0, f1, f2⟩, g0, g1, g2⟩ := HM.out.below hbn (by simp)
      clear hb hbn
      go_wp2_with fail
      obtain ⟨q0, q1, q2⟩ := V.stored (w := wr) (b := w.heap.size) ⟨f0, f1, f2⟩ 0 0 ⟨#[]⟩
      refine bodyPost_ret (v := .agg #[.int .i64 0, .int .i64 0, .string ⟨#[]⟩]) (by simp [results, Try.results16, go_sem, q0, q1, q2]) rfl ⟨?_, V.stored_below HB.out (Nat.le_refl _) _ _ _⟩
      rw [HV.out]; rfl

/-! ### Slice -/

end Go.Proofs.Ytieloegadhgipaa.S
