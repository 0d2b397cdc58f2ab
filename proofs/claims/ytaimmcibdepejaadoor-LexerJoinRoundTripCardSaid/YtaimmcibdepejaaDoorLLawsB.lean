/-
  Laws of layer 7, walked over whatever the program's own functions return: LexerJoinRoundTrip.
-/
import Derived.Test.YtaimmcibdepejaaDoorLLawsA
namespace Go.Proofs.YtaimmcibdepejaaDoor.L
open Go.RowKit

def l1 (t : Tok) : Tok := { t with line := 1 }
def backT (xs : List T) : List T := ((toks xs).map l1).map ofTok
theorem backT_len (xs : List T) : (backT xs).length = xs.length := by unfold backT; rw [List.length_map, List.length_map, toks_len]
theorem backT_eq (xs : List T) (j : Nat) (h1 : j < xs.length) (h2 : j < (backT xs).length) : eqT (backT xs)[j] ⟨xs[j].k, xs[j].t, xs[j].n, 1⟩ = true := by
  have e : (backT xs)[j] = ofTok (l1 xs[j].tok) := by simp [backT, toks]
  rw [eqT_iff, e]
  rfl
theorem valid_nums {xs : List T} (hn : ∀ j (h : j < xs.length), -9223372036854775808 ≤ xs[j].n ∧ xs[j].n ≤ 9223372036854775807) : ∀ t ∈ toks xs, t.n ≤ 9223372036854775807 := by
  intro t ht
  obtain ⟨p, hp, rfl⟩ := List.mem_map.1 ht
  obtain ⟨j, hj, rfl⟩ := List.getElem_of_mem hp
  exact (hn j hj).2
/-- the joined text of few tokens is tokenized to them -/
theorem tz_join {xs : List T} (h : (toks xs).all valid = true) (hn : ∀ j (h : j < xs.length), -9223372036854775808 ≤ xs[j].n ∧ xs[j].n ≤ 9223372036854775807) (hb : (jn (toks xs)).length ≤ 16384) :
    tz (jn (toks xs)) = ((toks xs).map l1, 0, 0) := by
  unfold tz
  rw [if_neg (by omega), nf_jn h, tkz_jn h (valid_nums hn)]
  rfl
set_option maxRecDepth 100000 in
theorem trips_bad {jb : Bool} {Tab : World → Prop} (O : Own jb Tab) (a : Option Addr) (c : Nat) (xs : List T) (w : World) (hT : Tab w) (hA : Tks w a xs)
    (g0 : ∀ w, Tks w a xs → Calls Tryd.prog 9 #[.slice a xs.length c] w fun e w' => e = .returned (.bool true) ∧ Below w.heap.size w w')
    (g1 : ∀ w, Tab w → Tks w a xs → Calls Tryd.prog 11 #[.slice a xs.length c] w fun e w' => e = .returned (.tuple #[.string ⟨#[]⟩, .int .i64 1]) ∧ Below w.heap.size w w') :
    Calls Tryd.prog 3 #[.slice a xs.length c] w fun e w' => e = .returned (.bool true) ∧ Below w.heap.size w w' := by
  have G0 := Lib.hid g0
  have G1 := Lib.hid g1
  have HSt := Lib.hid O.stays
  have HV := Lib.hid (lives_any O)
  have HT := Lib.hid hT
  have HA := Lib.hid hA
  clear g0 g1 O hT hA
  go_enter Tryd.func3, Tryd.ntmps3
  go_wp2_with fail
  refine (G0.out _ HA.out).mono ?_; rintro e w1 ⟨rfl, hb1⟩
  have B1 := Lib.hid hb1
  clear hb1
  go_wp2_with fail
  refine (G1.out _ (HSt.out _ _ HT.out B1.out) (HA.out.below B1.out)).mono ?_; rintro e w2 ⟨rfl, hb2⟩
  have B2 := Lib.hid (below_2 B1.out hb2)
  clear hb2
  go_wp2_with fail
  refine (HV.out _ (HSt.out _ _ HT.out B2.out)).mono ?_; rintro e w7 ⟨rfl, hb7⟩
  go_wp2_with fail
  go_ret
  exact ⟨rfl, below_2 B2.out hb7⟩
set_option maxHeartbeats 2000000 in
set_option maxRecDepth 100000 in
theorem trips_core {jb : Bool} {Tab : World → Prop} (O : Own jb Tab) (a : Option Addr) (c : Nat) (xs ys : List T) (s : ByteArray) (hx : xs.length ≤ 40) (hy : ys.length = xs.length) (he : ∀ j (h1 : j < xs.length) (h2 : j < ys.length), eqT ys[j] ⟨xs[j].k, xs[j].t, xs[j].n, 1⟩ = true) (w : World) (hT : Tab w) (hA : Tks w a xs)
    (g0 : ∀ w, Tks w a xs → Calls Tryd.prog 9 #[.slice a xs.length c] w fun e w' => e = .returned (.bool true) ∧ Below w.heap.size w w')
    (g1 : ∀ w, Tab w → Tks w a xs → Calls Tryd.prog 11 #[.slice a xs.length c] w fun e w' => e = .returned (.tuple #[.string s, .int .i64 0]) ∧ Below w.heap.size w w')
    (g2 : ∀ w, Tab w → Calls Tryd.prog 12 #[.string s] w fun e w' => (∃ a c, e = .returned (.tuple #[.slice a ys.length c, .int .i64 0, .int .i64 0]) ∧ Sl w' a c ys) ∧ Below w.heap.size w w') :
    Calls Tryd.prog 3 #[.slice a xs.length c] w fun e w' => e = .returned (.bool true) ∧ Below w.heap.size w w' := by
  rw [hy] at g2
  obtain ⟨n, hn⟩ : ∃ n, xs.length = n := ⟨_, rfl⟩
  have HL := Lib.hid hn
  rw [hn] at hx hy g0 g1 g2 ⊢
  have HY := Lib.hid hy
  have HE := Lib.hid he
  have G0 := Lib.hid g0
  have G1 := Lib.hid g1
  have G2 := Lib.hid g2
  have HSt := Lib.hid O.stays
  have HV := Lib.hid (lives_any O)
  have HT := Lib.hid hT
  have HA := Lib.hid hA
  clear g0 g1 g2 O hT hA hn hy he
  go_enter Tryd.func3, Tryd.ntmps3
  go_wp2_with fail
  refine (G0.out _ HA.out).mono ?_; rintro e w1 ⟨rfl, hb1⟩
  have B1 := Lib.hid hb1
  clear hb1
  go_wp2_with fail
  refine (G1.out _ (HSt.out _ _ HT.out B1.out) (HA.out.below B1.out)).mono ?_; rintro e w2 ⟨rfl, hb2⟩
  have B2 := Lib.hid (below_2 B1.out hb2)
  clear hb2
  go_wp2_with fail
  refine (G2.out _ (HSt.out _ _ HT.out B2.out)).mono ?_; rintro e w3 ⟨⟨a2, c2, rfl, hS2⟩, hb3⟩
  have B3 := Lib.hid (below_2 B2.out hb3)
  have S3 := Lib.hid hS2.prs
  clear hb3 hS2
  go_wp2_with fail
  go_loopw [8] (fun s8 wr => ∃ k : Nat, k ≤ n ∧ s8 = .int .i64 k ∧ Below w3.heap.size w3 wr) (fun s8 _ => n - (intOf s8).toNat)
  case atStart => exact ⟨0, Nat.zero_le _, rfl, Below.refl _ _⟩
  case round =>
    obtain ⟨k, hk, rfl, hb⟩ := hrel
    by_cases hlt : k < n
    · have hlx : k < xs.length := by rw [HL.out]; exact hlt
      have hly : k < ys.length := by rw [HY.out]; exact hlt
      obtain ⟨b1, o1, rfl, hc⟩ := (HA.out.below (below_2 B3.out hb)).open hlx
      obtain ⟨b2, o2, rfl, hd⟩ := (S3.out.below hb).open hly
      obtain ⟨c0, c1, c2, c3⟩ := hc k hlx
      have hD := hd k hly
      have hq := run_neq_tok ys[k] ⟨xs[k].k, xs[k].t, xs[k].n, 1⟩
      rw [HE.out k hlx hly] at hq
      generalize xs[k] = p at c0 c1 c2 c3 hq
      generalize ys[k] = q at hD hq
      obtain ⟨d0, d1, d2, d3⟩ := (hD.below (below_box wr (.cells #[.int .i64 p.k, .string p.t, .int .i64 p.n, .int .i64 1] 31)) hD.lt).grown
      have hbx := at_box wr ⟨p.k, p.t, p.n, 1⟩
      obtain ⟨e0, e1, e2, e3⟩ := hbx.grown
      simp only [Nat.zero_add] at e0 e1 e2 e3
      clear hc hd hD hbx
      go_wp2_with fail
      refine wp_region_quiet_below (by kernel_rfl) (by kernel_rfl) ?_
      repeat (go_big_quiet_step (fail))
      refine wpQuiet_nil ?_
      intro w4 hw'
      obtain ⟨⟨dq, osq⟩, hw''⟩ := hw'
      have hb4 : Below (wr.alloc (.cells #[.int .i64 p.k, .string p.t, .int .i64 p.n, .int .i64 1] 31)).heap.size (wr.alloc (.cells #[.int .i64 p.k, .string p.t, .int .i64 p.n, .int .i64 1] 31)) w4 := by
        rw [hw'']
        exact below_regrown _ dq osq
      clear hw''
      go_wp2_with fail
      go_roundw
      case rel => exact ⟨k + 1, by omega, by go_num, below_2 (below_2 hb (below_box wr _)) hb4⟩
      case measure => simp [intOf]; omega
    · obtain rfl : n = k := by omega
      have B9 := Lib.hid (below_2 B3.out hb)
      go_wp2_with fail
      refine (HV.out _ (HSt.out _ _ HT.out B9.out)).mono ?_; rintro e w7 ⟨rfl, hb7⟩
      go_wp2_with fail
      go_ret
      exact ⟨rfl, below_2 B9.out hb7⟩
set_option maxRecDepth 100000 in
theorem trips_walk {Tab : World → Prop} (O : Own true Tab) (a : Option Addr) (c : Nat) (xs : List T) (hx : xs.length ≤ 1000000000000000) (hs : ∀ j (h : j < xs.length), xs[j].t.size ≤ 9223372036854775800) (hn : ∀ j (h : j < xs.length), -9223372036854775808 ≤ xs[j].n ∧ xs[j].n ≤ 9223372036854775807) (w : World) (hT : Tab w) (hA : Tks w a xs) :
    Calls Tryd.prog 3 #[.slice a xs.length c] w fun e w' => e = .returned (.bool true) ∧ Below w.heap.size w w' := by
  have g0 := fun w h => small_any a c xs hx hs w h
  cases hq : smallT xs
  · rw [hq] at g0
    have G0 := Lib.hid (g0 w hA)
    have HW := Lib.hid (lives_any O)
    have HT := Lib.hid hT
    have HSt := Lib.hid O.stays
    clear O hT g0 hA hq
    go_enter Tryd.func3, Tryd.ntmps3
    go_wp2_with fail
    refine G0.out.mono ?_; rintro e w1 ⟨rfl, hb1⟩
    have B1 := Lib.hid hb1
    clear hb1
    go_wp2_with fail
    refine (HW.out _ (HSt.out _ _ HT.out B1.out)).mono ?_; rintro e w7 ⟨rfl, hb7⟩
    go_wp2_with fail
    go_ret
    exact ⟨rfl, below_2 B1.out hb7⟩
  · have hF := fits_small hq hn
    have hxs := (smallT_yes hq).1
    rw [hq] at g0
    have hj := O.join rfl a c xs hF
    cases hv : (toks xs).all valid
    · rw [join_bad hv] at hj
      exact trips_bad O a c xs w hT hA g0 hj
    · have hlen := jn_len hv (valid_nums hn)
      rw [toks_len] at hlen
      rw [join_ok hv (by omega)] at hj
      have ht := O.tz ⟨(jn (toks xs)).toArray⟩ (by rw [size_len]; show (jn (toks xs)).length ≤ _; omega)
      rw [show (ByteArray.mk (jn (toks xs)).toArray).data.toList = jn (toks xs) from rfl, tz_join hv hn (by omega)] at ht
      exact trips_core O a c xs (backT xs) _ hxs (backT_len xs) (backT_eq xs) w hT hA g0 hj (fun w h => (ht w h).mono fun e w' ⟨h1, h2⟩ => ⟨h1, h2⟩)
end Go.Proofs.YtaimmcibdepejaaDoor.L
