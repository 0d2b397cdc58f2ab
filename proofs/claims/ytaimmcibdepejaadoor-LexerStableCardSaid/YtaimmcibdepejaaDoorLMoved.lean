/-
  What Moved returns, of the reference of layer 7: its contract.
-/
import Derived.Test.YtaimmcibdepejaaDoorLSames
namespace Go.Proofs.YtaimmcibdepejaaDoor.L
open Go.RowKit

/-- a token with a greater line -/
def mvT (d : Int) (p : T) : T := ⟨p.k, p.t, p.n, p.line + d⟩
theorem take_mv {xs : List T} {k : Nat} (d : Int) (h : k < xs.length) : (xs.take (k + 1)).map (mvT d) = (xs.take k).map (mvT d) ++ [mvT d xs[k]] := by
  rw [List.take_succ_eq_append_getElem h, List.map_append]; rfl
set_option maxHeartbeats 2000000 in
set_option maxRecDepth 100000 in
theorem rmoved_any (a : Option Addr) (c : Nat) (xs : List T) (d : Int) (hx : xs.length ≤ 1000000000000) (hd0 : 0 ≤ d) (hd1 : d ≤ 1000000000000) (hl : ∀ j (h : j < xs.length), 0 ≤ xs[j].line ∧ xs[j].line ≤ 1000000000000) (w : World) (hA : Tks w a xs) :
    Calls Tryd.prog 24 #[.slice a xs.length c, .int .i64 d] w fun e w' => (∃ a1 c1, e = .returned (.slice a1 (xs.map (mvT d)).length c1) ∧ Sl w' a1 c1 (xs.map (mvT d))) ∧ Below w.heap.size w w' := by
  have HA := Lib.hid hA
  have HLn := Lib.hid hl
  clear hA hl
  obtain ⟨n, hn⟩ : ∃ n, xs.length = n := ⟨_, rfl⟩
  have HL := Lib.hid hn
  rw [hn] at hx ⊢
  clear hn
  go_enter Tryd.func24, Tryd.ntmps24
  go_wp2
  go_loopw [5, 6] (fun s5 s6 wr => ∃ k : Nat, k ≤ n ∧ s6 = .int .i64 k ∧ Hid (wr.ownsRow w.heap.size 31 4 s5 ((xs.take k).map (mvT d)).length (pc ((xs.take k).map (mvT d)))) ∧ Below w.heap.size w wr) (fun _ s6 _ => n - (intOf s6).toNat)
  case atStart => exact ⟨0, Nat.zero_le _, rfl, World.ownsRow_nil _ _ _ _, Below.refl _ _⟩
  case round =>
    obtain ⟨k, hk, rfl, HO, hb⟩ := hrel
    have hzr := hb.size
    by_cases hlt : k < n
    · have hlx : k < xs.length := by rw [HL.out]; exact hlt
      obtain ⟨b1, o1, rfl, hc⟩ := (HA.out.below hb).open hlx
      obtain ⟨c0, c1, c2, c3⟩ := hc k hlx
      obtain ⟨hl0, hl1⟩ := HLn.out k hlx
      have HM := Lib.hid (take_mv d hlx)
      have hml : ((xs.take k).map (mvT d)).length = k := by rw [List.length_map, List.length_take]; omega
      generalize xs[k] = p at c0 c1 c2 c3 hl0 hl1 HM
      clear hc
      go_wp2_with (at_builtin; refine wpList_append_pair_at rfl (.tmp 23) (.tmp 25) rfl w.heap.size u5 ((xs.take k).map (mvT d)) rfl (mvT d p) (HO.out.alloc _) (wr.heap.size + 1) rfl (by simp) (by omega) (by simp; omega) ?_; intro v1 w5 hown1 hgrow1; have hb5 := below_app (below_2 hb (below_box wr _)) (by simp; omega) hgrow1 (own_ge HO.out))
      go_roundw
      case rel => exact ⟨k + 1, by omega, by go_num, (by unfold Hid; rw [HM.out]; exact hown1), hb5⟩
      case measure => simp [intOf]; omega
    · obtain rfl : n = k := by omega
      have hown := HO.out
      rw [List.take_of_length_le (by rw [HL.out]; exact Nat.le_refl _)] at hown
      obtain ⟨a1, c1, rfl, hS1⟩ := own_sl hown
      have HS1 := Lib.hid hS1
      clear hown hS1 HO
      go_wp2_with fail
      go_ret
      exact ⟨⟨a1, c1, rfl, HS1.out⟩, hb⟩
end Go.Proofs.YtaimmcibdepejaaDoor.L
