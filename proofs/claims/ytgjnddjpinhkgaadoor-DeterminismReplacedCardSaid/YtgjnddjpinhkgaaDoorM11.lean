/-
  What the program's function Exprs of layer 8 returns: its contract.
  What the reach gives of the walk's expressions.
-/
import Derived.Test.YtgjnddjpinhkgaaDoorM10
import Derived.Test.YtgjnddjpinhkgaaDoorM03
namespace Go.Proofs.YtgjnddjpinhkgaaDoor.A
open Go.RowKit
open L (Str isName prt size_len below_2 below_box ret_bool ret_int eql_eq bytes_eq)

set_option maxHeartbeats 8000000 in
set_option maxRecDepth 100000 in
theorem oexprs_any (p : Pr) (a1 a2 : Option Addr) (c1 c2 : Nat) (hok : OkP p) (hsz : cB p.body ≤ 900000) (w : World) (hK : PrIn w p a1 a2) :
    Calls Tryd.prog 50 #[prV p a1 c1 a2 c2] w fun e' w' => GivesXs w (exprs p) e' w' := by
  have hw := below_box w (prO p a1 c1 a2 c2)
  have hbx := Bx.new w #[.string p.name, .slice a1 p.params.length c1, .slice a2 p.body.length c2] 25
  have hz1 : (w.alloc (prO p a1 c1 a2 c2)).heap.size = w.heap.size + 1 := by simp
  have hJ0 : JX (w.alloc (prO p a1 c1 a2 c2)) (w.heap.size + 1) 0 (fun _ => False) [] ((w.alloc (prO p a1 c1 a2 c2)).alloc (.cells #[.slice none 0 0] 50)) := ⟨[], rfl, by simp, none, 0, cell1_at (by simp), fun h => h, Own1.nil⟩
  have hb2 := below_box (w.alloc (prO p a1 c1 a2 c2)) (.cells #[.slice none 0 0] 50)
  have hC := owalkX_any (visX (w0 := w.alloc (prO p a1 c1 a2 c2)) (N := w.heap.size + 1) (by omega)) p a1 c1 a2 c2 hok.body hok.bodyLen (by omega) (hK.below hw).body [] _ hJ0 hb2
  rw [exprs_run] at hC
  have HC := Lib.hid hC
  have HBX := Lib.hid (hbx.below hb2)
  have HW := Lib.hid hw
  have HB := Lib.hid (below_2 hw hb2)
  have HZ := Lib.hid hz1
  have x0 := HBX.out.cell 0
  have x1 := HBX.out.cell 1
  have x2 := HBX.out.cell 2
  unfold prO at *
  unfold prV at *
  simp at x0 x1 x2
  clear hC hJ0 hb2 hw hbx hz1 hok hsz hK
  go_enter Tryd.func50, Tryd.ntmps50
  go_wp2_with fail
  refine HC.out.mono ?_; rintro e' w5 ⟨rfl, ⟨n5, lt, hlt, hll, pl, ql, hC5, _, hO5⟩, hb5⟩
  have s1 := hC5.cell
  have HV : Hid (GivesXs w (exprs p) (.returned (.slice pl lt.length ql)) w5) := by
    show GivesXs _ _ _ _
    rw [hlt]
    exact ⟨pl, ql, by rw [List.length_map], hO5.kids.now, HB.out.trans (hb5.mono HW.out.size)⟩
  clear hC5 hO5 hb5 hlt hll
  go_wp2_with fail
  go_ret
  exact HV.out
end Go.Proofs.YtgjnddjpinhkgaaDoor.A
namespace Go.Proofs.YtgjnddjpinhkgaaDoor.A
open L (Str isName prt size_len)

/-- what the reach gives of a node that is an expression -/
def VE (n : Nat) : V → Prop
  | .st _ _ => True
  | .ex e _ => okE e ∧ cE e ≤ n
mutual
theorem preE_ve (n : Nat) : ∀ (e : Ex) (r : Bool), okE e → cE e ≤ n → ∀ v ∈ preE e r, VE n v
  | .mk o m s l, r, hok, hc, v, h => by
    rw [preE] at h
    rcases List.mem_cons.1 h with rfl | h
    · exact ⟨hok, hc⟩
    · rw [okE] at hok
      rw [cE] at hc
      exact preEs_ve n l hok.2.2.2.2 (by omega) v h
theorem preEs_ve (n : Nat) : ∀ (l : List Ex), okEs l → cEs l ≤ n → ∀ v ∈ preEs l, VE n v
  | [], _, _, v, h => by rw [preEs] at h; cases h
  | e :: r, hok, hc, v, h => by
    rw [okEs] at hok
    rw [cEs] at hc
    rw [preEs] at h
    rcases List.mem_append.1 h with h | h
    · exact preE_ve n e false hok.1 (by omega) v h
    · exact preEs_ve n r hok.2 (by omega) v h
end
theorem preR_ve (n : Nat) (e : Ex) (hok : okE e) (hc : cE e ≤ n) : ∀ v ∈ preR e, VE n v := by
  intro v h
  unfold preR at h
  split at h
  · cases h
  · exact preE_ve n e true hok hc v h
mutual
theorem preS_ve (n : Nat) : ∀ (s : St) (d : Nat), okS s → cS s ≤ n → ∀ v ∈ preS s d, VE n v
  | .mk o nm mx a b bd el, d, hok, hc, v, h => by
    rw [okS] at hok
    obtain ⟨_, _, _, h1, h2, _, h3, _, h4⟩ := hok
    rw [cS] at hc
    rw [preS] at h
    rcases List.mem_cons.1 h with rfl | h
    · trivial
    rcases List.mem_append.1 h with h | h
    · rcases List.mem_append.1 h with h | h
      · rcases List.mem_append.1 h with h | h
        · exact preR_ve n a h1 (by omega) v h
        · exact preR_ve n b h2 (by omega) v h
      · exact preB_ve n bd (d + 1) h3 (by omega) v h
    · exact preB_ve n el (d + 1) h4 (by omega) v h
theorem preB_ve (n : Nat) : ∀ (l : List St) (d : Nat), okB l → cB l ≤ n → ∀ v ∈ preB l d, VE n v
  | [], d, _, _, v, h => by rw [preB] at h; cases h
  | s :: r, d, hok, hc, v, h => by
    rw [okB] at hok
    rw [cB] at hc
    rw [preB] at h
    rcases List.mem_append.1 h with h | h
    · exact preS_ve n s d hok.1 (by omega) v h
    · exact preB_ve n r d hok.2 (by omega) v h
end
theorem exprs_ve {p : Pr} (hok : okB p.body) : ∀ e ∈ exprs p, okE e ∧ cE e ≤ cB p.body := fun e h => by
  unfold exprs at h
  obtain ⟨v, hv, he⟩ := List.mem_filterMap.1 h
  have hve := preB_ve (cB p.body) p.body 1 hok (Nat.le_refl _) v (List.mem_of_mem_take (by unfold walk at hv; exact hv))
  cases v with
  | st s d => cases he
  | ex x r =>
    cases r
    · cases he
    · injection he with he; subst he; exact hve
end Go.Proofs.YtgjnddjpinhkgaaDoor.A
