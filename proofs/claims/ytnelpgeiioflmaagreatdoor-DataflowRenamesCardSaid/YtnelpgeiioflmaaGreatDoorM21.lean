/-
  Plain mathematics of layer 14: keys that are constants or variables that are not tainted.
  Plain mathematics of layer 14: the program's own analysis over the variables that are not tainted; that it finds the least closed set, and answers as the specification.
  Layer 14's map of the variables that are not tainted, in memory: look-ups, deletions, its length.
  What the reference of layer 14 returns: has, Access, TaintedExpr: contracts.
  What the program's functions of layer 14 return over expressions: isReading, isTainted, readsTainted: contracts.
-/
import Derived.Test.YtnelpgeiioflmaaGreatDoorSFLaws
import Derived.Test.YtnelpgeiioflmaaGreatDoorM11
import Derived.Test.YtnelpgeiioflmaaGreatDoorM14
import Derived.Test.YtnelpgeiioflmaaGreatDoorM07
import Derived.Test.YtnelpgeiioflmaaGreatDoorM08
namespace Go.Proofs.YtnelpgeiioflmaaGreatDoor.F
open A (Ex St Pm Pr V stE preB preS preR preE preEs absent vE vEs arity nodeE names walk Good good_of)
open Y (chk chk_main Chk)

def plainK (T : ByteArray → Bool) (k : Ex) : Bool := decide (k.op = 2) || (decide (k.op = 3) && !T k.s)
def keyOk (T : ByteArray → Bool) : V → Bool
  | .st s _ => !(decide (s.op = 3) || decide (s.op = 4)) || plainK T s.a
  | .ex e _ => !acc e.op || (match e.args with | k :: _ => plainK T k | [] => true)
theorem node_of {e : Ex} {d : Nat} (h : vE e d = 0) : nodeE e d = 0 := by
  obtain ⟨o, n, s, l⟩ := e
  rw [vE] at h
  by_cases h1 : nodeE (.mk o n s l) d = 0
  · exact h1
  · rw [if_pos h1] at h; exact h
theorem args_of {e : Ex} {d : Nat} (h : vE e d = 0) : vEs e.args (d + 1) = 0 := by
  obtain ⟨o, n, s, l⟩ := e
  have h1 := node_of h
  rw [vE, if_neg (fun z => z h1)] at h
  exact h
theorem vEs_each : ∀ {l : List Ex} {d : Nat}, vEs l d = 0 → ∀ k ∈ l, vE k d = 0
  | e :: r, d, h, k, hk => by
    rw [vEs] at h
    by_cases h1 : vE e d = 0
    · rw [if_neg (fun z => z h1)] at h
      rcases List.mem_cons.1 hk with hk | hk
      · rw [hk]; exact h1
      · exact vEs_each h k hk
    · rw [if_pos h1] at h; exact absurd h h1
mutual
theorem vE_sub : ∀ (e : Ex) (r : Bool) (d : Nat) (x : Ex) (q : Bool), vE e d = 0 → V.ex x q ∈ preE e r → ∃ k, vE x k = 0
  | .mk o n s l, r, d, x, q, h, hx => by
    rw [preE] at hx
    rcases List.mem_cons.1 hx with hx | hx
    · injection hx with h1 h2
      rw [h1]
      exact ⟨d, h⟩
    · exact vEs_sub l (d + 1) x q (args_of h) hx
theorem vEs_sub : ∀ (l : List Ex) (d : Nat) (x : Ex) (q : Bool), vEs l d = 0 → V.ex x q ∈ preEs l → ∃ k, vE x k = 0
  | [], _, _, _, _, hx => by rw [preEs] at hx; cases hx
  | e :: r, d, x, q, h, hx => by
    rw [preEs] at hx
    have h1 := vEs_each h
    rcases List.mem_append.1 hx with hx | hx
    · exact vE_sub e false d x q (h1 e List.mem_cons_self) hx
    · refine vEs_sub r d x q ?_ hx
      have h2 := h1 e List.mem_cons_self
      rw [vEs, if_neg (fun z => z h2)] at h
      exact h
end
theorem plain_leaf {T : ByteArray → Bool} {k : Ex} {d : Nat} (h : vE k d = 0) (hp : plainK T k = true) : tE T k = false := by
  have hn := node_of h
  obtain ⟨o, n, s, l⟩ := k
  have hp' : (decide (o = 2) || (decide (o = 3) && !T s)) = true := hp
  have ho : o = 2 ∨ o = 3 ∧ T s = false := by simpa using hp'
  have ha : arity o = 0 := by rcases ho with rfl | ⟨rfl, -⟩ <;> rfl
  have hl : l = [] := by
    unfold nodeE at hn
    split at hn
    · cases hn
    · split at hn
      · cases hn
      · split at hn
        · cases hn
        · rename_i h3
          have h4 : ¬ ((l.length : Int) ≠ arity o) := fun z => h3 (Or.inr (Or.inr z))
          rw [ha] at h4
          exact List.length_eq_zero_iff.1 (by omega)
  subst hl
  rw [tE, tEs]
  rcases ho with rfl | ⟨rfl, ht⟩
  · simp [acc]
  · simp [acc, ht]
theorem keys_plain {p : Pr} (h : (chk p).2 = 0) (hk : ∀ v ∈ walk p, keyOk (mem (taint p)) v = true) : keysT p = false := by
  obtain ⟨hw, ho⟩ := ok_walk h
  rw [taint_mem h] at hk
  unfold keysT
  rw [if_neg (fun z => z h)]
  refine List.any_eq_false.2 fun v hv hx => ?_
  have hkv := hk v hv
  rw [hw] at hv
  cases v with
  | st s d =>
    rw [keyV, Bool.and_eq_true] at hx
    rw [keyOk, hx.1] at hkv
    have hg := good_of (ho s d hv)
    have h34 : s.op = 3 ∨ s.op = 4 := by simpa using hx.1
    have hva := hg.a (by rcases h34 with e | e <;> rw [e] <;> rfl)
    rw [plain_leaf hva (by simpa using hkv)] at hx
    cases hx.2
  | ex e r =>
    rw [keyV, Bool.and_eq_true] at hx
    rw [keyOk, hx.1] at hkv
    obtain ⟨e0, h1, h2, -⟩ := ex_rootB p.body 1 e r hv
    have h3 := (A.preB_root p.body 1 ho e0 h1).1
    obtain ⟨k0, hk0⟩ := vE_sub e0 true 1 e r h3 h2
    have h5 := vEs_each (args_of hk0)
    obtain ⟨-, hx2⟩ := hx
    cases ha : e.args with
    | nil => rw [ha] at hx2; cases hx2
    | cons k rest =>
      rw [ha] at hx2 hkv h5
      have h6 : tE (mem (tnt p.body)) k = true := hx2
      rw [plain_leaf (h5 k List.mem_cons_self) (by simpa using hkv)] at h6
      cases h6
end Go.Proofs.YtnelpgeiioflmaaGreatDoor.F
namespace Go.Proofs.YtnelpgeiioflmaaGreatDoor.F
open A (Ex St Pm Pr V stE preB preS preR preE preEs absent vE vEs arity nodeE names walk Good good_of uA uB uD uE uN)
open Y (isIn isIn_iff isIn_no chk chk_main Chk knE knEs scS scB)

def nt (g : ByteArray → Bool) : ByteArray → Bool := fun x => !g x
def hr (T : ByteArray → Bool) (u : Bool) (a b : Ex) : Bool := u || tE T a || tE T b
def dl (g : ByteArray → Bool) (h : Bool) (nm : ByteArray) : ByteArray → Bool := if h = true then fun x => !decide (nm = x) && g x else g
mutual
def pS (g : ByteArray → Bool) (u : Bool) : St → (ByteArray → Bool)
  | .mk _ nm _ a b bd el => pB (pB (dl g (hr (nt g) u a b) nm) (hr (nt g) u a b) bd) (hr (nt g) u a b) el
def pB (g : ByteArray → Bool) (u : Bool) : List St → (ByteArray → Bool)
  | [] => g
  | s :: r => pB (pS g u s) u r
end
mutual
def pcS (T : ByteArray → Bool) (u : Bool) : St → Prop
  | .mk _ nm _ a b bd el => (hr T u a b = true → T nm = true) ∧ pcB T (hr T u a b) bd ∧ pcB T (hr T u a b) el
def pcB (T : ByteArray → Bool) (u : Bool) : List St → Prop
  | [] => True
  | s :: r => pcS T u s ∧ pcB T u r
end
theorem hr_mono {T T' : ByteArray → Bool} {u u' : Bool} {a b : Ex} (h : ∀ x, T x = true → T' x = true) (hu : u = true → u' = true) : hr T u a b = true → hr T' u' a b = true := by
  unfold hr
  simp only [Bool.or_eq_true]
  rintro ((h1 | h1) | h1)
  · exact Or.inl (Or.inl (hu h1))
  · exact Or.inl (Or.inr (tE_mono h a h1))
  · exact Or.inr (tE_mono h b h1)
def Sub (g g' : ByteArray → Bool) : Prop := ∀ x, g x = true → g' x = true
theorem dl_sub {g : ByteArray → Bool} {h : Bool} {nm : ByteArray} : Sub (dl g h nm) g := by
  unfold dl
  split
  · intro x hx
    rw [Bool.and_eq_true] at hx
    exact hx.2
  · exact fun _ h => h
mutual
theorem pS_sub : ∀ (s : St) (g : ByteArray → Bool) (u : Bool), Sub (pS g u s) g
  | .mk o nm mx a b bd el, g, u => by
    rw [pS]
    exact fun x hx => dl_sub x (pB_sub bd _ _ x (pB_sub el _ _ x hx))
theorem pB_sub : ∀ (l : List St) (g : ByteArray → Bool) (u : Bool), Sub (pB g u l) g
  | [], g, u => by rw [pB]; exact fun _ h => h
  | s :: r, g, u => by
    rw [pB]
    exact fun x hx => pS_sub s _ _ x (pB_sub r _ _ x hx)
end
theorem sub_antisymm {g g' : ByteArray → Bool} (h : Sub g g') (h' : Sub g' g) : g = g' := funext fun x => by
  cases h1 : g x <;> cases h2 : g' x
  · rfl
  · rw [h' x h2] at h1; cases h1
  · rw [h x h1] at h2; cases h2
  · rfl
theorem dl_least {g C : ByteArray → Bool} {h h' : Bool} {nm : ByteArray} (hh : h = true → h' = true) (hc : h' = true → C nm = true) (hv : ∀ x, nt g x = true → C x = true) : ∀ x, nt (dl g h nm) x = true → C x = true := by
  unfold dl
  split
  · rename_i h1
    intro x hx
    by_cases e : nm = x
    · rw [← e]; exact hc (hh h1)
    · refine hv x ?_
      have hx' : (!(!decide (nm = x) && g x)) = true := hx
      rw [decide_eq_false e] at hx'
      exact hx'
  · exact hv
mutual
theorem pS_least {C : ByteArray → Bool} : ∀ (s : St) (g : ByteArray → Bool) (u u' : Bool), (u = true → u' = true) → pcS C u' s → (∀ x, nt g x = true → C x = true) → ∀ x, nt (pS g u s) x = true → C x = true
  | .mk o nm mx a b bd el, g, u, u', hu, hc, hv => by
    rw [pcS] at hc
    rw [pS]
    have hh : hr (nt g) u a b = true → hr C u' a b = true := hr_mono hv hu
    exact pB_least el _ _ _ hh hc.2.2 (pB_least bd _ _ _ hh hc.2.1 (dl_least hh hc.1 hv))
theorem pB_least {C : ByteArray → Bool} : ∀ (l : List St) (g : ByteArray → Bool) (u u' : Bool), (u = true → u' = true) → pcB C u' l → (∀ x, nt g x = true → C x = true) → ∀ x, nt (pB g u l) x = true → C x = true
  | [], g, u, u', hu, hc, hv => by rw [pB]; exact hv
  | s :: r, g, u, u', hu, hc, hv => by
    rw [pcB] at hc
    rw [pB]
    exact pB_least r _ _ _ hu hc.2 (pS_least s _ _ _ hu hc.1 hv)
end
theorem dl_fix {g : ByteArray → Bool} {h : Bool} {nm : ByteArray} (e : dl g h nm = g) : h = true → nt g nm = true := by
  intro h1
  unfold dl at e
  rw [if_pos h1] at e
  have := congrFun e nm
  unfold nt
  rw [← this]
  simp
mutual
theorem pS_fix : ∀ (s : St) (g : ByteArray → Bool) (u : Bool), pS g u s = g → pcS (nt g) u s
  | .mk o nm mx a b bd el, g, u, e => by
    rw [pS] at e
    have s3 := pB_sub el (pB (dl g (hr (nt g) u a b) nm) (hr (nt g) u a b) bd) (hr (nt g) u a b)
    rw [e] at s3
    have s2 := pB_sub bd (dl g (hr (nt g) u a b) nm) (hr (nt g) u a b)
    have s1 := dl_sub (g := g) (h := hr (nt g) u a b) (nm := nm)
    have e1 : dl g (hr (nt g) u a b) nm = g := sub_antisymm s1 fun x hx => s2 x (s3 x hx)
    rw [e1] at e s2 s3
    have e2 : pB g (hr (nt g) u a b) bd = g := sub_antisymm s2 s3
    rw [e2] at e
    rw [pcS]
    exact ⟨dl_fix e1, pB_fix bd _ _ e2, pB_fix el _ _ e⟩
theorem pB_fix : ∀ (l : List St) (g : ByteArray → Bool) (u : Bool), pB g u l = g → pcB (nt g) u l
  | [], g, u, e => by rw [pcB]; trivial
  | s :: r, g, u, e => by
    rw [pB] at e
    have s2 := pB_sub r (pS g u s) u
    rw [e] at s2
    have e1 : pS g u s = g := sub_antisymm (pS_sub s g u) s2
    rw [e1] at e
    rw [pcB]
    exact ⟨pS_fix s _ _ e1, pB_fix r _ _ e⟩
end
/-! statements whose variables are among the names -/
structure Fine (N : List ByteArray) (t : St) (k : Nat) : Prop where
  good : A.Good t k
  a : knE N t.a = true
  b : knE N t.b = true
  nm : t.name.size ≠ 0 → t.name ∈ N
mutual
theorem knE_mono {N N' : List ByteArray} (h : ∀ x ∈ N, x ∈ N') : ∀ e : Ex, knE N e = true → knE N' e = true
  | .mk o n s l, hk => by
    rw [knE, Bool.and_eq_true] at hk ⊢
    refine ⟨?_, knEs_mono h l hk.2⟩
    have h1 := hk.1
    by_cases ho : o = 3
    · rw [decide_eq_true ho] at h1 ⊢
      have h2 : isIn s N = true := by simpa using h1
      rw [isIn_iff.2 (h s (isIn_iff.1 h2))]; rfl
    · rw [decide_eq_false ho]; rfl
theorem knEs_mono {N N' : List ByteArray} (h : ∀ x ∈ N, x ∈ N') : ∀ l : List Ex, knEs N l = true → knEs N' l = true
  | [], _ => by rw [knEs]
  | e :: r, hk => by
    rw [knEs, Bool.and_eq_true] at hk ⊢
    exact ⟨knE_mono h e hk.1, knEs_mono h r hk.2⟩
end
mutual
theorem sc_eachS {N : List ByteArray} : ∀ (s : St) (d : Nat) (seen ls : List ByteArray), scS seen ls s = true → (∀ x ∈ seen, x ∈ N) → (∀ t k, V.st t k ∈ preS s d → t.op = 1 ∨ t.op = 6 → t.name ∈ N) → ∀ t k, V.st t k ∈ preS s d → knE N t.a = true ∧ knE N t.b = true
  | .mk o nm mx a b bd el, d, seen, ls, h, hs, hd, t, k, ht => by
    rw [scS, Bool.and_eq_true, Bool.and_eq_true, Bool.and_eq_true, Bool.and_eq_true] at h
    rw [preS] at ht hd
    rcases List.mem_cons.1 ht with h1 | h1
    · injection h1 with h1 h2
      subst h1
      exact ⟨knE_mono hs a h.1.1.1, knE_mono hs b h.1.1.2⟩
    · simp only [List.mem_append] at h1
      rcases h1 with ((h1 | h1) | h1) | h1
      · obtain ⟨e, r, he⟩ := Y.preR_ex a _ h1; cases he
      · obtain ⟨e, r, he⟩ := Y.preR_ex b _ h1; cases he
      · refine sc_eachB bd (d + 1) _ _ h.2.1 ?_ (fun t k hm => hd t k (by simp [hm])) t k h1
        intro x hx
        split at hx
        · rename_i h6
          rcases List.mem_append.1 hx with hx | hx
          · exact hs x hx
          · rw [List.mem_singleton] at hx
            rw [hx]
            exact hd _ _ List.mem_cons_self (Or.inr h6)
        · exact hs x hx
      · exact sc_eachB el (d + 1) _ _ h.2.2 hs (fun t k hm => hd t k (by simp [hm])) t k h1
theorem sc_eachB {N : List ByteArray} : ∀ (l : List St) (d : Nat) (seen ls : List ByteArray), scB seen ls l = true → (∀ x ∈ seen, x ∈ N) → (∀ t k, V.st t k ∈ preB l d → t.op = 1 ∨ t.op = 6 → t.name ∈ N) → ∀ t k, V.st t k ∈ preB l d → knE N t.a = true ∧ knE N t.b = true
  | [], _, _, _, _, _, _, _, _, ht => by rw [preB] at ht; cases ht
  | s :: r, d, seen, ls, h, hs, hd, t, k, ht => by
    rw [scB, Bool.and_eq_true] at h
    rw [preB] at ht hd
    rcases List.mem_append.1 ht with h1 | h1
    · exact sc_eachS s d _ _ h.1 hs (fun t k hm => hd t k (List.mem_append.2 (Or.inl hm))) t k h1
    · refine sc_eachB r d _ _ h.2 ?_ (fun t k hm => hd t k (List.mem_append.2 (Or.inr hm))) t k h1
      intro x hx
      split at hx
      · rename_i h6
        rcases List.mem_append.1 hx with hx | hx
        · exact hs x hx
        · rw [List.mem_singleton] at hx
          rw [hx]
          obtain ⟨o, nm, mx, a, b, bd, el⟩ := s
          exact hd (.mk o nm mx a b bd el) d (by rw [preS]; simp) (Or.inl h6)
      · exact hs x hx
end
theorem fine_each {p : Pr} (h : (chk p).2 = 0) : ∀ t k, V.st t k ∈ preB p.body 1 → Fine (names p) t k := by
  obtain ⟨hw, ho⟩ := ok_walk h
  have hc := (chk_main p).2 h
  have hd : ∀ t k, V.st t k ∈ preB p.body 1 → t.op = 1 ∨ t.op = 6 → t.name ∈ names p := fun t k hm h1 =>
    List.mem_append.2 (Or.inr (List.mem_filterMap.2 ⟨_, by rw [hw]; exact hm, by rw [A.V.decl, if_pos h1]⟩))
  have hp : ∀ x ∈ p.params.map Pm.name, x ∈ names p := fun x hx => List.mem_append.2 (Or.inl hx)
  intro t k hm
  obtain ⟨h1, h2⟩ := sc_eachB p.body 1 _ _ hc.sco hp hd t k hm
  refine ⟨good_of (ho t k hm), h1, h2, fun h0 => ?_⟩
  rcases op_named (good_of (ho t k hm)) h0 with h3 | h3 | h3
  · exact hd t k hm (Or.inl h3)
  · obtain ⟨ty, -, -, hg, -⟩ := (show Y.OkSt (Y.look (chk p).1) t from hc.ok (V.st t k) (by rw [hw]; exact hm)).set (Or.inr h3)
    obtain ⟨q, hq, hn, -⟩ := Y.look_some hg
    rw [← hc.names, ← hn]
    exact List.mem_map_of_mem hq
  · exact hd t k hm (Or.inr h3)
mutual
theorem tE_kn {N : List ByteArray} {T T' : ByteArray → Bool} (h : ∀ x ∈ N, T x = T' x) : ∀ e : Ex, knE N e = true → tE T e = tE T' e
  | .mk o n s l, hk => by
    rw [knE, Bool.and_eq_true] at hk
    rw [tE, tE, tEs_kn h l hk.2]
    by_cases ho : o = 3
    · have h1 := hk.1
      rw [decide_eq_true ho] at h1
      have h2 : isIn s N = true := by simpa using h1
      rw [h s (isIn_iff.1 h2)]
    · rw [decide_eq_false ho, Bool.false_and, Bool.false_and]
theorem tEs_kn {N : List ByteArray} {T T' : ByteArray → Bool} (h : ∀ x ∈ N, T x = T' x) : ∀ l : List Ex, knEs N l = true → tEs T l = tEs T' l
  | [], _ => by rw [tEs, tEs]
  | e :: r, hk => by
    rw [knEs, Bool.and_eq_true] at hk
    rw [tEs, tEs, tE_kn h e hk.1, tEs_kn h r hk.2]
end
theorem good_b {s : St} {d : Nat} (h : A.Good s d) (h6 : s.op ≠ 6) : absent s.b = true ∨ (s.name.size = 0 ∧ s.body = [] ∧ s.els = []) := by
  have h1 := h.form
  unfold A.badS at h1
  simp only [Bool.or_eq_false_iff, Bool.and_eq_false_iff] at h1
  obtain ⟨⟨⟨⟨⟨⟨-, h2⟩, -⟩, -⟩, h3⟩, h4⟩, h5⟩ := h1
  by_cases h30 : s.op = 3
  · refine Or.inr ⟨?_, ?_, ?_⟩
    · rcases h2 with h2 | h2
      · rw [h30] at h2; exact absurd h2 (by decide)
      · simpa using h2
    · rcases h4 with h4 | h4
      · rw [h30] at h4; exact absurd h4 (by decide)
      · simpa using h4
    · rcases h5 with h5 | h5
      · rw [h30] at h5; exact absurd h5 (by decide)
      · simpa using h5
  · rcases h3 with h3 | h3
    · exact absurd h3 (by simp [A.uB, h30, h6])
    · exact Or.inl (by simpa using h3)
theorem size_nil {x : ByteArray} (h : x.size = 0) : x = ⟨#[]⟩ := by
  rcases x with ⟨a⟩
  congr 1
  exact Array.eq_empty_of_size_eq_zero h
def ext (N : List ByteArray) (C : ByteArray → Bool) : ByteArray → Bool := fun x => C x || !isIn x N
theorem ext_in {N : List ByteArray} {C : ByteArray → Bool} : ∀ x ∈ N, C x = ext N C x := fun x hx => by
  unfold ext; rw [isIn_iff.2 hx]; simp
mutual
theorem pcS_of {N : List ByteArray} {C : ByteArray → Bool} (hN : (⟨#[]⟩ : ByteArray) ∉ N) : ∀ (s : St) (d : Nat) (u : Bool), (∀ t k, V.st t k ∈ preS s d → Fine N t k) → clS C u s → pcS (ext N C) u s
  | .mk o nm mx a b bd el, d, u, hf, hc => by
    rw [preS] at hf
    have f0 := hf _ _ List.mem_cons_self
    rw [clS] at hc
    rw [pcS]
    have ea : tE (ext N C) a = tE C a := (tE_kn ext_in a f0.a).symm
    have eb : tE (ext N C) b = tE C b := (tE_kn ext_in b f0.b).symm
    have hnm : nm.size = 0 → ext N C nm = true := fun z => by
      rw [size_nil z]; unfold ext; rw [isIn_no.2 hN]; simp
    by_cases h6 : o = 6
    · have e : hr (ext N C) u a b = here C u o a b := by unfold hr here; rw [ea, eb, decide_eq_true h6, Bool.true_and]
      rw [e]
      refine ⟨fun hx => ?_, pcB_of hN bd (d + 1) _ (fun t k hm => hf t k (by simp [hm])) hc.2.1, pcB_of hN el (d + 1) _ (fun t k hm => hf t k (by simp [hm])) hc.2.2⟩
      by_cases z : nm.size = 0
      · exact hnm z
      · show (C nm || _) = true; rw [hc.1 hx z]; rfl
    · rcases good_b f0.good h6 with hb | ⟨hb1, hb2, hb3⟩
      · have hb' : absent b = true := hb
        have e : hr (ext N C) u a b = here C u o a b := by unfold hr here; rw [ea, tE_absent b hb', tE_absent b hb', Bool.and_false]
        rw [e]
        refine ⟨fun hx => ?_, pcB_of hN bd (d + 1) _ (fun t k hm => hf t k (by simp [hm])) hc.2.1, pcB_of hN el (d + 1) _ (fun t k hm => hf t k (by simp [hm])) hc.2.2⟩
        by_cases z : nm.size = 0
        · exact hnm z
        · show (C nm || _) = true; rw [hc.1 hx z]; rfl
      · have hb2' : bd = [] := hb2
        have hb3' : el = [] := hb3
        subst hb2' hb3'
        rw [pcB]
        exact ⟨fun _ => hnm hb1, trivial, trivial⟩
theorem pcB_of {N : List ByteArray} {C : ByteArray → Bool} (hN : (⟨#[]⟩ : ByteArray) ∉ N) : ∀ (l : List St) (d : Nat) (u : Bool), (∀ t k, V.st t k ∈ preB l d → Fine N t k) → clB C u l → pcB (ext N C) u l
  | [], _, _, _, _ => by rw [pcB]; trivial
  | s :: r, d, u, hf, hc => by
    rw [preB] at hf
    rw [clB] at hc
    rw [pcB]
    exact ⟨pcS_of hN s d u (fun t k hm => hf t k (List.mem_append.2 (Or.inl hm))) hc.1, pcB_of hN r d u (fun t k hm => hf t k (List.mem_append.2 (Or.inr hm))) hc.2⟩
end
/-! and back -/
mutual
theorem clS_of {N : List ByteArray} {T T' : ByteArray → Bool} (hT : ∀ x ∈ N, T x = T' x) : ∀ (s : St) (d : Nat) (u : Bool), (∀ t k, V.st t k ∈ preS s d → Fine N t k) → pcS T u s → clS T' u s
  | .mk o nm mx a b bd el, d, u, hf, hc => by
    rw [preS] at hf
    have f0 := hf _ _ List.mem_cons_self
    rw [pcS] at hc
    rw [clS]
    have ea : tE T a = tE T' a := tE_kn hT a f0.a
    have eb : tE T b = tE T' b := tE_kn hT b f0.b
    by_cases h6 : o = 6
    · have e : hr T u a b = here T' u o a b := by unfold hr here; rw [ea, eb, decide_eq_true h6, Bool.true_and]
      rw [e] at hc
      exact ⟨fun hx z => by rw [← hT nm (f0.nm z)]; exact hc.1 hx, clB_of hT bd (d + 1) _ (fun t k hm => hf t k (by simp [hm])) hc.2.1, clB_of hT el (d + 1) _ (fun t k hm => hf t k (by simp [hm])) hc.2.2⟩
    · rcases good_b f0.good h6 with hb | ⟨hb1, hb2, hb3⟩
      · have hb' : absent b = true := hb
        have e : hr T u a b = here T' u o a b := by unfold hr here; rw [ea, tE_absent b hb', tE_absent b hb', Bool.and_false]
        rw [e] at hc
        exact ⟨fun hx z => by rw [← hT nm (f0.nm z)]; exact hc.1 hx, clB_of hT bd (d + 1) _ (fun t k hm => hf t k (by simp [hm])) hc.2.1, clB_of hT el (d + 1) _ (fun t k hm => hf t k (by simp [hm])) hc.2.2⟩
      · have hb2' : bd = [] := hb2
        have hb3' : el = [] := hb3
        subst hb2' hb3'
        rw [clB]
        exact ⟨fun _ z => absurd hb1 z, trivial, trivial⟩
theorem clB_of {N : List ByteArray} {T T' : ByteArray → Bool} (hT : ∀ x ∈ N, T x = T' x) : ∀ (l : List St) (d : Nat) (u : Bool), (∀ t k, V.st t k ∈ preB l d → Fine N t k) → pcB T u l → clB T' u l
  | [], _, _, _, _ => by rw [clB]; trivial
  | s :: r, d, u, hf, hc => by
    rw [preB] at hf
    rw [pcB] at hc
    rw [clB]
    exact ⟨clS_of hT s d u (fun t k hm => hf t k (List.mem_append.2 (Or.inl hm))) hc.1, clB_of hT r d u (fun t k hm => hf t k (List.mem_append.2 (Or.inr hm))) hc.2⟩
end
structure Run (p : Pr) (g : ByteArray → Bool) : Prop where
  sub : ∀ x, g x = true → x ∈ names p
  le : ∀ C : ByteArray → Bool, clB C false p.body → ∀ x, nt g x = true → ext (names p) C x = true
theorem names_pos {p : Pr} (h : (chk p).2 = 0) : (⟨#[]⟩ : ByteArray) ∉ names p := fun z => by
  have := (A.declared ((chk_main p).2 h).val z).1
  cases this
theorem Run.start (p : Pr) : Run p (mem (names p)) := ⟨fun x h => mem_iff.1 h, fun C _ x hx => by
  unfold ext
  unfold nt mem at hx
  rw [hx, Bool.or_true]⟩
theorem Run.next {p : Pr} {g : ByteArray → Bool} (h : (chk p).2 = 0) (r : Run p g) : Run p (pB g false p.body) :=
  ⟨fun x hx => r.sub x (pB_sub _ _ _ x hx), fun C hC => pB_least p.body g false false id (pcB_of (names_pos h) p.body 1 false (fine_each h) hC) (r.le C hC)⟩
theorem Run.least {p : Pr} {g : ByteArray → Bool} (h : (chk p).2 = 0) (r : Run p g) (e : pB g false p.body = g) : Least p.body ((names p).filter (nt g)) := by
  have hT : ∀ x ∈ names p, nt g x = mem ((names p).filter (nt g)) x := fun x hx => by
    cases hg : nt g x
    · refine (Bool.eq_false_iff.2 fun z => ?_).symm
      have := (List.mem_filter.1 (mem_iff.1 z)).2
      rw [hg] at this; cases this
    · exact (mem_iff.2 (List.mem_filter.2 ⟨hx, hg⟩)).symm
  refine ⟨clB_of hT p.body 1 false (fine_each h) (pB_fix p.body g false e), fun C hC x hx => ?_⟩
  obtain ⟨h1, h2⟩ := List.mem_filter.1 hx
  have := r.le C hC x h2
  rwa [← ext_in x h1] at this
structure Fin (p : Pr) (g : ByteArray → Bool) : Prop where
  run : Run p g
  fix : pB g false p.body = g
theorem Fin.same {p : Pr} {g : ByteArray → Bool} (h : (chk p).2 = 0) (f : Fin p g) : ∀ x ∈ names p, nt g x = mem (tnt p.body) x := fun x hx => by
  rw [(tnt_least p.body).same (f.run.least h f.fix)]
  cases hg : nt g x
  · refine (Bool.eq_false_iff.2 fun z => ?_).symm
    have := (List.mem_filter.1 (mem_iff.1 z)).2
    rw [hg] at this; cases this
  · exact (mem_iff.2 (List.mem_filter.2 ⟨hx, hg⟩)).symm
theorem Fin.taint {p : Pr} {g : ByteArray → Bool} (h : (chk p).2 = 0) (f : Fin p g) : taint p = (names p).filter fun x => !g x := by
  unfold F.taint
  rw [if_neg (fun z => z h)]
  exact List.filter_congr fun x hx => (f.same h x hx).symm
/-! keys and branches, as the program looks for them -/
mutual
def rE (T : ByteArray → Bool) : Ex → Bool
  | .mk o _ _ l => (acc o && tEs T l) || rEs T l
def rEs (T : ByteArray → Bool) : List Ex → Bool
  | [] => false
  | e :: r => rE T e || rEs T r
end
mutual
def kS (T : ByteArray → Bool) : St → Bool
  | .mk o _ _ a b bd el => ((decide (o = 3) || decide (o = 4)) && tE T a) || rE T a || rE T b || kB T bd || kB T el
def kB (T : ByteArray → Bool) : List St → Bool
  | [] => false
  | s :: r => kS T s || kB T r
end
mutual
def bS (T : ByteArray → Bool) : St → Bool
  | .mk o _ _ a b bd el => ((decide (o = 5) || decide (o = 6)) && (tE T a || tE T b)) || bB T bd || bB T el
def bB (T : ByteArray → Bool) : List St → Bool
  | [] => false
  | s :: r => bS T s || bB T r
end
mutual
theorem rE_kn {N : List ByteArray} {T T' : ByteArray → Bool} (h : ∀ x ∈ N, T x = T' x) : ∀ e : Ex, knE N e = true → rE T e = rE T' e
  | .mk o n s l, hk => by
    rw [knE, Bool.and_eq_true] at hk
    rw [rE, rE, tEs_kn h l hk.2, rEs_kn h l hk.2]
theorem rEs_kn {N : List ByteArray} {T T' : ByteArray → Bool} (h : ∀ x ∈ N, T x = T' x) : ∀ l : List Ex, knEs N l = true → rEs T l = rEs T' l
  | [], _ => by rw [rEs, rEs]
  | e :: r, hk => by
    rw [knEs, Bool.and_eq_true] at hk
    rw [rEs, rEs, rE_kn h e hk.1, rEs_kn h r hk.2]
end
def kx (T : ByteArray → Bool) : V → Bool
  | .st _ _ => false
  | .ex e _ => acc e.op && tEs T e.args
mutual
theorem rE_any {T : ByteArray → Bool} : ∀ (e : Ex) (r : Bool), (preE e r).any (kx T) = rE T e
  | .mk o n s l, r => by
    rw [preE, List.any_cons, rE, rEs_any l]; rfl
theorem rEs_any {T : ByteArray → Bool} : ∀ (l : List Ex), (preEs l).any (kx T) = rEs T l
  | [] => by rw [preEs, rEs]; rfl
  | e :: r => by rw [preEs, List.any_append, rEs, rE_any e, rEs_any r]
end
theorem rE_absent {T : ByteArray → Bool} : ∀ (e : Ex), absent e = true → rE T e = false
  | .mk o n s l, h => by
    unfold A.absent at h
    simp only [Bool.and_eq_true, decide_eq_true_eq, List.isEmpty_iff] at h
    obtain ⟨⟨⟨h1, -⟩, -⟩, h2⟩ := h
    have h1' : o = 0 := h1
    have h2' : l = [] := h2
    subst h1' h2'
    rw [rE, rEs]
    simp [acc]
theorem rR_any {T : ByteArray → Bool} (e : Ex) : (preR e).any (kx T) = rE T e := by
  unfold preR
  cases ha : absent e
  · rw [if_neg (by decide)]; exact rE_any e true
  · rw [if_pos rfl, rE_absent e ha]; rfl
def kv (T : ByteArray → Bool) : V → Bool
  | .st s _ => (decide (s.op = 3) || decide (s.op = 4)) && tE T s.a
  | .ex e _ => acc e.op && tEs T e.args
theorem kvR {T : ByteArray → Bool} (e : Ex) : (preR e).any (kv T) = (preR e).any (kx T) := by
  have : ∀ l : List V, (∀ v ∈ l, kv T v = kx T v) → l.any (kv T) = l.any (kx T) := fun l => by
    induction l with
    | nil => exact fun _ => rfl
    | cons v l ih =>
      intro h
      rw [List.any_cons, List.any_cons, ih fun u hu => h u (List.mem_cons_of_mem _ hu), h v List.mem_cons_self]
  refine this _ fun v hv => ?_
  obtain ⟨x, q, rfl⟩ := Y.preR_ex e v hv
  rfl
mutual
theorem kS_any {T : ByteArray → Bool} : ∀ (s : St) (d : Nat), (preS s d).any (kv T) = kS T s
  | .mk o nm mx a b bd el, d => by
    rw [preS, List.any_cons, List.any_append, List.any_append, List.any_append, kvR, kvR, rR_any, rR_any, kB_any bd, kB_any el, kS]
    show (((decide (o = 3) || decide (o = 4)) && tE T a) || _) = _
    simp only [Bool.or_assoc]
theorem kB_any {T : ByteArray → Bool} : ∀ (l : List St) (d : Nat), (preB l d).any (kv T) = kB T l
  | [], _ => by rw [preB, kB]; rfl
  | s :: r, d => by rw [preB, List.any_append, kB, kS_any s, kB_any r]
end
theorem any_congr {α : Type} {f g : α → Bool} : ∀ {l : List α}, (∀ v ∈ l, f v = g v) → l.any f = l.any g
  | [], _ => rfl
  | v :: l, h => by rw [List.any_cons, List.any_cons, any_congr fun u hu => h u (List.mem_cons_of_mem _ hu), h v List.mem_cons_self]
theorem acc_one {p : Pr} (h : (chk p).2 = 0) {e : Ex} {r : Bool} (hm : V.ex e r ∈ walk p) (ha : acc e.op = true) : ∃ k, e.args = [k] := by
  obtain ⟨hw, ho⟩ := ok_walk h
  rw [hw] at hm
  obtain ⟨e0, h1, h2, -⟩ := ex_rootB p.body 1 e r hm
  obtain ⟨d, hd⟩ := vE_sub e0 true 1 e r (A.preB_root p.body 1 ho e0 h1).1 h2
  have hn := node_of hd
  obtain ⟨o, n, s, l⟩ := e
  have ho3 : o = 22 ∨ o = 23 ∨ o = 24 := by
    have : acc o = true := ha
    unfold acc at this
    simp only [Bool.or_eq_true, decide_eq_true_eq] at this
    rcases this with (h | h) | h
    · exact Or.inl h
    · exact Or.inr (Or.inl h)
    · exact Or.inr (Or.inr h)
  have har : A.arity o = 1 := by rcases ho3 with rfl | rfl | rfl <;> rfl
  unfold A.nodeE at hn
  split at hn
  · cases hn
  · split at hn
    · cases hn
    · split at hn
      · cases hn
      · rename_i h3
        have h4 : ¬ ((l.length : Int) ≠ A.arity o) := fun z => h3 (Or.inr (Or.inr z))
        rw [har] at h4
        show ∃ k, l = [k]
        exact List.length_eq_one_iff.1 (by omega)
theorem keys_is {p : Pr} (h : (chk p).2 = 0) : keysT p = kB (mem (tnt p.body)) p.body := by
  obtain ⟨hw, -⟩ := ok_walk h
  unfold keysT
  rw [if_neg (fun z => z h), ← kB_any p.body 1, ← hw]
  refine any_congr fun v hv => ?_
  cases v with
  | st s d => rfl
  | ex e r =>
    rw [keyV, kv]
    cases ha : acc e.op
    · rfl
    · obtain ⟨k, hk⟩ := acc_one h hv ha
      rw [hk]
      show (true && tE _ k) = (true && tEs _ [k])
      rw [tEs, tEs, Bool.or_false]
mutual
theorem kS_kn {N : List ByteArray} {T T' : ByteArray → Bool} (hT : ∀ x ∈ N, T x = T' x) : ∀ (s : St) (d : Nat), (∀ t k, V.st t k ∈ preS s d → Fine N t k) → kS T s = kS T' s
  | .mk o nm mx a b bd el, d, hf => by
    rw [preS] at hf
    have f0 := hf _ _ List.mem_cons_self
    rw [kS, kS, tE_kn hT a f0.a, rE_kn hT a f0.a, rE_kn hT b f0.b, kB_kn hT bd (d + 1) (fun t k hm => hf t k (by simp [hm])), kB_kn hT el (d + 1) (fun t k hm => hf t k (by simp [hm]))]
theorem kB_kn {N : List ByteArray} {T T' : ByteArray → Bool} (hT : ∀ x ∈ N, T x = T' x) : ∀ (l : List St) (d : Nat), (∀ t k, V.st t k ∈ preB l d → Fine N t k) → kB T l = kB T' l
  | [], _, _ => by rw [kB, kB]
  | s :: r, d, hf => by
    rw [preB] at hf
    rw [kB, kB, kS_kn hT s d (fun t k hm => hf t k (List.mem_append.2 (Or.inl hm))), kB_kn hT r d (fun t k hm => hf t k (List.mem_append.2 (Or.inr hm)))]
end
theorem Fin.keys {p : Pr} {g : ByteArray → Bool} (h : (chk p).2 = 0) (f : Fin p g) : keysT p = kB (nt g) p.body := by
  rw [keys_is h]
  exact (kB_kn (f.same h) p.body 1 (fine_each h)).symm
theorem good_b5 {s : St} {d : Nat} (h : A.Good s d) (h3 : s.op ≠ 3) (h6 : s.op ≠ 6) : absent s.b = true := by
  have h1 := h.form
  unfold A.badS at h1
  simp only [Bool.or_eq_false_iff, Bool.and_eq_false_iff] at h1
  obtain ⟨⟨⟨⟨⟨⟨-, -⟩, -⟩, -⟩, h3'⟩, -⟩, -⟩ := h1
  rcases h3' with h3' | h3'
  · exact absurd h3' (by simp [A.uB, h3, h6])
  · simpa using h3'
mutual
theorem bS_any {N : List ByteArray} {T T' : ByteArray → Bool} (hT : ∀ x ∈ N, T x = T' x) : ∀ (s : St) (d : Nat), (∀ t k, V.st t k ∈ preS s d → Fine N t k) → (preS s d).any (brV T') = bS T s
  | .mk o nm mx a b bd el, d, hf => by
    rw [preS] at hf
    have f0 := hf _ _ List.mem_cons_self
    have hR : ∀ e : Ex, (preR e).any (brV T') = false := fun e => by
      refine List.any_eq_false.2 fun v hv => ?_
      obtain ⟨x, q, rfl⟩ := Y.preR_ex e v hv
      simp [brV]
    rw [preS, List.any_cons, List.any_append, List.any_append, List.any_append, hR, hR, bB_any hT bd (d + 1) (fun t k hm => hf t k (by simp [hm])), bB_any hT el (d + 1) (fun t k hm => hf t k (by simp [hm])), bS]
    have ea : tE T a = tE T' a := tE_kn hT a f0.a
    have eb : tE T b = tE T' b := tE_kn hT b f0.b
    show ((((decide (o = 5) || decide (o = 6)) && tE T' a) || (decide (o = 6) && tE T' b)) || _) = _
    rw [ea, eb]
    by_cases h6 : o = 6
    · rw [decide_eq_true h6]; simp [Bool.or_assoc]
    · rw [decide_eq_false h6]
      by_cases h5 : o = 5
      · have hb : absent b = true := good_b5 f0.good (show o ≠ 3 by omega) h6
        rw [tE_absent b hb]; simp [Bool.or_assoc]
      · rw [decide_eq_false h5]; simp
theorem bB_any {N : List ByteArray} {T T' : ByteArray → Bool} (hT : ∀ x ∈ N, T x = T' x) : ∀ (l : List St) (d : Nat), (∀ t k, V.st t k ∈ preB l d → Fine N t k) → (preB l d).any (brV T') = bB T l
  | [], _, _ => by rw [preB, bB]; rfl
  | s :: r, d, hf => by
    rw [preB] at hf
    rw [preB, List.any_append, bB, bS_any hT s d (fun t k hm => hf t k (List.mem_append.2 (Or.inl hm))), bB_any hT r d (fun t k hm => hf t k (List.mem_append.2 (Or.inr hm)))]
end
theorem Fin.ctrl {p : Pr} {g : ByteArray → Bool} (h : (chk p).2 = 0) (f : Fin p g) : ctrlT p = bB (nt g) p.body := by
  obtain ⟨hw, -⟩ := ok_walk h
  unfold ctrlT
  rw [if_neg (fun z => z h), hw]
  exact bB_any (f.same h) p.body 1 (fine_each h)
end Go.Proofs.YtnelpgeiioflmaaGreatDoor.F
namespace Go.Proofs.YtnelpgeiioflmaaGreatDoor.F
open Go.RowKit Go.WideMaps Go.ChangeMaps
open A (Ex St Pm Pr V)
open Y (MB Only key_s key_mk zero_b lit_ne k_is only_of)

def MU (w : World) (b N n : Nat) (g : ByteArray → Bool) : Prop := ∃ D : DataW Unit, w.ownsMap Tryz.prog 9 (plainElem Tryz.prog 4) b N D ∧
  (∀ x : ByteArray, D.atKey (.string x.data.toList) (.lit (.bool false)) = .lit (.bool (g x))) ∧ Maps.size D = n
section
variable {w w' w2 : World} {b N n : Nat} {g : ByteArray → Bool}
theorem MU.mb (h : MU w b N n g) : MB w b N g := by obtain ⟨D, h1, h2, -⟩ := h; exact ⟨D, h1, h2⟩
theorem MU.of (h : MB w b N g) : ∃ n, MU w b N n g := by obtain ⟨D, h1, h2⟩ := h; exact ⟨_, D, h1, h2, rfl⟩
theorem MU.lt (h : MU w b N n g) : b < w.heap.size := h.mb.lt
theorem MU.moved (h : MU w b N n g) (hb : w'.heap[b]? = w.heap[b]?) : MU w' b N n g := by
  obtain ⟨D, ⟨es, clock, h1, r⟩, h2⟩ := h
  exact ⟨D, ⟨es, clock, hb.trans h1, r⟩, h2⟩
theorem MU.below (h : MU w b N n g) (hb : Below w.heap.size w w') : MU w' b N n g := h.moved (hb.block b h.lt)
theorem MU.look (h : MU w b N n g) {x : ByteArray} (hx : x.size ≤ maxLen) : (Instr.lookup 55 (.map (some b)) (.string x) false).run Tryz.prog w = .ok (.bool (g x)) w :=
  h.mb.look hx 55 Tryz.underlying55
theorem MU.len (h : MU w b N n g) (ty : TypeId) : (Builtin.len_ #[55] ty #[.map (some b)]).run Tryz.prog w = .ok (.int .i64 n) w := by
  obtain ⟨D, h1, -, h3⟩ := h
  rw [h1.len Tryz.underlying55 ty, h3]
theorem rep_delU {D : DataW Unit} {g : ByteArray → Bool} (r : ∀ x : ByteArray, D.atKey (.string x.data.toList) (.lit (.bool false)) = .lit (.bool (g x))) (y : ByteArray) :
    ∀ x : ByteArray, (D.del (.string y.data.toList)).atKey (.string x.data.toList) (.lit (.bool false)) = .lit (.bool (dl g true y x)) := fun x => by
  unfold dl
  rw [if_pos rfl]
  by_cases h : y = x
  · subst h
    rw [Maps.atKey_del_same, decide_eq_true rfl]; rfl
  · rw [Maps.atKey_del_other (lit_ne (Ne.symm h)), r x, decide_eq_false h]; rfl
def Del (w' : World) (b N n : Nat) (g : ByteArray → Bool) (y : ByteArray) : Prop := ∃ n', MU w' b N n' (dl g true y) ∧ n' ≤ n ∧ (n' = n → dl g true y = g)
theorem del_of {D : DataW Unit} (h : w.ownsMap Tryz.prog 9 (plainElem Tryz.prog 4) b N D) (r : ∀ x : ByteArray, D.atKey (.string x.data.toList) (.lit (.bool false)) = .lit (.bool (g x))) (hn : Maps.size D = n) (y : ByteArray)
    (h' : w'.ownsMap Tryz.prog 9 (plainElem Tryz.prog 4) b N (D.del (.string y.data.toList))) : Del w' b N n g y := by
  have hs := Maps.size_del (k := .string y.data.toList) (h.tidy key_s)
  refine ⟨_, ⟨_, h', rep_delU r y, rfl⟩, by omega, fun e => ?_⟩
  cases hh : Maps.has D (.string y.data.toList)
  · have h0 := r y
    rw [Maps.atKey_of_not_has hh] at h0
    have h1 : g y = false := by simpa using h0.symm
    funext x
    unfold dl
    rw [if_pos rfl]
    by_cases hx : y = x
    · subst hx
      rw [decide_eq_true rfl, h1]; rfl
    · rw [decide_eq_false hx]; rfl
  · rw [hh, if_pos rfl] at hs
    omega
theorem MU.del_run (h : MU w b N n g) {y : ByteArray} (hy : y.size ≤ maxLen) (ty : TypeId) :
    ∃ w', (Builtin.delete_ #[55, 9] ty #[.map (some b), .string y]).run Tryz.prog w = .ok (.tuple #[]) w' ∧ Del w' b N n g y ∧ Only b w w' := by
  obtain ⟨D, hown, r, hn⟩ := h
  obtain ⟨w', h1, h2, h3⟩ := hown.drop key_s Tryz.underlying55 (key_mk hy) ty
  exact ⟨w', h1, del_of hown r hn y h2, only_of h3⟩
end
section
variable {w : World} {ops : Array Oper} {rest : List Oper} {o : Oper} {a : Act} {Q : Exit → Act → World → Prop}
end
structure Kb (b : Nat) (w w' : World) : Prop where
  os : w'.os = w.os
  tape : w'.tape = w.tape
  output : w'.output = w.output
  size : w.heap.size ≤ w'.heap.size
  block : ∀ j, j < w.heap.size → j ≠ b → w'.heap[j]? = w.heap[j]?
section
variable {b B : Nat} {w w' w2 : World}
theorem Kb.refl (b : Nat) (w : World) : Kb b w w := ⟨rfl, rfl, rfl, Nat.le_refl _, fun _ _ _ => rfl⟩
theorem Kb.trans (h : Kb b w w') (k : Kb b w' w2) : Kb b w w2 :=
  ⟨k.os.trans h.os, k.tape.trans h.tape, k.output.trans h.output, Nat.le_trans h.size k.size, fun j hj hb => (k.block j (Nat.lt_of_lt_of_le hj h.size) hb).trans (h.block j hj hb)⟩
theorem Kb.of (h : Below w.heap.size w w') : Kb b w w' := ⟨h.os, h.tape, h.output, h.size, fun j hj _ => h.block j hj⟩
theorem Kb.below (h : Kb b w w') (hB : B ≤ b) (hw : B ≤ w.heap.size) : Below B w w' := ⟨h.os, h.tape, h.output, h.size, fun k hk => h.block k (Nat.lt_of_lt_of_le hk hw) (by omega)⟩
theorem Kb.only (h : Only b w w') : Kb b w w' :=
  ⟨h.grown.os, h.grown.tape, h.grown.output, Nat.le_of_eq h.size.symm, fun j _ hj => h.block j hj⟩
theorem Kb.bx (h : Kb b w w') {s : Nat} {cs : Array Value} {t : TypeId} (hx : A.Bx w s cs t) (hs : s ≠ b) : A.Bx w' s cs t := (h.block s hx.lt hs).trans hx
end
end Go.Proofs.YtnelpgeiioflmaaGreatDoor.F
namespace Go.Proofs.YtnelpgeiioflmaaGreatDoor.F
open Go.RowKit
open L (Str isName prt size_len below_2 below_box ret_bool ret_int eql_eq bytes_eq)
open A (Ex St Pm Pr exV exO exV_mk Bx okE okEs StrsAt)
open Y (isIn isIn_iff isIn_no)

theorem isIn_drop {x : ByteArray} {l : List ByteArray} {k : Nat} (hk : k < l.length) : isIn x (l.drop k) = (decide (l[k] = x) || isIn x (l.drop (k + 1))) := by
  rw [List.drop_eq_getElem_cons hk]; unfold isIn; rw [List.any_cons]
set_option maxHeartbeats 4000000 in
set_option maxRecDepth 100000 in
theorem rhas_any (l : List ByteArray) (a : Option Addr) (c : Nat) (x : ByteArray) (hl : l.length ≤ 1000000000000000) (w : World) (hK : StrsAt w a l) :
    Calls Tryz.prog 38 #[.slice a l.length c, .string x] w fun e' w' => e' = .returned (.bool (isIn x l)) ∧ w' = w := by
  have HK := Lib.hid hK
  obtain ⟨R, hR⟩ : ∃ R, isIn x l = R := ⟨_, rfl⟩
  rw [hR]
  have HR : Hid (isIn x (l.drop 0) = R) := hR
  obtain ⟨m, hm⟩ : ∃ m, l.length = m := ⟨_, rfl⟩
  have HL := Lib.hid hm
  rw [hm] at hl ⊢
  clear hm hR hK
  go_enter Tryz.func38, Tryz.ntmps38
  go_wp2_with fail
  go_loopw [5] (fun s5 wr => ∃ k : Nat, k ≤ m ∧ s5 = .int .i64 k ∧ Hid (isIn x (l.drop k) = R) ∧ wr = w) (fun s5 _ => m - (intOf s5).toNat)
  case atStart => exact ⟨0, Nat.zero_le _, rfl, HR, rfl⟩
  case round =>
    obtain ⟨k, hk, rfl, HX, rfl⟩ := hrel
    by_cases hlt : k < m
    · have hlx : k < l.length := by rw [HL.out]; exact hlt
      obtain ⟨b3, i3, rfl, hcc⟩ := HK.out.open hlx
      have f0 := hcc k hlx
      have hx := HX.out
      rw [isIn_drop hlx] at hx
      generalize l[k] = q at f0 hx
      have hb := A.bytes_dec q x
      clear hcc
      by_cases hn : q = x
      · rw [decide_eq_true hn] at hb hx
        have HV : Hid (true = R) := hx
        clear hn hx
        go_wp2_with fail
        go_ret
        exact ⟨ret_bool HV.out, rfl⟩
      · rw [decide_eq_false hn] at hb hx
        have HX2 : Hid (isIn x (l.drop (k + 1)) = R) := hx
        clear hn hx
        go_wp2_with fail
        go_roundw
        case rel => exact ⟨k + 1, by omega, by go_num, HX2, trivial⟩
        case measure => simp [intOf]; omega
    · have hx := HX.out
      rw [List.drop_of_length_le (by have := HL.out; omega)] at hx
      have HV : Hid (false = R) := hx
      clear hx
      go_wp2_with fail
      go_ret
      exact ⟨ret_bool HV.out, rfl⟩
set_option maxHeartbeats 4000000 in
theorem raccess_any (o : Int) (w : World) : Calls Tryz.prog 28 #[.int .i64 o] w fun e' w' => e' = .returned (.bool (acc o)) ∧ w' = w := by
  by_cases h1 : o = 22
  · subst h1
    go_enter Tryz.func28, Tryz.ntmps28
    go_wp2_with fail
    go_ret
    exact ⟨rfl, rfl⟩
  · have b1 : (o == 22) = false := beq_eq_false_iff_ne.2 h1
    by_cases h2 : o = 23
    · subst h2
      go_enter Tryz.func28, Tryz.ntmps28
      go_wp2_with fail
      go_ret
      exact ⟨rfl, rfl⟩
    · have b2 : (o == 23) = false := beq_eq_false_iff_ne.2 h2
      by_cases h3 : o = 24
      · subst h3
        go_enter Tryz.func28, Tryz.ntmps28
        go_wp2_with fail
        go_ret
        exact ⟨rfl, rfl⟩
      · have b3 : (o == 24) = false := beq_eq_false_iff_ne.2 h3
        have HV : Hid (false = acc o) := by show _ = _; unfold acc; rw [decide_eq_false h1, decide_eq_false h2, decide_eq_false h3]; rfl
        clear h1 h2 h3
        go_enter Tryz.func28, Tryz.ntmps28
        go_wp2_with fail
        go_ret
        exact ⟨ret_bool HV.out, rfl⟩
theorem tEs_drop {T : ByteArray → Bool} {l : List Ex} {k : Nat} (hk : k < l.length) : tEs T (l.drop k) = (tE T l[k] || tEs T (l.drop (k + 1))) := by
  rw [List.drop_eq_getElem_cons hk, tEs]
def QT (ns : List ByteArray) (e : Ex) : Prop := ∀ (a : Option Addr) (c : Nat) (la : Option Addr) (lc : Nat) (w : World), okE e → StrsAt w la ns → A.Kids w a e.args →
  Calls Tryz.prog 41 #[exV e a c, .slice la ns.length lc] w fun e' w' => e' = .returned (.bool (tE (mem ns) e)) ∧ Below w.heap.size w w'
set_option maxHeartbeats 8000000 in
set_option maxRecDepth 100000 in
theorem rtainted_any {ns : List ByteArray} (hns : ns.length ≤ 1000000000000000) : ∀ e, QT ns e := by
  refine A.Ex.ind (P := QT ns) ?_
  intro o n s l ih a c la lc w hok hS hK
  have hK' : A.Kids w a l := hK
  have hb := below_box w (exO (.mk o n s l) a c)
  have hbx := Bx.new w #[.int .i64 o, .int .i64 n, .string s, .slice a l.length c] 42
  have HB := Lib.hid hb
  have HX := Lib.hid hbx
  have HK := Lib.hid (hK'.below hb)
  have HS := Lib.hid (hS.below hb)
  have HH : Hid (∀ w', StrsAt w' la ns → Calls Tryz.prog 38 #[.slice la ns.length lc, .string s] w' fun e' w'' => e' = .returned (.bool (mem ns s)) ∧ w'' = w') := fun w' h => rhas_any ns la lc s hns w' h
  have HA := Lib.hid (fun w' => raccess_any o w')
  have hokl : ∀ x ∈ l, okE x := by
    rw [okE] at hok
    exact fun x hx => by
      obtain ⟨j, hj, rfl⟩ := List.getElem_of_mem hx
      exact A.okEs.get hok.2.2.2.2 j hj
  have hll : l.length ≤ 1000000000000000 := by rw [okE] at hok; exact hok.2.2.2.1
  have HIH : Hid (∀ (k : Nat) (h : k < l.length) a2 c2 w', StrsAt w' la ns → A.Kids w' a2 l[k].args → Calls Tryz.prog 41 #[exV l[k] a2 c2, .slice la ns.length lc] w' fun e' w'' => e' = .returned (.bool (tE (mem ns) l[k])) ∧ Below w'.heap.size w' w'') :=
    fun k h a2 c2 w' h1 h2 => ih k h a2 c2 la lc w' (hokl _ (List.getElem_mem h)) h1 h2
  rw [tE]
  simp only [exV_mk]
  simp only [A.exO_mk] at HX HB HK HS
  obtain ⟨g, hg⟩ : ∃ g, l.length = g := ⟨_, rfl⟩
  have HL := Lib.hid hg
  obtain ⟨mm, hmm⟩ : ∃ g, ns.length = g := ⟨_, rfl⟩
  simp only [hmm] at HH HIH ⊢
  rw [hg] at hll HX HB HK HS ⊢
  have HG : Hid (tEs (mem ns) (l.drop 0) = tEs (mem ns) l) := rfl
  obtain ⟨R, hR⟩ : ∃ R, tEs (mem ns) l = R := ⟨_, rfl⟩
  rw [hR] at HG ⊢
  clear hg hmm hR ih hok hS hK hK' hb hbx hokl
  generalize mem ns s = q at HH ⊢
  have x0 := HX.out.cell 0
  have x2 := HX.out.cell 2
  simp only [List.getElem?_toArray, List.getElem?_cons_zero, List.getElem?_cons_succ] at x0 x2
  generalize hac : acc o = ac at HA ⊢
  cases ac with
  | true =>
    clear hac
    go_enter Tryz.func41, Tryz.ntmps41
    go_wp2_with fail
    refine (HA.out _).mono ?_; rintro e w2 ⟨rfl, rfl⟩
    go_wp2_with fail
    go_ret
    exact ⟨rfl, HB.out⟩
  | false =>
  clear hac
  by_cases h3 : o = 3
  · subst h3
    go_enter Tryz.func41, Tryz.ntmps41
    go_wp2_with fail
    refine (HA.out _).mono ?_; rintro e w2 ⟨rfl, rfl⟩
    go_wp2_with fail
    refine (HH.out _ HS.out).mono ?_; rintro e w2 ⟨rfl, rfl⟩
    cases q with
    | true =>
      go_wp2_with fail
      go_ret
      exact ⟨ret_bool (by simp), HB.out⟩
    | false =>
      go_wp2_with fail
      go_loopw [5] (fun s5 wr => ∃ k : Nat, k ≤ g ∧ s5 = .int .i64 k ∧ Hid (tEs (mem ns) (l.drop k) = R) ∧ Hid (Below (w.alloc (.cells #[.int .i64 3, .int .i64 n, .string s, .slice a g c] 42)).heap.size (w.alloc (.cells #[.int .i64 3, .int .i64 n, .string s, .slice a g c] 42)) wr)) (fun s5 _ => g - (intOf s5).toNat)
      case atStart => exact ⟨0, Nat.zero_le _, rfl, HG, Below.refl _ _⟩
      case round =>
        obtain ⟨k, hk, rfl, HG2, HBr⟩ := hrel
        have z0 := (HX.out.below HBr.out).cell 0
        have z1 := (HX.out.below HBr.out).cell 1
        have z2 := (HX.out.below HBr.out).cell 2
        have z3 := (HX.out.below HBr.out).cell 3
        have HBB := Lib.hid (below_2 HB.out HBr.out)
        by_cases hlt : k < g
        · have hlx : k < l.length := by rw [HL.out]; exact hlt
          obtain ⟨b2, i2, rfl, hat⟩ := (HK.out.below HBr.out).open hlx
          obtain ⟨d0, d1, d2, a2, cc, d3, hk2⟩ := hat.open
          have HCC := Lib.hid (HIH.out k hlx a2 cc _ (HS.out.below HBr.out) hk2)
          have hG := HG2.out
          rw [tEs_drop hlx] at hG
          clear hat hk2
          unfold exV at HCC
          generalize tE (mem ns) l[k] = y at HCC hG
          generalize l[k].args.length = m2 at d3 HCC
          generalize l[k].op = o2 at d0 HCC
          generalize l[k].n = n2 at d1 HCC
          generalize l[k].s = s2 at d2 HCC
          cases y with
          | true =>
            have HV : Hid (true = R) := hG
            clear hG
            go_wp2_with fail
            refine HCC.out.mono ?_; rintro e w2 ⟨rfl, hb2⟩
            have HB2 := Lib.hid (below_2 HBB.out hb2)
            clear hb2 z0 z1 z2 z3
            go_wp2_with fail
            go_ret
            exact ⟨ret_bool (by rw [← HV.out]; simp), HB2.out⟩
          | false =>
            have HG3 : Hid (tEs (mem ns) (l.drop (k + 1)) = R) := hG
            clear hG
            go_wp2_with fail
            refine HCC.out.mono ?_; rintro e w2 ⟨rfl, hb2⟩
            have HB2 := Lib.hid (below_2 HBr.out hb2)
            clear hb2 z0 z1 z2 z3
            go_wp2_with fail
            go_roundw
            case rel => exact ⟨k + 1, by omega, by go_num, HG3, HB2.out⟩
            case measure => simp [intOf]; omega
        · have hG := HG2.out
          rw [List.drop_of_length_le (by have := HL.out; omega), tEs] at hG
          have HV : Hid (false = R) := hG
          clear hG
          go_wp2_with fail
          go_ret
          exact ⟨ret_bool (by rw [← HV.out]; simp_all), HBB.out⟩
  · have b3 : (o == 3) = false := beq_eq_false_iff_ne.2 h3
    have b4 : decide (o = 3) = false := decide_eq_false h3
    rw [b4]
    clear h3 b4
    go_enter Tryz.func41, Tryz.ntmps41
    go_wp2_with fail
    refine (HA.out _).mono ?_; rintro e w2 ⟨rfl, rfl⟩
    go_wp2_with fail
    go_loopw [5] (fun s5 wr => ∃ k : Nat, k ≤ g ∧ s5 = .int .i64 k ∧ Hid (tEs (mem ns) (l.drop k) = R) ∧ Hid (Below (w.alloc (.cells #[.int .i64 o, .int .i64 n, .string s, .slice a g c] 42)).heap.size (w.alloc (.cells #[.int .i64 o, .int .i64 n, .string s, .slice a g c] 42)) wr)) (fun s5 _ => g - (intOf s5).toNat)
    case atStart => exact ⟨0, Nat.zero_le _, rfl, HG, Below.refl _ _⟩
    case round =>
      obtain ⟨k, hk, rfl, HG2, HBr⟩ := hrel
      have z0 := (HX.out.below HBr.out).cell 0
      have z1 := (HX.out.below HBr.out).cell 1
      have z2 := (HX.out.below HBr.out).cell 2
      have z3 := (HX.out.below HBr.out).cell 3
      have HBB := Lib.hid (below_2 HB.out HBr.out)
      by_cases hlt : k < g
      · have hlx : k < l.length := by rw [HL.out]; exact hlt
        obtain ⟨b2, i2, rfl, hat⟩ := (HK.out.below HBr.out).open hlx
        obtain ⟨d0, d1, d2, a2, cc, d3, hk2⟩ := hat.open
        have HCC := Lib.hid (HIH.out k hlx a2 cc _ (HS.out.below HBr.out) hk2)
        have hG := HG2.out
        rw [tEs_drop hlx] at hG
        clear hat hk2
        unfold exV at HCC
        generalize tE (mem ns) l[k] = y at HCC hG
        generalize l[k].args.length = m2 at d3 HCC
        generalize l[k].op = o2 at d0 HCC
        generalize l[k].n = n2 at d1 HCC
        generalize l[k].s = s2 at d2 HCC
        cases y with
        | true =>
          have HV : Hid (true = R) := hG
          clear hG
          go_wp2_with fail
          refine HCC.out.mono ?_; rintro e w2 ⟨rfl, hb2⟩
          have HB2 := Lib.hid (below_2 HBB.out hb2)
          clear hb2 z0 z1 z2 z3
          go_wp2_with fail
          go_ret
          exact ⟨ret_bool (by rw [← HV.out]; simp), HB2.out⟩
        | false =>
          have HG3 : Hid (tEs (mem ns) (l.drop (k + 1)) = R) := hG
          clear hG
          go_wp2_with fail
          refine HCC.out.mono ?_; rintro e w2 ⟨rfl, hb2⟩
          have HB2 := Lib.hid (below_2 HBr.out hb2)
          clear hb2 z0 z1 z2 z3
          go_wp2_with fail
          go_roundw
          case rel => exact ⟨k + 1, by omega, by go_num, HG3, HB2.out⟩
          case measure => simp [intOf]; omega
      · have hG := HG2.out
        rw [List.drop_of_length_le (by have := HL.out; omega), tEs] at hG
        have HV : Hid (false = R) := hG
        clear hG
        go_wp2_with fail
        go_ret
        exact ⟨ret_bool (by rw [← HV.out]; simp_all), HBB.out⟩
end Go.Proofs.YtnelpgeiioflmaaGreatDoor.F
namespace Go.Proofs.YtnelpgeiioflmaaGreatDoor.F
open Go.RowKit Go.WideMaps
open L (Str isName prt size_len below_2 below_box ret_bool ret_int eql_eq bytes_eq)
open A (Ex St Pm Pr exV exO exV_mk Bx okE okEs)

def idxX {α : Type} (f : α → Bool) : List α → Nat → Int
  | [], _ => -1
  | q :: r, k => if f q = true then (k : Int) else idxX f r (k + 1)
theorem idxX_any {α : Type} (f : α → Bool) : ∀ (l : List α) (k : Nat), decide (0 ≤ idxX f l k) = l.any f
  | [], k => rfl
  | q :: r, k => by
    rw [idxX, List.any_cons]
    cases h : f q
    · rw [if_neg (by decide), Bool.false_or]; exact idxX_any f r (k + 1)
    · rw [if_pos rfl, Bool.true_or]; exact decide_eq_true (by omega)
theorem tEs_is (T : ByteArray → Bool) : ∀ l : List Ex, tEs T l = l.any (tE T)
  | [] => by rw [tEs]; rfl
  | e :: r => by rw [tEs, List.any_cons, tEs_is T r]
theorem rEs_is (T : ByteArray → Bool) : ∀ l : List Ex, rEs T l = l.any (rE T)
  | [] => by rw [rEs]; rfl
  | e :: r => by rw [rEs, List.any_cons, rEs_is T r]
set_option maxHeartbeats 4000000 in
theorem oreading_any (o : Int) (w : World) : Calls Tryz.prog 79 #[.int .i64 o] w fun e' w' => e' = .returned (.bool (acc o)) ∧ w' = w := by
  by_cases h1 : o = 22
  · subst h1
    go_enter Tryz.func79, Tryz.ntmps79
    go_wp2_with fail
    go_ret
    exact ⟨rfl, rfl⟩
  · have b1 : (o == 22) = false := beq_eq_false_iff_ne.2 h1
    by_cases h2 : o = 23
    · subst h2
      go_enter Tryz.func79, Tryz.ntmps79
      go_wp2_with fail
      go_ret
      exact ⟨rfl, rfl⟩
    · have b2 : (o == 23) = false := beq_eq_false_iff_ne.2 h2
      by_cases h3 : o = 24
      · subst h3
        go_enter Tryz.func79, Tryz.ntmps79
        go_wp2_with fail
        go_ret
        exact ⟨rfl, rfl⟩
      · have b3 : (o == 24) = false := beq_eq_false_iff_ne.2 h3
        have HV : Hid (false = acc o) := by show _ = _; unfold acc; rw [decide_eq_false h1, decide_eq_false h2, decide_eq_false h3]; rfl
        clear h1 h2 h3
        go_enter Tryz.func79, Tryz.ntmps79
        go_wp2_with fail
        go_ret
        exact ⟨ret_bool HV.out, rfl⟩
set_option maxHeartbeats 4000000 in
set_option maxRecDepth 100000 in
theorem oindexT_any (f : Ex → Bool) (b : Nat) (l : List Ex) (a : Option Addr) (c : Nat) (hl : l.length ≤ 1000000000000000) (w : World) (hK : A.Kids w a l)
    (hF : ∀ k (h : k < l.length) a2 c2 w', Below w.heap.size w w' → A.Kids w' a2 l[k].args → Calls Tryz.prog 62 #[.map (some b), exV l[k] a2 c2] w' fun e' w'' => e' = .returned (.bool (f l[k])) ∧ Below w'.heap.size w' w'') :
    Calls Tryz.prog 95 #[.slice a l.length c, .func (Fn.func 62) #[.map (some b)] #[]] w fun e' w' => e' = .returned (.int .i64 (idxX f l 0)) ∧ Below w.heap.size w w' := by
  have HK := Lib.hid hK
  have HF := Lib.hid hF
  obtain ⟨R, hR⟩ : ∃ R, idxX f l 0 = R := ⟨_, rfl⟩
  rw [hR]
  have HR : Hid (idxX f (l.drop 0) 0 = R) := hR
  obtain ⟨m, hm⟩ : ∃ m, l.length = m := ⟨_, rfl⟩
  have HL := Lib.hid hm
  rw [hm] at hl ⊢
  clear hm hR hK hF
  go_enter Tryz.func95, Tryz.ntmps95
  go_wp2_with fail
  go_loopw [8] (fun s8 wr => ∃ k : Nat, k ≤ m ∧ s8 = .int .i64 k ∧ Hid (idxX f (l.drop k) k = R) ∧ Hid (Below w.heap.size w wr)) (fun s8 _ => m - (intOf s8).toNat)
  case atStart => exact ⟨0, Nat.zero_le _, rfl, HR, Below.refl _ _⟩
  case round =>
    obtain ⟨k, hk, rfl, HX2, HB⟩ := hrel
    by_cases hlt : k < m
    · have hlx : k < l.length := by rw [HL.out]; exact hlt
      have hx := HX2.out
      rw [List.drop_eq_getElem_cons hlx, idxX] at hx
      obtain ⟨b2, i2, rfl, hat⟩ := (HK.out.below HB.out).open hlx
      obtain ⟨d0, d1, d2, a2, cc, d3, hk2⟩ := hat.open
      have HC := Lib.hid (HF.out k hlx a2 cc wr HB.out hk2)
      clear hat hk2
      unfold exV at HC
      generalize f l[k] = y at HC hx
      generalize l[k].args.length = m2 at d3 HC
      generalize l[k].op = o2 at d0 HC
      generalize l[k].n = n2 at d1 HC
      generalize l[k].s = s2 at d2 HC
      cases y
      · rw [if_neg (by decide)] at hx
        have HN := Lib.hid hx
        clear hx
        go_wp2_with fail
        refine HC.out.mono ?_; rintro e w2 ⟨rfl, hb2⟩
        have HB2 := Lib.hid (below_2 HB.out hb2)
        clear hb2
        go_wp2_with fail
        go_roundw
        case rel => exact ⟨k + 1, by omega, by go_num, HN, HB2⟩
        case measure => simp [intOf]; omega
      · rw [if_pos rfl] at hx
        have HV := Lib.hid hx
        clear hx
        go_wp2_with fail
        refine HC.out.mono ?_; rintro e w2 ⟨rfl, hb2⟩
        have HB2 := Lib.hid (below_2 HB.out hb2)
        clear hb2
        go_wp2_with fail
        go_ret
        exact ⟨ret_int HV.out, HB2.out⟩
    · have HV : Hid (-1 = R) := by
        show _ = _
        rw [← HX2.out, List.drop_of_length_le (by rw [HL.out]; omega), idxX]
      go_wp2_with fail
      go_ret
      exact ⟨ret_int HV.out, HB.out⟩
set_option maxHeartbeats 2000000 in
set_option maxRecDepth 100000 in
theorem ocontainsT_any (f : Ex → Bool) (b : Nat) (l : List Ex) (a : Option Addr) (c : Nat) (hl : l.length ≤ 1000000000000000) (w : World) (hK : A.Kids w a l)
    (hF : ∀ k (h : k < l.length) a2 c2 w', Below w.heap.size w w' → A.Kids w' a2 l[k].args → Calls Tryz.prog 62 #[.map (some b), exV l[k] a2 c2] w' fun e' w'' => e' = .returned (.bool (f l[k])) ∧ Below w'.heap.size w' w'') :
    Calls Tryz.prog 80 #[.slice a l.length c, .func (Fn.func 62) #[.map (some b)] #[]] w fun e' w' => e' = .returned (.bool (l.any f)) ∧ Below w.heap.size w w' := by
  have HC := Lib.hid (oindexT_any f b l a c hl w hK hF)
  have hv := idxX_any f l 0
  generalize idxX f l 0 = r at HC hv
  generalize l.any f = y at hv ⊢
  generalize l.length = m at HC ⊢
  clear hl hK hF
  go_enter Tryz.func80, Tryz.ntmps80
  go_wp2_with fail
  refine HC.out.mono ?_; rintro e w2 ⟨rfl, hb2⟩
  have HB2 := Lib.hid hb2
  clear hb2
  go_wp2_with fail
  go_ret
  exact ⟨rfl, HB2.out⟩
def QI (b N n : Nat) (g : ByteArray → Bool) (e : Ex) : Prop := ∀ (a : Option Addr) (c : Nat) (w : World), okE e → MU w b N n g → A.Kids w a e.args →
  Calls Tryz.prog 62 #[.map (some b), exV e a c] w fun e' w' => e' = .returned (.bool (tE (nt g) e)) ∧ Below w.heap.size w w'
set_option maxHeartbeats 8000000 in
set_option maxRecDepth 100000 in
theorem otainted_any {b N n : Nat} {g : ByteArray → Bool} : ∀ e, QI b N n g e := by
  refine A.Ex.ind (P := QI b N n g) ?_
  intro o n s l ih a c w hok hM hK
  have hK' : A.Kids w a l := hK
  have hb := below_box w (exO (.mk o n s l) a c)
  have hbx := Bx.new w #[.int .i64 o, .int .i64 n, .string s, .slice a l.length c] 42
  have hokl : ∀ x ∈ l, okE x := by
    rw [okE] at hok
    exact fun x hx => by
      obtain ⟨j, hj, rfl⟩ := List.getElem_of_mem hx
      exact A.okEs.get hok.2.2.2.2 j hj
  have hll : l.length ≤ 1000000000000000 := by rw [okE] at hok; exact hok.2.2.2.1
  have hss : s.size ≤ maxLen := by rw [okE] at hok; have := hok.2.2.1; unfold maxLen; omega
  have HCN := Lib.hid (ocontainsT_any (tE (nt g)) b l a c hll _ (hK'.below hb) (fun k h a2 c2 w' hb2 hk2 => ih k h a2 c2 w' (hokl _ (List.getElem_mem h)) ((hM.below hb).below hb2) hk2))
  have hlook := (hM.below hb).look hss
  have HA := Lib.hid (fun w' => oreading_any o w')
  have HB := Lib.hid hb
  have HX := Lib.hid hbx
  rw [tE, tEs_is]
  simp only [exV_mk]
  simp only [A.exO_mk] at HX HB HCN hlook
  clear ih hok hM hK hK' hb hbx hokl hss
  generalize l.any (tE (nt g)) = R at HCN ⊢
  generalize l.length = m at hll HX HB HCN hlook ⊢
  have hnt : nt g s = !g s := rfl
  rw [hnt]
  clear hnt
  generalize g s = q at hlook ⊢
  have x0 := HX.out.cell 0
  have x2 := HX.out.cell 2
  have x3 := HX.out.cell 3
  simp only [List.getElem?_toArray, List.getElem?_cons_zero, List.getElem?_cons_succ] at x0 x2 x3
  generalize hac : acc o = ac at HA ⊢
  cases ac with
  | true =>
    clear hac
    go_enter Tryz.func62, Tryz.ntmps62
    go_wp2_with fail
    refine (HA.out _).mono ?_; rintro e w2 ⟨rfl, rfl⟩
    go_wp2_with fail
    go_ret
    exact ⟨rfl, HB.out⟩
  | false =>
  clear hac
  by_cases h3 : o = 3
  · subst h3
    cases q with
    | false =>
      go_enter Tryz.func62, Tryz.ntmps62
      go_wp2_with fail
      refine (HA.out _).mono ?_; rintro e w2 ⟨rfl, rfl⟩
      go_wp2_with fail
      go_ret
      exact ⟨ret_bool (by simp), HB.out⟩
    | true =>
      go_enter Tryz.func62, Tryz.ntmps62
      go_wp2_with fail
      refine (HA.out _).mono ?_; rintro e w2 ⟨rfl, rfl⟩
      go_wp2_with fail
      refine HCN.out.mono ?_; rintro e w3 ⟨rfl, hb3⟩
      have HB3 := Lib.hid (below_2 HB.out hb3)
      clear hb3
      go_wp2_with fail
      go_ret
      exact ⟨ret_bool (by simp), HB3.out⟩
  · have b3 : (o == 3) = false := beq_eq_false_iff_ne.2 h3
    have b4 : decide (o = 3) = false := decide_eq_false h3
    rw [b4]
    clear h3 b4 hlook
    go_enter Tryz.func62, Tryz.ntmps62
    go_wp2_with fail
    refine (HA.out _).mono ?_; rintro e w2 ⟨rfl, rfl⟩
    go_wp2_with fail
    refine HCN.out.mono ?_; rintro e w3 ⟨rfl, hb3⟩
    have HB3 := Lib.hid (below_2 HB.out hb3)
    clear hb3
    go_wp2_with fail
    go_ret
    exact ⟨ret_bool (by simp), HB3.out⟩
set_option maxHeartbeats 4000000 in
set_option maxRecDepth 100000 in
theorem oindexR_any (f : Ex → Bool) (b : Nat) (l : List Ex) (a : Option Addr) (c : Nat) (hl : l.length ≤ 1000000000000000) (w : World) (hK : A.Kids w a l)
    (hF : ∀ k (h : k < l.length) a2 c2 w', Below w.heap.size w w' → A.Kids w' a2 l[k].args → Calls Tryz.prog 63 #[.map (some b), exV l[k] a2 c2] w' fun e' w'' => e' = .returned (.bool (f l[k])) ∧ Below w'.heap.size w' w'') :
    Calls Tryz.prog 95 #[.slice a l.length c, .func (Fn.func 63) #[.map (some b)] #[]] w fun e' w' => e' = .returned (.int .i64 (idxX f l 0)) ∧ Below w.heap.size w w' := by
  have HK := Lib.hid hK
  have HF := Lib.hid hF
  obtain ⟨R, hR⟩ : ∃ R, idxX f l 0 = R := ⟨_, rfl⟩
  rw [hR]
  have HR : Hid (idxX f (l.drop 0) 0 = R) := hR
  obtain ⟨m, hm⟩ : ∃ m, l.length = m := ⟨_, rfl⟩
  have HL := Lib.hid hm
  rw [hm] at hl ⊢
  clear hm hR hK hF
  go_enter Tryz.func95, Tryz.ntmps95
  go_wp2_with fail
  go_loopw [8] (fun s8 wr => ∃ k : Nat, k ≤ m ∧ s8 = .int .i64 k ∧ Hid (idxX f (l.drop k) k = R) ∧ Hid (Below w.heap.size w wr)) (fun s8 _ => m - (intOf s8).toNat)
  case atStart => exact ⟨0, Nat.zero_le _, rfl, HR, Below.refl _ _⟩
  case round =>
    obtain ⟨k, hk, rfl, HX2, HB⟩ := hrel
    by_cases hlt : k < m
    · have hlx : k < l.length := by rw [HL.out]; exact hlt
      have hx := HX2.out
      rw [List.drop_eq_getElem_cons hlx, idxX] at hx
      obtain ⟨b2, i2, rfl, hat⟩ := (HK.out.below HB.out).open hlx
      obtain ⟨d0, d1, d2, a2, cc, d3, hk2⟩ := hat.open
      have HC := Lib.hid (HF.out k hlx a2 cc wr HB.out hk2)
      clear hat hk2
      unfold exV at HC
      generalize f l[k] = y at HC hx
      generalize l[k].args.length = m2 at d3 HC
      generalize l[k].op = o2 at d0 HC
      generalize l[k].n = n2 at d1 HC
      generalize l[k].s = s2 at d2 HC
      cases y
      · rw [if_neg (by decide)] at hx
        have HN := Lib.hid hx
        clear hx
        go_wp2_with fail
        refine HC.out.mono ?_; rintro e w2 ⟨rfl, hb2⟩
        have HB2 := Lib.hid (below_2 HB.out hb2)
        clear hb2
        go_wp2_with fail
        go_roundw
        case rel => exact ⟨k + 1, by omega, by go_num, HN, HB2⟩
        case measure => simp [intOf]; omega
      · rw [if_pos rfl] at hx
        have HV := Lib.hid hx
        clear hx
        go_wp2_with fail
        refine HC.out.mono ?_; rintro e w2 ⟨rfl, hb2⟩
        have HB2 := Lib.hid (below_2 HB.out hb2)
        clear hb2
        go_wp2_with fail
        go_ret
        exact ⟨ret_int HV.out, HB2.out⟩
    · have HV : Hid (-1 = R) := by
        show _ = _
        rw [← HX2.out, List.drop_of_length_le (by rw [HL.out]; omega), idxX]
      go_wp2_with fail
      go_ret
      exact ⟨ret_int HV.out, HB.out⟩
set_option maxHeartbeats 2000000 in
set_option maxRecDepth 100000 in
theorem ocontainsR_any (f : Ex → Bool) (b : Nat) (l : List Ex) (a : Option Addr) (c : Nat) (hl : l.length ≤ 1000000000000000) (w : World) (hK : A.Kids w a l)
    (hF : ∀ k (h : k < l.length) a2 c2 w', Below w.heap.size w w' → A.Kids w' a2 l[k].args → Calls Tryz.prog 63 #[.map (some b), exV l[k] a2 c2] w' fun e' w'' => e' = .returned (.bool (f l[k])) ∧ Below w'.heap.size w' w'') :
    Calls Tryz.prog 80 #[.slice a l.length c, .func (Fn.func 63) #[.map (some b)] #[]] w fun e' w' => e' = .returned (.bool (l.any f)) ∧ Below w.heap.size w w' := by
  have HC := Lib.hid (oindexR_any f b l a c hl w hK hF)
  have hv := idxX_any f l 0
  generalize idxX f l 0 = r at HC hv
  generalize l.any f = y at hv ⊢
  generalize l.length = m at HC ⊢
  clear hl hK hF
  go_enter Tryz.func80, Tryz.ntmps80
  go_wp2_with fail
  refine HC.out.mono ?_; rintro e w2 ⟨rfl, hb2⟩
  have HB2 := Lib.hid hb2
  clear hb2
  go_wp2_with fail
  go_ret
  exact ⟨rfl, HB2.out⟩
def QJ (b N n : Nat) (g : ByteArray → Bool) (e : Ex) : Prop := ∀ (a : Option Addr) (c : Nat) (w : World), okE e → MU w b N n g → A.Kids w a e.args →
  Calls Tryz.prog 63 #[.map (some b), exV e a c] w fun e' w' => e' = .returned (.bool (rE (nt g) e)) ∧ Below w.heap.size w w'
set_option maxHeartbeats 8000000 in
set_option maxRecDepth 100000 in
theorem oreads_any {b N n : Nat} {g : ByteArray → Bool} : ∀ e, QJ b N n g e := by
  refine A.Ex.ind (P := QJ b N n g) ?_
  intro o n s l ih a c w hok hM hK
  have hK' : A.Kids w a l := hK
  have hb := below_box w (exO (.mk o n s l) a c)
  have hbx := Bx.new w #[.int .i64 o, .int .i64 n, .string s, .slice a l.length c] 42
  have hokl : ∀ x ∈ l, okE x := by
    rw [okE] at hok
    exact fun x hx => by
      obtain ⟨j, hj, rfl⟩ := List.getElem_of_mem hx
      exact A.okEs.get hok.2.2.2.2 j hj
  have hll : l.length ≤ 1000000000000000 := by rw [okE] at hok; exact hok.2.2.2.1
  have HCT := Lib.hid (ocontainsT_any (tE (nt g)) b l a c hll _ (hK'.below hb) (fun k h a2 c2 w' hb2 hk2 => otainted_any l[k] a2 c2 w' (hokl _ (List.getElem_mem h)) ((hM.below hb).below hb2) hk2))
  have HCN : Hid (∀ wk, Below (w.alloc (exO (.mk o n s l) a c)).heap.size (w.alloc (exO (.mk o n s l) a c)) wk → Calls Tryz.prog 80 #[.slice a l.length c, .func (Fn.func 63) #[.map (some b)] #[]] wk fun e' w' => e' = .returned (.bool (l.any (rE (nt g)))) ∧ Below wk.heap.size wk w') := fun wk hbk =>
    ocontainsR_any (rE (nt g)) b l a c hll _ ((hK'.below hb).below hbk) (fun k h a2 c2 w' hb2 hk2 => ih k h a2 c2 w' (hokl _ (List.getElem_mem h)) (((hM.below hb).below hbk).below hb2) hk2)
  have HA := Lib.hid (fun w' => oreading_any o w')
  have HB := Lib.hid hb
  have HX := Lib.hid hbx
  rw [rE, tEs_is, rEs_is]
  simp only [exV_mk]
  simp only [A.exO_mk] at HX HB HCN HCT
  clear ih hok hM hK hK' hb hbx hokl
  generalize l.any (tE (nt g)) = Q at HCT ⊢
  generalize l.any (rE (nt g)) = R at HCN ⊢
  generalize l.length = m at hll HX HB HCN HCT ⊢
  have x0 := HX.out.cell 0
  have x3 := HX.out.cell 3
  simp only [List.getElem?_toArray, List.getElem?_cons_zero, List.getElem?_cons_succ] at x0 x3
  generalize hac : acc o = ac at HA ⊢
  clear hac
  cases ac with
  | true =>
    cases Q with
    | true =>
      go_enter Tryz.func63, Tryz.ntmps63
      go_wp2_with fail
      refine (HA.out _).mono ?_; rintro e w2 ⟨rfl, rfl⟩
      go_wp2_with fail
      refine HCT.out.mono ?_; rintro e w3 ⟨rfl, hb3⟩
      have HB3 := Lib.hid (below_2 HB.out hb3)
      clear hb3
      go_wp2_with fail
      go_ret
      exact ⟨rfl, HB3.out⟩
    | false =>
      go_enter Tryz.func63, Tryz.ntmps63
      go_wp2_with fail
      refine (HA.out _).mono ?_; rintro e w2 ⟨rfl, rfl⟩
      go_wp2_with fail
      refine HCT.out.mono ?_; rintro e w3 ⟨rfl, hb3⟩
      have HB3 := Lib.hid hb3
      have y3 := (HX.out.below hb3).cell 3
      simp only [List.getElem?_toArray, List.getElem?_cons_zero, List.getElem?_cons_succ] at y3
      clear hb3 x0 x3
      go_wp2_with fail
      refine (HCN.out _ HB3.out).mono ?_; rintro e w4 ⟨rfl, hb4⟩
      have HB4 := Lib.hid (below_2 HB.out (below_2 HB3.out hb4))
      clear hb4
      go_wp2_with fail
      go_ret
      exact ⟨ret_bool (by simp), HB4.out⟩
  | false =>
    go_enter Tryz.func63, Tryz.ntmps63
    go_wp2_with fail
    refine (HA.out _).mono ?_; rintro e w2 ⟨rfl, rfl⟩
    go_wp2_with fail
    refine (HCN.out _ (Below.refl _ _)).mono ?_; rintro e w4 ⟨rfl, hb4⟩
    have HB4 := Lib.hid (below_2 HB.out hb4)
    clear hb4
    go_wp2_with fail
    go_ret
    exact ⟨ret_bool (by simp), HB4.out⟩
end Go.Proofs.YtnelpgeiioflmaaGreatDoor.F
