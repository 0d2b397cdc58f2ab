/-
  Plain mathematics of layer 10, without the program: which operator a token is written with, level by level.
  Plain mathematics of layer 10, without the program: procedures whose numbers of loops and aborts are cut at 2147483647: their validity is the same, and a valid one is not changed.
-/
import Derived.Test.YteglaeopaocilaaGreatDoorM03
import Derived.Test.YteglaeopaocilaaGreatDoorM01
namespace Go.Proofs.YteglaeopaocilaaGreatDoor.P
open L (Str Tok)
open A

/-- the words of the operators -/
def opWs : List ByteArray := [⟨#[]⟩, ⟨#[]⟩, ⟨#[]⟩, ⟨#[]⟩, ⟨#[43]⟩, ⟨#[45]⟩, ⟨#[42]⟩, ⟨#[47]⟩, ⟨#[37]⟩, ⟨#[45]⟩, ⟨#[61, 61]⟩, ⟨#[33, 61]⟩, ⟨#[60]⟩, ⟨#[60, 61]⟩, ⟨#[62]⟩, ⟨#[62, 61]⟩, ⟨#[97, 110, 100]⟩, ⟨#[111, 114]⟩, ⟨#[110, 111, 116]⟩, ⟨#[43, 43]⟩, ⟨#[116, 101, 120, 116]⟩, ⟨#[108, 101, 110]⟩, ⟨#[103, 101, 116, 105, 110, 116]⟩, ⟨#[103, 101, 116, 115, 116, 114]⟩, ⟨#[104, 97, 115]⟩, ⟨#[110, 111, 119]⟩, ⟨#[114, 97, 110, 100, 111, 109]⟩, ⟨#[110, 111, 100, 101]⟩]
def allW : List Str := opWs.map fun b => b.data.toList
def opW (o : Nat) : Str := (allW[o]?).getD []
def tkw (l : T) : Option Str := match l with | [] => none | t :: _ => if (decide (t.k = 2) || decide (t.k = 5)) = true then some t.t else none
theorem isW_tkw (l : T) (s : Str) : isW l s = decide (tkw l = some s) := by
  cases l with
  | nil => rfl
  | cons t r =>
    unfold isW tkw
    cases h : (decide (t.k = 2) || decide (t.k = 5))
    · simp
    · simp
/-- the first of the operators that is written with the next token, or 0 -/
def oper : List Nat → T → Nat
  | [], _ => 0
  | o :: r, l => if isW l (opW o) = true then o else oper r l
def operO : List Nat → Option Str → Nat
  | [], _ => 0
  | o :: r, x => if x = some (opW o) then o else operO r x
theorem oper_tkw (l : T) : ∀ ops : List Nat, oper ops l = operO ops (tkw l)
  | [] => rfl
  | o :: r => by
    rw [oper, operO, oper_tkw l r, isW_tkw]
    by_cases h : tkw l = some (opW o)
    · rw [if_pos h, if_pos (decide_eq_true h)]
    · rw [if_neg h, if_neg (fun e => h (of_decide_eq_true e))]
def findO (tab : List (Str × Int)) (x : Option Str) : Int := match tab.find? fun p => decide (x = some p.1) with | some p => p.2 | none => 0
theorem findW_tkw (tab : List (Str × Int)) (l : T) : findW tab l = findO tab (tkw l) := by
  unfold findW findO
  have : (fun p : Str × Int => isW l p.1) = fun p => decide (tkw l = some p.1) := funext fun p => isW_tkw l p.1
  rw [this]
  cases tab.find? (fun p => decide (tkw l = some p.1)) <;> rfl
theorem opW_mem (o : Nat) : opW o ∈ allW := by
  unfold opW
  cases h : allW[o]? with
  | none => exact (by decide : ([] : Str) ∈ allW)
  | some s => exact List.mem_of_getElem? h
theorem operO_out {x : Option Str} (h : ∀ s ∈ allW, x ≠ some s) : ∀ ops : List Nat, operO ops x = 0
  | [] => rfl
  | o :: r => by rw [operO, if_neg (h _ (opW_mem o)), operO_out h r]
theorem findO_out {x : Option Str} (h : ∀ s ∈ allW, x ≠ some s) (tab : List (Str × Int)) (ht : ∀ p ∈ tab, p.1 ∈ allW) : findO tab x = 0 := by
  have e : (tab.find? fun p => decide (x = some p.1)) = none := List.find?_eq_none.2 fun p hp => by simpa using h _ (ht p hp)
  unfold findO
  rw [e]
def binO (x : Option Str) (lev : Nat) : Int := if findO signs x ≠ 0 ∧ lv (findO signs x) = lev then findO signs x else 0
theorem bin_tkw (l : T) (lev : Nat) : bin l lev = binO (tkw l) lev := by unfold bin sgn binO; rw [findW_tkw]
def opsL (lev : Nat) : List Nat := if lev = 1 then [17] else if lev = 2 then [16] else if lev = 4 then [10, 11, 12, 13, 14, 15] else if lev = 5 then [19] else if lev = 6 then [4, 5] else if lev = 7 then [6, 7, 8] else []
theorem signs_all : ∀ p ∈ signs, p.1 ∈ allW := by decide
theorem calls_all : ∀ p ∈ calls, p.1 ∈ allW := by decide
theorem bin_in : ∀ s ∈ allW, ∀ lev ∈ [1, 2, 3, 4, 5, 6, 7, 8], binO (some s) lev = (operO (opsL lev) (some s) : Nat) := by decide
theorem bin_ops (l : T) (lev : Nat) (h : lev ∈ [1, 2, 3, 4, 5, 6, 7, 8]) : bin l lev = (oper (opsL lev) l : Nat) := by
  rw [bin_tkw, oper_tkw]
  by_cases hx : ∀ s ∈ allW, tkw l ≠ some s
  · rw [operO_out hx]
    unfold binO
    rw [findO_out hx signs signs_all]
    rfl
  · obtain ⟨s, hs⟩ := Classical.not_forall.1 hx
    obtain ⟨hm, hs⟩ := Classical.not_forall.1 hs
    rw [Classical.not_not.1 hs]
    exact bin_in s hm lev h
theorem pre_3 (l : T) : pre l 3 = (oper [18] l : Nat) := by
  unfold pre
  rw [oper, oper, show opW 18 = sNot by decide]
  by_cases h : isW l sNot = true
  · rw [if_pos ⟨rfl, h⟩, if_pos h]; rfl
  · rw [if_neg (fun e => h e.2), if_neg h, if_neg (fun e => by omega)]; rfl
theorem pre_8 (l : T) : pre l 8 = (oper [9] l : Nat) := by
  unfold pre
  rw [oper, oper, show opW 9 = [45] by decide, if_neg (fun e => by omega)]
  by_cases h : isW l [45] = true
  · rw [if_pos ⟨rfl, h⟩, if_pos h]; rfl
  · rw [if_neg (fun e => h e.2), if_neg h]; rfl
theorem pre_0 (l : T) (lev : Nat) (h3 : lev ≠ 3) (h8 : lev ≠ 8) : pre l lev = 0 := by
  unfold pre
  rw [if_neg (fun e => h3 e.1), if_neg (fun e => h8 e.1)]
theorem call_in : ∀ s ∈ allW, findO calls (some s) = if operO [20, 21, 22, 23, 24] (some s) = 0 then ((operO [25, 26, 27] (some s) : Nat) : Int) else ((operO [20, 21, 22, 23, 24] (some s) : Nat) : Int) := by decide
theorem call_ops (l : T) : callOp l = if oper [20, 21, 22, 23, 24] l = 0 then ((oper [25, 26, 27] l : Nat) : Int) else ((oper [20, 21, 22, 23, 24] l : Nat) : Int) := by
  unfold callOp
  rw [findW_tkw, oper_tkw, oper_tkw]
  by_cases hx : ∀ s ∈ allW, tkw l ≠ some s
  · rw [operO_out hx, operO_out hx, findO_out hx calls calls_all]; rfl
  · obtain ⟨s, hs⟩ := Classical.not_forall.1 hx
    obtain ⟨hm, hs⟩ := Classical.not_forall.1 hs
    rw [Classical.not_not.1 hs]
    exact call_in s hm
theorem oper_mem (l : T) : ∀ ops : List Nat, oper ops l ≠ 0 → oper ops l ∈ ops ∧ isW l (opW (oper ops l)) = true
  | [], h => absurd rfl h
  | o :: r, h => by
    rw [oper] at h ⊢
    by_cases hw : isW l (opW o) = true
    · rw [if_pos hw]; exact ⟨List.mem_cons_self .., hw⟩
    · rw [if_neg hw] at h ⊢
      have := oper_mem l r h
      exact ⟨List.mem_cons_of_mem _ this.1, this.2⟩
end Go.Proofs.YteglaeopaocilaaGreatDoor.P
namespace Go.Proofs.YteglaeopaocilaaGreatDoor.P
open L (Str Tok)
open A

def cut (m : Int) : Int := min m 2147483647
mutual
def clipS : St → St
  | .mk o nm m a b bd el => .mk o nm (cut m) a b (clipB bd) (clipB el)
def clipB : List St → List St
  | [] => []
  | s :: r => clipS s :: clipB r
end
def clipP (p : Pr) : Pr := ⟨p.name, p.params, clipB p.body⟩
theorem clipB_len : ∀ l : List St, (clipB l).length = l.length
  | [] => by rw [clipB]
  | s :: r => by rw [clipB, List.length_cons, List.length_cons, clipB_len r]
theorem clipB_app : ∀ l r : List St, clipB (l ++ r) = clipB l ++ clipB r
  | [], r => by rw [clipB]; rfl
  | s :: l, r => by rw [List.cons_append, clipB, clipB, clipB_app l r]; rfl
def clipV : V → V
  | .st s d => .st (clipS s) d
  | .ex e r => .ex e r
theorem clip_ex : ∀ l : List V, (∀ v ∈ l, ∃ e r, v = .ex e r) → l.map clipV = l
  | [], _ => rfl
  | v :: l, h => by
    obtain ⟨e, r, rfl⟩ := h v (List.mem_cons_self ..)
    rw [List.map_cons, clip_ex l (fun u hu => h u (List.mem_cons_of_mem _ hu))]
    rfl
mutual
theorem preE_ex : ∀ (e : Ex) (r : Bool), ∀ v ∈ preE e r, ∃ e r, v = .ex e r
  | .mk o n s l, r, v, h => by
    rw [preE] at h
    rcases List.mem_cons.1 h with h | h
    · exact ⟨_, _, h⟩
    · exact preEs_ex l v h
theorem preEs_ex : ∀ (l : List Ex), ∀ v ∈ preEs l, ∃ e r, v = .ex e r
  | [], v, h => by rw [preEs] at h; cases h
  | e :: r, v, h => by
    rw [preEs] at h
    rcases List.mem_append.1 h with h | h
    · exact preE_ex e false v h
    · exact preEs_ex r v h
end
theorem preR_clip (e : Ex) : (preR e).map clipV = preR e := by
  refine clip_ex _ fun v hv => ?_
  unfold preR at hv
  split at hv
  · cases hv
  · exact preE_ex e true v hv
mutual
theorem preS_clip : ∀ (s : St) (d : Nat), preS (clipS s) d = (preS s d).map clipV
  | .mk o nm m a b bd el, d => by
    rw [clipS, preS, preS, List.map_cons, List.map_append, List.map_append, List.map_append, preR_clip, preR_clip, preB_clip bd (d + 1), preB_clip el (d + 1)]
    rfl
theorem preB_clip : ∀ (l : List St) (d : Nat), preB (clipB l) d = (preB l d).map clipV
  | [], d => by rw [clipB, preB]; rfl
  | s :: r, d => by rw [clipB, preB, preB, List.map_append, preS_clip s d, preB_clip r d]
end
theorem cut_0 (m : Int) : decide (cut m = 0) = decide (m = 0) := by
  unfold cut
  exact decide_eq_decide.2 (by omega)
theorem clip_badS (s : St) : badS (clipS s) = badS s := by
  obtain ⟨o, nm, m, a, b, bd, el⟩ := s
  have e1 : ∀ l : List St, (clipB l).isEmpty = l.isEmpty := fun l => by
    cases l with
    | nil => rw [clipB]
    | cons s r => rw [clipB]; rfl
  rw [clipS]
  show (decide (o < 1) || decide (8 < o) || (!uN o && !decide (nm.size = 0)) || (!uM o && !decide (cut m = 0)) || (!uA o && !absent a) || (!uB o && !absent b) || (!uD o && !(clipB bd).isEmpty) || (!uE o && !(clipB el).isEmpty)) = _
  rw [cut_0, e1, e1]
  rfl
theorem clip_badM (s : St) : badM (clipS s) = badM s := by
  obtain ⟨o, nm, m, a, b, bd, el⟩ := s
  rw [clipS]
  show ((decide (o = 6) && (decide (cut m < 1) || decide (16 < cut m))) || (decide (o = 8) && (decide (cut m < 0) || decide (999 < cut m)))) = _
  have h1 : decide (cut m < 1) = decide (m < 1) := decide_eq_decide.2 (by unfold cut; omega)
  have h2 : decide (16 < cut m) = decide (16 < m) := decide_eq_decide.2 (by unfold cut; omega)
  have h3 : decide (cut m < 0) = decide (m < 0) := decide_eq_decide.2 (by unfold cut; omega)
  have h4 : decide (999 < cut m) = decide (999 < m) := decide_eq_decide.2 (by unfold cut; omega)
  rw [h1, h2, h3, h4]
  rfl
theorem clip_stE (s : St) (d : Nat) : stE (clipS s) d = stE s d := by
  unfold stE
  rw [clip_badS, clip_badM]
  obtain ⟨o, nm, m, a, b, bd, el⟩ := s
  rw [clipS]
  rfl
theorem clip_firstE : ∀ l : List V, firstE (l.map clipV) = firstE l
  | [] => rfl
  | .st s d :: r => by
    show firstE (.st (clipS s) d :: r.map clipV) = _
    rw [firstE, firstE, clip_stE, clip_firstE r]
  | .ex e x :: r => by
    show firstE (.ex e x :: r.map clipV) = _
    rw [firstE, firstE, clip_firstE r]
theorem clip_walk (p : Pr) : walk (clipP p) = (walk p).map clipV := by
  unfold walk
  show (preB (clipB p.body) 1).take 401 = _
  rw [preB_clip, List.map_take]
/-- cutting the numbers keeps the error -/
theorem clip_valE (p : Pr) : valE (clipP p) = valE p := by
  unfold valE
  rw [clip_walk, clip_firstE, List.length_map]
  rfl
mutual
theorem clipS_id : ∀ (s : St) (d : Nat), (∀ s' d', V.st s' d' ∈ preS s d → s'.mx ≤ 2147483647) → clipS s = s
  | .mk o nm m a b bd el, d, h => by
    rw [preS] at h
    have h0 := h _ _ (List.mem_cons_self ..)
    have h1 := clipB_id bd (d + 1) (fun s' d' hv => h s' d' (List.mem_cons_of_mem _ (List.mem_append.2 (Or.inl (List.mem_append.2 (Or.inr hv))))))
    have h2 := clipB_id el (d + 1) (fun s' d' hv => h s' d' (List.mem_cons_of_mem _ (List.mem_append.2 (Or.inr hv))))
    rw [clipS, h1, h2]
    have h3 : m ≤ 2147483647 := h0
    rw [show cut m = m by unfold cut; omega]
theorem clipB_id : ∀ (l : List St) (d : Nat), (∀ s' d', V.st s' d' ∈ preB l d → s'.mx ≤ 2147483647) → clipB l = l
  | [], _, _ => by rw [clipB]
  | s :: r, d, h => by
    rw [preB] at h
    rw [clipB, clipS_id s d (fun s' d' hv => h s' d' (List.mem_append.2 (Or.inl hv))), clipB_id r d (fun s' d' hv => h s' d' (List.mem_append.2 (Or.inr hv)))]
end
theorem st_mx {s : St} {d : Nat} (h : stE s d = 0) : s.mx ≤ 2147483647 := by
  unfold stE at h
  by_cases h1 : badS s = true
  · rw [if_pos h1] at h; cases h
  rw [if_neg h1] at h
  by_cases h2 : badM s = true
  · rw [if_pos h2] at h; cases h
  clear h
  rw [Bool.not_eq_true] at h1 h2
  unfold badM at h2
  unfold badS at h1
  simp only [Bool.or_eq_false_iff, Bool.and_eq_false_iff, decide_eq_false_iff_not, Bool.not_eq_false'] at h1 h2
  have h3 := h1.1.1.1.1.2
  unfold uM at h3
  simp only [Bool.not_eq_true', decide_eq_false_iff_not, decide_eq_true_eq] at h3
  omega
/-- a valid procedure is not changed -/
theorem clip_id {p : Pr} (h : valE p = 0) : clipP p = p := by
  obtain ⟨h1, h2, h3, h4⟩ := val_parts h
  rw [walk_full h4] at h3
  have : clipB p.body = p.body := clipB_id p.body 1 fun s' d' hv => st_mx (first_each h3 s' d' hv)
  unfold clipP
  rw [this]
end Go.Proofs.YteglaeopaocilaaGreatDoor.P
