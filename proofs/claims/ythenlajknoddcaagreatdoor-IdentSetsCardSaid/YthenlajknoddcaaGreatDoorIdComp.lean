
/- Runs of one id cut to one, plainly: of ids in order it is the set. -/
import Derived.Test.YthenlajknoddcaaGreatDoorId
namespace Go.Proofs.YthenlajknoddcaaGreatDoor
open Go.RowKit
set_option linter.unusedVariables false

/-- Ids, of each run of one the first alone. -/
def compI (l : List Im) : List Im := l.foldl (fun a x => if a.getLast? = some x then a else a ++ [x]) []
theorem compI_snoc (l : List Im) (x : Im) : compI (l ++ [x]) = if (compI l).getLast? = some x then compI l else compI l ++ [x] := by
  unfold compI
  rw [List.foldl_append]
  rfl
theorem snoc_ind {p : List Im → Prop} (h0 : p []) (h : ∀ l x, p l → p (l ++ [x])) (l : List Im) : p l := by
  have key : ∀ n (l : List Im), l.length = n → p l := by
    intro n
    induction n with
    | zero => intro l hl; rw [List.length_eq_zero_iff.1 hl]; exact h0
    | succ n ih =>
      intro l hl
      have e := List.dropLast_concat_getLast (l := l) (by intro e; rw [e] at hl; simp at hl)
      rw [← e]
      exact h _ _ (ih _ (by rw [List.length_dropLast]; omega))
  exact key _ l rfl
theorem compI_last : ∀ l, (compI l).getLast? = l.getLast? := by
  refine snoc_ind rfl fun l x ih => ?_
  rw [compI_snoc]
  split
  · rename_i h
    rw [h, List.getLast?_concat]
  · rw [List.getLast?_concat, List.getLast?_concat]
theorem compI_mem (z : Im) : ∀ l, z ∈ compI l ↔ z ∈ l := by
  refine snoc_ind (by simp [compI]) fun l x ih => ?_
  rw [compI_snoc]
  split
  · rename_i h
    rw [ih, List.mem_append, List.mem_singleton]
    refine ⟨.inl, fun k => k.elim id ?_⟩
    rintro rfl
    rw [← ih]
    exact List.mem_of_getLast? h
  · rw [List.mem_append, List.mem_append, ih]
/-- None is ahead of one before it. -/
def WeakI (l : List Im) : Prop := l.Pairwise fun x y => ¬ ltI y.key x.key
theorem compI_rise : ∀ l, WeakI l → RiseI (ikeys (compI l)) := by
  refine snoc_ind (fun _ => List.Pairwise.nil) fun l x ih hw => ?_
  unfold WeakI at hw
  rw [List.pairwise_append] at hw
  obtain ⟨h1, _, h3⟩ := hw
  have hr := ih h1
  rw [compI_snoc]
  split
  · exact hr
  · rename_i hne
    unfold ikeys
    rw [List.map_append]
    refine List.pairwise_append.2 ⟨hr, by simp, fun a ha b hb => ?_⟩
    obtain rfl : b = x.key := by simpa using hb
    obtain ⟨z, hz, rfl⟩ := List.mem_map.1 ha
    have hzl := (compI_mem z l).1 hz
    refine i_tri (h3 z hzl x (by simp)) fun e => ?_
    obtain rfl : x = z := Im.key_inj e
    refine hne ?_
    obtain ⟨y, hy⟩ : ∃ y, (compI l).getLast? = some y := by
      cases h : (compI l).getLast? with
      | none => rw [List.getLast?_eq_none_iff] at h; rw [h] at hz; cases hz
      | some y => exact ⟨y, rfl⟩
    rw [hy]
    have hyl : y ∈ l := (compI_mem y l).1 (List.mem_of_getLast? hy)
    by_cases e : y = x
    · rw [e]
    · exfalso
      obtain ⟨s, e2⟩ := List.getLast?_eq_some_iff.1 hy
      have hr2 := hr
      unfold RiseI ikeys at hr2
      rw [e2, List.map_append, List.pairwise_append] at hr2
      rw [e2, List.mem_append, List.mem_singleton] at hz
      rcases hz with hz | hz
      · exact h3 y hyl x (by simp) (hr2.2.2 x.key (List.mem_map.2 ⟨x, hz, rfl⟩) y.key (by simp))
      · exact e hz.symm
/-- In order, and each run cut to one: the set. -/
theorem compI_set {gs l : List Im} (hp : gs.Perm l) (hw : WeakI gs) : ikeys (compI gs) = setI (ikeys l) :=
  rise_ext (compI_rise gs hw) (rise_setI _) fun z => by
    rw [mem_setI]
    unfold ikeys
    simp only [List.mem_map]
    constructor
    · rintro ⟨x, hx, rfl⟩
      exact ⟨x, hp.mem_iff.1 ((compI_mem x gs).1 hx), rfl⟩
    · rintro ⟨x, hx, rfl⟩
      exact ⟨x, (compI_mem x gs).2 (hp.mem_iff.2 hx), rfl⟩
theorem compI_succ (l : List Im) (p : Nat) (h1 : 1 ≤ p) (h : p < l.length) : compI (l.take (p + 1)) = if l[p] = l[p - 1] then compI (l.take p) else compI (l.take p) ++ [l[p]] := by
  rw [List.take_succ_eq_append_getElem h, compI_snoc, compI_last]
  have e : (l.take p).getLast? = some l[p - 1] := by
    rw [List.getLast?_eq_getElem?, List.length_take, Nat.min_eq_left (by omega), List.getElem?_take, if_pos (by omega), List.getElem?_eq_getElem]
  rw [e]
  by_cases k : l[p] = l[p - 1]
  · rw [if_pos k, if_pos (by rw [k])]
  · rw [if_neg k, if_neg (fun q => k (by simpa using q.symm))]
theorem compI_all (l : List Im) (p : Nat) (hp : p ≤ l.length) (h : ∀ j (hj : j < l.length), 1 ≤ j → j < p → l[j] ≠ l[j - 1]) : compI (l.take p) = l.take p := by
  induction p with
  | zero => simp [compI]
  | succ p ih =>
    have ih := ih (by omega) fun j hj h1 h2 => h j hj h1 (by omega)
    by_cases h0 : p = 0
    · subst h0
      cases l with
      | nil => simp [compI]
      | cons x r => rfl
    · rw [compI_succ l p (by omega) (by omega), if_neg (h p (by omega) (by omega) (by omega)), ih, List.take_succ_eq_append_getElem (by omega)]
theorem compI_len (l : List Im) : (compI l).length ≤ l.length := by
  revert l
  refine snoc_ind (by simp [compI]) fun l x ih => ?_
  rw [compI_snoc]
  split
  · rw [List.length_append]; omega
  · rw [List.length_append, List.length_append]; omega
/-- The row as it is rewritten: k ids are kept of the first p, from p - 1 on all is as it was. -/
structure MidI (l d : List Im) (k p : Nat) : Prop where
  len : d.length = l.length
  kp : k + 1 ≤ p
  pn : p ≤ l.length
  low : d.take k = compI (l.take p)
  high : ∀ t (h : t < d.length) (h2 : t < l.length), p ≤ t + 1 → d[t] = l[t]
theorem MidI.start {l : List Im} {k : Nat} (h1 : 1 ≤ k) (hk : k < l.length) (he : l[k] = l[k - 1]) (hn : ∀ j (hj : j < l.length), 1 ≤ j → j < k → l[j] ≠ l[j - 1]) : MidI l l k (k + 1) :=
  ⟨rfl, by omega, by omega, by rw [compI_succ l k h1 hk, if_pos he, compI_all l k (by omega) hn], fun _ _ _ _ => rfl⟩
theorem MidI.skip {l d : List Im} {k p : Nat} (m : MidI l d k p) (hp : p < l.length) (he : l[p] = l[p - 1]) : MidI l d k (p + 1) :=
  ⟨m.len, by have := m.kp; omega, by omega, by rw [compI_succ l p (by have := m.kp; omega) hp, if_pos he]; exact m.low, fun t h h2 h3 => m.high t h h2 (by omega)⟩
theorem MidI.keep {l d : List Im} {k p : Nat} (m : MidI l d k p) (hp : p < l.length) (he : l[p] ≠ l[p - 1]) : MidI l (d.set k l[p]) (k + 1) (p + 1) := by
  have hk := m.kp
  have hl := m.len
  refine ⟨by rw [List.length_set]; exact m.len, by omega, by omega, ?_, fun t h h2 h3 => ?_⟩
  · rw [compI_succ l p (by omega) hp, if_neg he, ← m.low, List.take_succ_eq_append_getElem (by rw [List.length_set]; omega), List.getElem_set_self, List.take_set_of_le (Nat.le_refl _)]
  · rw [List.getElem_set_ne (by omega)]
    rw [List.length_set] at h
    exact m.high t h h2 (by omega)
end Go.Proofs.YthenlajknoddcaaGreatDoor
