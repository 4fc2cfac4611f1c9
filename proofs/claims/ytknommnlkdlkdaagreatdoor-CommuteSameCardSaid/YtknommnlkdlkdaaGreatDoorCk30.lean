/- Rows of steps, plainly: all done, all taken back; hunks done one by one, the last one first. Two steps that change places, plainly: what a tree says of a path, and what a step makes of it. Two steps that are apart change places, plainly. -/
import Derived.Test.YtknommnlkdlkdaaGreatDoorCk29
import Derived.Test.YtknommnlkdlkdaaGreatDoorCk03
import Derived.Test.YtknommnlkdlkdaaGreatDoorCk06
import Derived.Test.YtknommnlkdlkdaaGreatDoorCk05
namespace Go.Proofs.YtknommnlkdlkdaaGreatDoor
open Go.RowKit
set_option linter.unusedVariables false

/-- Steps, one behind the other: the first error, or the files behind all. -/
def apAll (ks : List PF) : List Pk → Int × List PF
  | [] => (0, ks)
  | p :: l => if (apP ks p).1 = 0 then apAll (apP ks p).2 l else ((apP ks p).1, [])
def backP (l : List Pk) : List Pk := (l.map invP).reverse
theorem backP_back (l : List Pk) : backP (backP l) = l := by
  unfold backP
  rw [List.map_reverse, List.reverse_reverse, List.map_map]
  have e : invP ∘ invP = id := funext invP_inv
  rw [e, List.map_id]
theorem apAll_app : ∀ (a b : List Pk) (ks : List PF), apAll ks (a ++ b) = if (apAll ks a).1 = 0 then apAll (apAll ks a).2 b else ((apAll ks a).1, [])
  | [], b, ks => by simp [apAll]
  | p :: a, b, ks => by
    have ih := apAll_app a b
    rw [List.cons_append, apAll, apAll]
    by_cases h : (apP ks p).1 = 0
    · rw [if_pos h, if_pos h, ih]
    · rw [if_neg h, if_neg h, if_neg h]
theorem apAll_well : ∀ {l : List Pk} {ks res : List PF}, Well ks → apAll ks l = (0, res) → Well res
  | [], ks, res, h, hd => by
    obtain ⟨_, rfl⟩ := Prod.mk.inj hd
    exact h
  | p :: l, ks, res, h, hd => by
    unfold apAll at hd
    split at hd
    · rename_i h0
      refine apAll_well (ap_well h (p := p) (res := (apP ks p).2) ?_) hd
      rw [← h0]
    · rename_i h0
      exact absurd (Prod.mk.inj hd).1 h0
/-- What was done is taken back. -/
theorem all_back : ∀ {l : List Pk} {ks res : List PF}, Well ks → apAll ks l = (0, res) → apAll res (backP l) = (0, ks)
  | [], ks, res, h, hd => by
    obtain ⟨_, rfl⟩ := Prod.mk.inj hd
    rfl
  | p :: l, ks, res, h, hd => by
    unfold apAll at hd
    split at hd
    · rename_i h0
      have h1 : apP ks p = (0, (apP ks p).2) := by rw [← h0]
      have ih := all_back (ap_well h h1) hd
      have e : backP (p :: l) = backP l ++ [invP p] := by simp [backP]
      rw [e, apAll_app, ih, if_pos rfl]
      have h2 := ap_inv h h1
      simp [apAll, h2]
    · rename_i h0
      exact absurd (Prod.mk.inj hd).1 h0
theorem mem_refApp {a : List (List UInt8)} : ∀ {l : List (Hk (List UInt8))} {x : List UInt8}, x ∈ refApp a l → x ∈ a ∨ ∃ h ∈ l, x ∈ h.new
  | [], x, hx => .inl hx
  | h :: l, x, hx => by
    unfold refApp at hx
    rw [List.mem_append, List.mem_append] at hx
    have ih := fun (hy : x ∈ refApp a l) => mem_refApp hy
    rcases hx with hx | hx | hx
    · rcases ih (List.mem_of_mem_take hx) with h1 | ⟨g, hg, h1⟩
      · exact .inl h1
      · exact .inr ⟨g, List.mem_cons_of_mem _ hg, h1⟩
    · exact .inr ⟨h, by simp, hx⟩
    · rcases ih (List.mem_of_mem_drop hx) with h1 | ⟨g, hg, h1⟩
      · exact .inl h1
      · exact .inr ⟨g, List.mem_cons_of_mem _ hg, h1⟩
theorem len_refApp {a : List (List UInt8)} : ∀ (l : List (Hk (List UInt8))), (refApp a l).length ≤ a.length + sumNew l
  | [] => by simp [refApp, sumNew]
  | h :: l => by
    have ih := len_refApp (a := a) l
    rw [refApp, List.length_append, List.length_append, List.length_take, List.length_drop]
    simp only [sumNew, List.map_cons, List.sum_cons] at ih ⊢
    omega
theorem done_mem : ∀ {l : List (Hk (List UInt8))} {i : Nat} {a b : List (List UInt8)}, Done i l a b → ∀ h ∈ l, (∀ x ∈ h.old, x ∈ a) ∧ (∀ x ∈ h.new, x ∈ b)
  | [], i, a, b, _, h, hh => by cases hh
  | g :: l, i, a, b, hd, h, hh => by
    obtain ⟨c, a', b', rfl, rfl, _, h4⟩ := hd
    rcases List.mem_cons.1 hh with rfl | hh
    · exact ⟨fun x hx => by simp [hx], fun x hx => by simp [hx]⟩
    · obtain ⟨h1, h2⟩ := done_mem h4 h hh
      exact ⟨fun x hx => by have := h1 x hx; simp [this], fun x hx => by have := h2 x hx; simp [this]⟩
theorem mayDrop : ∀ (l : List (Hk (List UInt8))) (k : Nat), May l → May (l.drop k)
  | l, 0, h => h
  | [], k + 1, h => trivial
  | g :: l, k + 1, h => mayDrop l k h.2.2
theorem sumNew_drop : ∀ (l : List (Hk (List UInt8))) (k : Nat), sumNew (l.drop k) ≤ sumNew l
  | l, 0 => Nat.le_refl _
  | [], k + 1 => Nat.le_refl _
  | g :: l, k + 1 => by
    have := sumNew_drop l k
    simp only [sumNew, List.map_cons, List.sum_cons, List.drop_succ_cons] at this ⊢
    omega
/-- A hunk stands where it says, when those behind it are done. -/
theorem stands_then {la : List (List UInt8)} {h : Hk (List UInt8)} {l : List (Hk (List UInt8))} (hm : May (h :: l)) (hs : ∀ g ∈ h :: l, Stands la g) : atB (refApp la l) h.old (h.at_ : Int) = true := by
  obtain ⟨_, hf, hm2⟩ := hm
  obtain ⟨s1, s2⟩ := hs h (by simp)
  obtain ⟨b, hb⟩ := stands_done la l (h.at_ + h.old.length) s1 (hf.mono (by omega)) hm2 fun g hg => hs g (List.mem_cons_of_mem _ hg)
  have e := done_app (p := la.take (h.at_ + h.old.length)) (by rw [List.length_take]; omega) hb
  rw [List.take_append_drop, List.take_add, s2] at e
  rw [e]
  exact atB_mk (by omega) (by rw [List.length_take]; simp; omega)
theorem refApp_put (la : List (List UInt8)) (h : Hk (List UInt8)) (l : List (Hk (List UInt8))) : refApp la (h :: l) = putL (refApp la l) h.at_ h.old h.new := by
  unfold putL
  rw [refApp, List.append_assoc]
theorem with_one (x y : PF) (h : x.1 = y.1) : withK [x] y = [y] := by
  unfold withK withoutK sortK insK placeK
  simp [h]
theorem dirP_one {p : List UInt8} (h : (names nameP p).length = 1) : dirP nameP p = [] := by
  rw [dir_is, h]
  rfl
theorem well_one {p : List UInt8} {ls : List (List UInt8)} (hp : (names nameP p).length = 1) (hl : checkN (toBs ls) = 0) : Well [(p, false, ls)] := by
  refine ⟨by simp [Rise], ?_, ?_, ?_, ?_⟩
  · intro k hk
    rw [List.mem_singleton] at hk
    subst hk
    intro e
    simp only at e
    rw [e] at hp
    simp at hp
  · intro k hk
    rw [List.mem_singleton] at hk
    subst hk
    exact .inl (dirP_one hp)
  · intro k hk
    rw [List.mem_singleton] at hk
    subst hk
    exact hl
  · intro k hk hd
    rw [List.mem_singleton] at hk
    subst hk
    cases hd
/-- One of the hunks between two lists, done behind those that stand behind it. -/
theorem hunk_step {p : List UInt8} {a b : List (List UInt8)} (hp : (names nameP p).length = 1) (ha : checkN (toBs a) = 0) (hb : checkN (toBs b) = 0) (hn : a.length + b.length ≤ 2000) {k : Nat} (hk : k < (hunks a b).length) :
    apP [(p, false, refApp a ((hunks a b).drop (k + 1)))] ⟨6, p, [], ((hunks a b)[k].at_ : Int), (hunks a b)[k].old, (hunks a b)[k].new⟩ = (0, [(p, false, refApp a ((hunks a b).drop k))]) := by
  obtain ⟨hdone, hmay, hsum, hsum2⟩ := hunks_facts a b
  obtain ⟨happ, hst⟩ := hunks_app a b
  generalize hunks a b = hs at *
  have ca := check_iff.1 ha
  have cb := check_iff.1 hb
  have hmem := done_mem hdone
  have hdk : hs.drop k = hs[k] :: hs.drop (k + 1) := List.drop_eq_getElem_cons hk
  have hmd := mayDrop hs k hmay
  rw [hdk] at hmd
  have hch : ∀ j, checkN (toBs (refApp a (hs.drop j))) = 0 := fun j => by
    rw [check_iff]
    refine ⟨?_, fun x hx => ?_⟩
    · have h1 := len_refApp (a := a) (hs.drop j)
      have h2 := sumNew_drop hs j
      omega
    · rcases mem_refApp hx with h1 | ⟨g, hg, h1⟩
      · exact ca.2 x h1
      · exact cb.2 x ((hmem g (List.mem_of_mem_drop hg)).2 x h1)
  have hw := well_one (p := p) hp (hch (k + 1))
  have hne : names nameP p ≠ [] := fun e => by rw [e] at hp; simp at hp
  have ho : checkN (toBs hs[k].old) = 0 := by
    rw [check_iff]
    obtain ⟨s1, _⟩ := hst hs[k] (List.getElem_mem _)
    exact ⟨by omega, fun x hx => ca.2 x ((hmem _ (List.getElem_mem _)).1 x hx)⟩
  have hnw : checkN (toBs hs[k].new) = 0 := by
    rw [check_iff]
    have h1 : hs[k].new.length ≤ sumNew hs := by
      have h2 := sumNew_drop hs k
      rw [hdk] at h2
      simp only [sumNew, List.map_cons, List.sum_cons] at h2 ⊢
      omega
    exact ⟨by omega, fun x hx => cb.2 x ((hmem _ (List.getElem_mem _)).2 x hx)⟩
  have hck : ckP ⟨6, p, [], (hs[k].at_ : Int), hs[k].old, hs[k].new⟩ = 0 := by
    unfold ckP
    rw [if_neg, if_neg, if_neg]
    · rintro ⟨_, h | h | h | h⟩
      · simp only at h; omega
      · simp only at h
        rcases hmd.1 with h1 | h1
        · exact h1 (List.length_eq_zero_iff.1 (by omega))
        · exact h1 (List.length_eq_zero_iff.1 (by omega))
      · exact h ho
      · exact h hnw
    · rintro (h | ⟨h, _⟩)
      · exact hne h
      · simp at h
    · rintro (h | h | ⟨_, h⟩ | ⟨h, _⟩)
      · simp at h
      · simp at h
      · exact h rfl
      · exact h rfl
  have hat := stands_then hmd fun g hg => hst g (by
    rw [← hdk] at hg
    exact List.mem_of_mem_drop hg)
  have hput := refApp_put a hs[k] (hs.drop (k + 1))
  rw [← hdk] at hput
  have hover := wr_over hw (f := (p, false, refApp a (hs.drop (k + 1)))) (by simp) rfl (refApp a (hs.drop k))
  simp only at hover
  rw [with_one (p, false, refApp a (hs.drop (k + 1))) (p, false, refApp a (hs.drop k)) rfl] at hover
  unfold apP
  rw [if_neg (by simpa using hck)]
  simp [hat]
  rw [← hput, hch k]
  exact hover
end Go.Proofs.YtknommnlkdlkdaaGreatDoor
namespace Go.Proofs.YtknommnlkdlkdaaGreatDoor
open Go.RowKit
set_option linter.unusedVariables false

/-- What files say: of a path nothing, or whether it is a directory, and its lines. -/
abbrev Look := List UInt8 → Option (Bool × List (List UInt8))
def look (ks : List PF) : Look := fun x => (ks.find? fun k => decide (k.1 = x)).map fun k => k.2
theorem look_some {ks : List PF} (h : Rise ks) {x : List UInt8} {v : Bool × List (List UInt8)} : look ks x = some v ↔ (x, v) ∈ ks := by
  unfold look
  constructor
  · intro e
    cases hf : ks.find? fun k => decide (k.1 = x) with
    | none => rw [hf] at e; cases e
    | some k =>
      rw [hf] at e
      obtain ⟨hm, hp⟩ := (find_one h).1 hf
      simp only [Option.map_some, Option.some.injEq] at e
      subst hp; subst e
      exact hm
  · intro hm
    rw [(find_one h).2 ⟨hm, rfl⟩]
    rfl
theorem look_none {ks : List PF} {x : List UInt8} : look ks x = none ↔ ∀ k ∈ ks, k.1 ≠ x := by
  unfold look
  rw [Option.map_eq_none_iff]
  exact ⟨find_noK, find_no⟩
theorem look_ext {ks js : List PF} (h1 : Rise ks) (h2 : Rise js) (h : ∀ x, look ks x = look js x) : ks = js :=
  rise_ext h1 h2 fun f => by
    have e1 := look_some h1 (x := f.1) (v := f.2)
    have e2 := look_some h2 (x := f.1) (v := f.2)
    rw [h] at e1
    exact e1.symm.trans e2
theorem look_with {ks : List PF} (h : Rise ks) (f : PF) (x : List UInt8) : look (withK ks f) x = if x = f.1 then some f.2 else look ks x := by
  by_cases e : x = f.1
  · rw [if_pos e, e]
    exact (look_some (h.with_ f)).2 ((with_memK h).2 (.inr rfl))
  · rw [if_neg e]
    cases hl : look ks x with
    | none =>
      rw [look_none] at hl ⊢
      intro k hk
      rcases (with_memK h).1 hk with ⟨hm, _⟩ | rfl
      · exact hl k hm
      · exact fun e2 => e e2.symm
    | some v =>
      rw [look_some h] at hl
      exact (look_some (h.with_ f)).2 ((with_memK h).2 (.inl ⟨hl, e⟩))
theorem look_without {ks : List PF} (h : Rise ks) (p x : List UInt8) : look (withoutK ks p) x = if x = p then none else look ks x := by
  by_cases e : x = p
  · rw [if_pos e, look_none]
    intro k hk
    rw [e]
    exact (without_mem.1 hk).2
  · rw [if_neg e]
    cases hl : look ks x with
    | none =>
      rw [look_none] at hl ⊢
      exact fun k hk => hl k (without_mem.1 hk).1
    | some v =>
      rw [look_some h] at hl
      exact (look_some (h.without p)).2 (without_mem.2 ⟨hl, e⟩)

/-- The directory of a path is there. -/
def DirIn (m : Look) (x : List UInt8) : Prop := dirP nameP x = [] ∨ ∃ ls, m (dirP nameP x) = some (true, ls)
/-- Something lies in a path. -/
def ChildIn (m : Look) (x : List UInt8) : Prop := ∃ c v, m c = some v ∧ dirP nameP c = x
theorem dirin_iff {ks : List PF} (h : Rise ks) (x : List UInt8) : DirIn (look ks) x ↔ dirK ks (dirP nameP x) = true := by
  rw [dirK_iff h]
  unfold DirIn
  refine or_congr Iff.rfl ⟨?_, ?_⟩
  · rintro ⟨ls, e⟩
    exact ⟨_, (look_some h).1 e, rfl, rfl⟩
  · rintro ⟨⟨k1, k2, k3⟩, hk, e, hd⟩
    simp only at e hd
    subst e; subst hd
    exact ⟨k3, (look_some h).2 hk⟩
theorem childin_iff {ks : List PF} (h : Rise ks) (x : List UInt8) : ChildIn (look ks) x ↔ childK ks x = true := by
  unfold ChildIn childK
  rw [List.any_eq_true]
  constructor
  · rintro ⟨c, v, e, hd⟩
    exact ⟨(c, v), (look_some h).1 e, by simpa using hd⟩
  · rintro ⟨⟨c, v⟩, hk, hd⟩
    exact ⟨c, v, (look_some h).2 hk, by simpa using hd⟩

/-- Where a step may be done. -/
structure May7 (m : Look) (p : Pk) : Prop where
  mkd : p.kind = 1 ∨ p.kind = 3 → m p.path = none ∧ DirIn m p.path
  rm : p.kind = 2 ∨ p.kind = 4 → m p.path = some (decide (p.kind = 2), []) ∧ ¬ ChildIn m p.path
  mv : p.kind = 5 → (∃ ls, m p.path = some (false, ls)) ∧ m p.dst = none ∧ DirIn m p.dst
  hk : p.kind = 6 → ∃ ls, m p.path = some (false, ls) ∧ atB ls p.old p.at_ = true ∧ checkN (toBs (putL ls p.at_.toNat p.old p.new)) = 0
/-- What a step makes of a tree. -/
def ef (m : Look) (p : Pk) : Look := fun x =>
  if p.kind = 5 then (if x = p.dst then m p.path else if x = p.path then none else m x)
  else if x = p.path then
    (if p.kind = 1 then some (true, [])
    else if p.kind = 3 then some (false, [])
    else if p.kind = 6 then (m p.path).map fun v => (false, putL v.2 p.at_.toNat p.old p.new)
    else none)
  else m x
theorem ef_out {m : Look} {p : Pk} {x : List UInt8} (h : x ∉ touches p) : ef m p x = m x := by
  unfold ef
  unfold touches at h
  by_cases h5 : p.kind = 5
  · rw [if_pos h5] at h ⊢
    simp only [List.mem_cons, List.not_mem_nil, or_false, not_or] at h
    rw [if_neg h.2, if_neg h.1]
  · rw [if_neg h5] at h ⊢
    simp only [List.mem_cons, List.not_mem_nil, or_false] at h
    rw [if_neg h]
theorem ef_in {m m2 : Look} {p : Pk} (hm : ∀ x ∈ touches p, m2 x = m x) {x : List UInt8} (h : x ∈ touches p) : ef m2 p x = ef m p x := by
  unfold ef
  unfold touches at h hm
  by_cases h5 : p.kind = 5
  · rw [if_pos h5] at h hm ⊢
    rw [if_pos h5]
    rw [hm p.path (by simp), hm x h]
  · rw [if_neg h5] at h hm ⊢
    rw [if_neg h5]
    rw [hm p.path (by simp), hm x h]

theorem ap_may {ks : List PF} (h : Well ks) {p : Pk} (hc : ckP p = 0) {res : List PF} (hd : apP ks p = (0, res)) : May7 (look ks) p ∧ ∀ x, look res x = ef (look ks) p x := by
  obtain ⟨k1, k6, f5, fz, fn, fm, fh⟩ := ck_facts hc
  have hr := h.rise
  unfold apP at hd
  rw [if_neg (by simpa using hc)] at hd
  have hk : p.kind = 1 ∨ p.kind = 3 ∨ p.kind = 5 ∨ p.kind = 6 ∨ p.kind = 2 ∨ p.kind = 4 := by omega
  rcases hk with e | e | e | e | e
  · rw [if_pos e] at hd
    obtain ⟨hn, hx, hdir, rfl⟩ := ap_inv1 h hd
    refine ⟨⟨fun _ => ⟨look_none.2 hn, (dirin_iff hr _).2 hdir⟩, fun h => by omega, fun h => by omega, fun h => by omega⟩, fun x => ?_⟩
    unfold ef
    rw [if_neg (by omega), if_pos e, look_with hr]
  · rw [if_neg (by omega), if_pos e] at hd
    split at hd
    · simp at hd
    rename_i hs
    have hn : look ks p.path = none := by
      unfold look
      cases hq : ks.find? fun k => decide (k.1 = p.path) with
      | none => rfl
      | some g => rw [hq] at hs; simp at hs
    obtain ⟨hx, _, hdir, rfl⟩ := ap_inv3 h (look_none.1 hn) hd
    refine ⟨⟨fun _ => ⟨hn, (dirin_iff hr _).2 hdir⟩, fun h => by omega, fun h => by omega, fun h => by omega⟩, fun x => ?_⟩
    rw [look_with hr]
    unfold ef
    simp [e]
  · rw [if_neg (by omega), if_neg (by omega), if_pos e] at hd
    obtain ⟨f, hm, hp, hfd, hny, hx, hy, hdir, rfl⟩ := ap_inv5 h hd
    obtain ⟨f1, f2, f3⟩ := f
    simp only at hp hfd
    subst hp; subst hfd
    have hl := (look_some hr).2 hm
    refine ⟨⟨fun h => by omega, fun h => by omega, fun _ => ⟨⟨f3, hl⟩, look_none.2 hny, (dirin_iff hr _).2 hdir⟩, fun h => by omega⟩, fun x => ?_⟩
    unfold ef
    rw [if_pos e, hl, look_with (hr.without _), look_without hr]
  · rw [if_neg (by omega), if_neg (by omega), if_neg (by omega)] at hd
    cases hf : ks.find? fun k => decide (k.1 = p.path) with
    | none => rw [hf] at hd; simp at hd
    | some f =>
      rw [hf] at hd
      simp only at hd
      obtain ⟨hm, hp⟩ := (find_one hr).1 hf
      split at hd
      · simp at hd
      rename_i hfd
      rw [if_neg (by omega)] at hd
      split at hd
      · rename_i hat
        obtain ⟨f1, f2, f3⟩ := f
        simp only at hp hfd hd hat
        subst hp
        have hf2 : f2 = false := by simpa [e] using hfd
        subst hf2
        obtain ⟨hck, rfl⟩ := ap_inv6 h hm rfl rfl hd
        have hl := (look_some hr).2 hm
        refine ⟨⟨fun h => by omega, fun h => by omega, fun h => by omega, fun _ => ⟨f3, hl, hat, hck⟩⟩, fun x => ?_⟩
        rw [look_with hr]
        unfold ef
        simp [e, hl]
      · simp at hd
  · rw [if_neg (by omega), if_neg (by omega), if_neg (by omega)] at hd
    cases hf : ks.find? fun k => decide (k.1 = p.path) with
    | none => rw [hf] at hd; simp at hd
    | some f =>
      rw [hf] at hd
      simp only at hd
      obtain ⟨hm, hp⟩ := (find_one hr).1 hf
      split at hd
      · simp at hd
      rename_i hfd
      rw [if_pos (by omega)] at hd
      split at hd
      · simp at hd
      rename_i hfl
      obtain ⟨f1, f2, f3⟩ := f
      simp only at hp hfd hfl
      subst hp
      have hf2 : f2 = decide (p.kind = 2) := by simpa using hfd
      have hf3 : f3 = [] := by simpa using hfl
      subst hf2; subst hf3
      obtain ⟨hch, rfl, _⟩ := ap_inv2 h hd
      have hl := (look_some hr).2 hm
      refine ⟨⟨fun h => by omega, fun _ => ⟨hl, fun hc2 => by rw [childin_iff hr, hch] at hc2; cases hc2⟩, fun h => by omega, fun h => by omega⟩, fun x => ?_⟩
      rw [look_without hr]
      unfold ef
      rcases e with e | e <;> simp [e]
theorem may_ap {ks : List PF} (h : Well ks) {p : Pk} (hc : ckP p = 0) (hm : May7 (look ks) p) : ∃ res, apP ks p = (0, res) := by
  obtain ⟨k1, k6, f5, fz, fn, fm, fh⟩ := ck_facts hc
  have hr := h.rise
  unfold apP
  rw [if_neg (by simpa using hc)]
  have hk : p.kind = 1 ∨ p.kind = 3 ∨ p.kind = 5 ∨ p.kind = 6 ∨ p.kind = 2 ∨ p.kind = 4 := by omega
  rcases hk with e | e | e | e | e
  · obtain ⟨a, b⟩ := hm.mkd (.inl e)
    rw [if_pos e, mk_ok fn (look_none.1 a) ((dirin_iff hr _).1 b)]
    exact ⟨_, rfl⟩
  · obtain ⟨a, b⟩ := hm.mkd (.inr e)
    rw [if_neg (by omega), if_pos e, if_neg, wr_ok h fn (look_none.1 a) ((dirin_iff hr _).1 b)]
    · exact ⟨_, rfl⟩
    · rw [find_no (look_none.1 a)]
      simp
  · obtain ⟨⟨ls, a⟩, b, c⟩ := hm.mv e
    rw [if_neg (by omega), if_neg (by omega), if_pos e]
    have := mv_ok h ((look_some hr).1 a) rfl (fm e).1 (look_none.1 b) ((dirin_iff hr _).1 c)
    simp only at this
    rw [this]
    exact ⟨_, rfl⟩
  · obtain ⟨ls, a, b, c⟩ := hm.hk e
    have hmem := (look_some hr).1 a
    rw [if_neg (by omega), if_neg (by omega), if_neg (by omega), (find_one hr).2 ⟨hmem, rfl⟩]
    simp only
    rw [if_neg (by simp [e]), if_neg (by omega), if_pos b, c]
    have := wr_over h hmem rfl (putL ls p.at_.toNat p.old p.new)
    simp only at this
    rw [this]
    exact ⟨_, rfl⟩
  · obtain ⟨a, b⟩ := hm.rm e
    have hmem := (look_some hr).1 a
    have hch : childK ks p.path = false := by
      cases hq : childK ks p.path with
      | false => rfl
      | true => exact absurd ((childin_iff hr _).2 hq) b
    rw [if_neg (by omega), if_neg (by omega), if_neg (by omega), (find_one hr).2 ⟨hmem, rfl⟩]
    simp only
    rw [if_neg (by simp), if_pos (by omega), if_neg (by simp)]
    have := rm_ok h hmem hch
    simp only at this
    rw [this]
    exact ⟨_, rfl⟩
end Go.Proofs.YtknommnlkdlkdaaGreatDoor
namespace Go.Proofs.YtknommnlkdlkdaaGreatDoor
open Go.RowKit
set_option linter.unusedVariables false

/-- A path lies within its directory. -/
theorem dir_in {x : List UInt8} (hx : names nameP x ≠ []) (hd : dirP nameP x ≠ []) : inDir x (dirP nameP x) = true := by
  have hlen : 0 < (names nameP x).length := List.length_pos_iff.2 hx
  rw [dir_is] at hd ⊢
  have h1 : 1 ≤ (names nameP x).length - 1 := by
    rcases Nat.lt_or_ge 0 ((names nameP x).length - 1) with h | h
    · exact h
    · exfalso
      have e : (names nameP x).length - 1 = 0 := by omega
      rw [e] at hd
      exact hd rfl
  have e := names_take (nm := nameP) (fun x hx => nameP_slash hx) (p := x) h1 (by omega)
  unfold inDir beginsP
  rw [e, List.length_take]
  simp only [Bool.and_eq_true, decide_eq_true_eq]
  refine ⟨by omega, by omega, ?_⟩
  rw [show min ((names nameP x).length - 1) (names nameP x).length = (names nameP x).length - 1 by omega]
/-- What a step other than a directory's touches is no directory, neither before it nor behind it. -/
theorem touch_file {m : Look} {p : Pk} (hc : ckP p = 0) (hm : May7 m p) (h3 : 2 < p.kind) {x : List UInt8} (h : x ∈ touches p) : (∀ ls, m x ≠ some (true, ls)) ∧ ∀ ls, ef m p x ≠ some (true, ls) := by
  obtain ⟨k1, k6, f5, fz, fn, fm, fh⟩ := ck_facts hc
  have hk : p.kind = 3 ∨ p.kind = 4 ∨ p.kind = 5 ∨ p.kind = 6 := by omega
  unfold touches at h
  rcases hk with e | e | e | e
  · simp [e] at h
    subst h
    have := (hm.mkd (.inr e)).1
    unfold ef
    simp [this, e]
  · simp [e] at h
    subst h
    have := (hm.rm (.inr e)).1
    unfold ef
    simp [this, e]
  · obtain ⟨⟨ls, a⟩, b, _⟩ := hm.mv e
    obtain ⟨_, hne⟩ := fm e
    rw [if_pos e] at h
    simp only [List.mem_cons, List.not_mem_nil, or_false] at h
    unfold ef
    rcases h with rfl | rfl
    · simp [a, e, hne]
    · simp [a, b, e]
  · obtain ⟨ls, a, _, _⟩ := hm.hk e
    simp [e] at h
    subst h
    unfold ef
    simp [a, e]
theorem dir_keep {m : Look} {p : Pk} (hc : ckP p = 0) (hm : May7 m p) {x : List UInt8} (hx : names nameP x ≠ []) (h2 : p.kind ≤ 2 → ∀ y ∈ touches p, inDir x y = false) : DirIn (ef m p) x ↔ DirIn m x := by
  unfold DirIn
  by_cases hd : dirP nameP x = []
  · simp [hd]
  by_cases ht : dirP nameP x ∈ touches p
  · have h3 : 2 < p.kind := by
      rcases Int.lt_or_le 2 p.kind with h | h
      · exact h
      · have := h2 h _ ht
        rw [dir_in hx hd] at this
        cases this
    obtain ⟨a, b⟩ := touch_file hc hm h3 ht
    constructor
    · rintro (e | ⟨ls, e⟩)
      · exact absurd e hd
      · exact absurd e (b ls)
    · rintro (e | ⟨ls, e⟩)
      · exact absurd e hd
      · exact absurd e (a ls)
  · rw [ef_out ht]
/-- Whether a step may be done hangs on what it touches, the directories there, and what lies in it. -/
theorem may_agree {m m2 : Look} {q : Pk} (h1 : ∀ x ∈ touches q, m2 x = m x) (h2 : ∀ x ∈ touches q, DirIn m x → DirIn m2 x) (h3 : q.kind = 2 ∨ q.kind = 4 → ChildIn m2 q.path → ChildIn m q.path) (hm : May7 m q) : May7 m2 q := by
  have hp := h1 _ (touch_path q)
  constructor
  · intro e
    obtain ⟨a, b⟩ := hm.mkd e
    exact ⟨by rw [hp, a], h2 _ (touch_path q) b⟩
  · intro e
    obtain ⟨a, b⟩ := hm.rm e
    exact ⟨by rw [hp, a], fun hc => b (h3 e hc)⟩
  · intro e
    obtain ⟨⟨ls, a⟩, b, c⟩ := hm.mv e
    exact ⟨⟨ls, by rw [hp, a]⟩, by rw [h1 _ (touch_dst e), b], h2 _ (touch_dst e) c⟩
  · intro e
    obtain ⟨ls, a, b⟩ := hm.hk e
    exact ⟨ls, by rw [hp, a], b⟩
/-- All lies in directories. -/
def Up (m : Look) : Prop := ∀ c v, m c = some v → names nameP c ≠ [] ∧ DirIn m c
theorem up_well {ks : List PF} (h : Well ks) : Up (look ks) := fun c v e => by
  have hm := (look_some h.rise).1 e
  refine ⟨h.paths _ hm, ?_⟩
  rcases h.up _ hm with e2 | ⟨⟨d1, d2, d3⟩, hd, e2, e3⟩
  · exact .inl e2
  · simp only at e2 e3
    subst e2; subst e3
    exact .inr ⟨d3, (look_some h.rise).2 hd⟩
/-- Nothing lies in a file. -/
theorem up_file {m : Look} (h : Up m) {x : List UInt8} (hx : names nameP x ≠ []) {ls : List (List UInt8)} (hf : m x = some (false, ls)) : ¬ ChildIn m x := by
  rintro ⟨c, v, e, hd⟩
  obtain ⟨_, h2⟩ := h c v e
  unfold DirIn at h2
  rw [hd] at h2
  rcases h2 with e2 | ⟨l2, e2⟩
  · exact names_ne hx e2
  · rw [hf] at e2
    cases e2

/-- The second one may be done ahead of the first one. -/
theorem apart_ahead {m : Look} {p q : Pk} (hu : Up m) (hcp : ckP p = 0) (hcq : ckP q = 0) (hp : May7 m p) (hq : May7 (ef m p) q) (ha : apartP p q = true) : May7 m q := by
  rw [apart_iff] at ha
  have hout : ∀ x ∈ touches q, x ∉ touches p := fun x hx hx2 => (ha x hx2 x hx).1 rfl
  refine may_agree (fun x hx => (ef_out (hout x hx)).symm) (fun x hx => (dir_keep hcp hp (touch_names hcq hx) fun h2 y hy => (ha y hy x hx).2.1 h2).1) ?_ hq
  intro e hch
  have hqp := hout _ (touch_path q)
  have hxn := touch_names hcq (touch_path q)
  rcases e with e | e
  · obtain ⟨c, v, hcv, hd⟩ := hch
    by_cases ht : c ∈ touches p
    · exfalso
      have hcn := touch_names hcp ht
      have := dir_in hcn (by rw [hd]; exact names_ne hxn)
      rw [hd, (ha c ht _ (touch_path q)).2.2 (by omega)] at this
      cases this
    · exact ⟨c, v, by rw [ef_out ht]; exact hcv, hd⟩
  · exfalso
    have h1 := (hq.rm (.inr e)).1
    rw [ef_out hqp] at h1
    exact up_file hu hxn (ls := []) (by rw [h1]; simp [e]) hch
/-- The first one may be done behind the second one. -/
theorem apart_behind {m : Look} {p q : Pk} (hu : Up (ef m q)) (hcp : ckP p = 0) (hcq : ckP q = 0) (hp : May7 m p) (hq : May7 m q) (ha : apartP p q = true) : May7 (ef m q) p := by
  rw [apart_iff] at ha
  have hout : ∀ x ∈ touches p, x ∉ touches q := fun x hx hx2 => (ha x hx x hx2).1 rfl
  refine may_agree (fun x hx => ef_out (hout x hx)) (fun x hx => (dir_keep hcq hq (touch_names hcp hx) fun h2 y hy => (ha x hx y hy).2.2 h2).2) ?_ hp
  intro e hch
  have hpq := hout _ (touch_path p)
  have hxn := touch_names hcp (touch_path p)
  rcases e with e | e
  · obtain ⟨c, v, hcv, hd⟩ := hch
    by_cases ht : c ∈ touches q
    · exfalso
      have hcn := touch_names hcq ht
      have := dir_in hcn (by rw [hd]; exact names_ne hxn)
      rw [hd, (ha _ (touch_path p) c ht).2.1 (by omega)] at this
      cases this
    · exact ⟨c, v, by rw [ef_out ht] at hcv; exact hcv, hd⟩
  · exfalso
    have h1 := (hp.rm (.inr e)).1
    exact up_file hu hxn (ls := []) (by rw [ef_out hpq, h1]; simp [e]) hch
/-- Both orders come to the same. -/
theorem apart_same {m : Look} {p q : Pk} (ha : apartP p q = true) (x : List UInt8) : ef (ef m p) q x = ef (ef m q) p x := by
  rw [apart_iff] at ha
  have h1 : ∀ x ∈ touches q, x ∉ touches p := fun x hx hx2 => (ha x hx2 x hx).1 rfl
  have h2 : ∀ x ∈ touches p, x ∉ touches q := fun x hx hx2 => (ha x hx x hx2).1 rfl
  by_cases hp : x ∈ touches p
  · rw [ef_out (h2 x hp), ef_in (m := m) (m2 := ef m q) (fun y hy => ef_out (h2 y hy)) hp]
  · by_cases hq : x ∈ touches q
    · rw [ef_out hp, ef_in (m := m) (m2 := ef m p) (fun y hy => ef_out (h1 y hy)) hq]
    · rw [ef_out hp, ef_out hq, ef_out hq, ef_out hp]
/-- Two steps that are apart, done one behind the other, are done the other way round, too, and come to the same. -/
theorem apart_swap {ks js is : List PF} (h : Well ks) {p q : Pk} (hcp : ckP p = 0) (hcq : ckP q = 0) (h1 : apP ks p = (0, js)) (h2 : apP js q = (0, is)) (ha : apartP p q = true) : ∃ js2, apP ks q = (0, js2) ∧ apP js2 p = (0, is) := by
  have hj := ap_well h h1
  obtain ⟨mp, ep⟩ := ap_may h hcp h1
  obtain ⟨mq, eq⟩ := ap_may hj hcq h2
  have ej : look js = ef (look ks) p := funext ep
  rw [ej] at mq eq
  have mq0 := apart_ahead (up_well h) hcp hcq mp mq ha
  obtain ⟨js2, h3⟩ := may_ap h hcq mq0
  have hj2 := ap_well h h3
  obtain ⟨_, eq2⟩ := ap_may h hcq h3
  have ej2 : look js2 = ef (look ks) q := funext eq2
  have mp2 : May7 (look js2) p := by
    rw [ej2]
    refine apart_behind ?_ hcp hcq mp mq0 ha
    rw [← ej2]
    exact up_well hj2
  obtain ⟨is2, h4⟩ := may_ap hj2 hcp mp2
  obtain ⟨_, ep2⟩ := ap_may hj2 hcp h4
  refine ⟨js2, h3, ?_⟩
  rw [h4]
  congr 1
  refine look_ext (ap_well hj2 h4).rise (ap_well hj h2).rise fun x => ?_
  rw [ep2, eq, ej2]
  exact (apart_same ha x).symm
end Go.Proofs.YtknommnlkdlkdaaGreatDoor
