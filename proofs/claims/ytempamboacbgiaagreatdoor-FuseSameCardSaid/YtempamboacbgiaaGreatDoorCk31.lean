/- Two steps that are apart change places, plainly. Two steps that were done one behind the other, done the other way round, plainly; three hunks. Two hunks that touch become one, plainly. Steps that become one come to the same tree, plainly. Package diff's stands: are a hunk's old lines where it says? Package diff's Size, sameHunk and Same. -/
import Derived.Test.YtempamboacbgiaaGreatDoorCk30
import Derived.Test.YtempamboacbgiaaGreatDoorCk03
import Derived.Test.YtempamboacbgiaaGreatDoorCk05
import Derived.Test.YtempamboacbgiaaGreatDoorCk07
namespace Go.Proofs.YtempamboacbgiaaGreatDoor
open Go.RowKit
set_option linter.unusedVariables false

/-- A path lies within its directory. -/
theorem dir_in {x : List UInt8} (hx : names nameP x ≠ []) (hd : dirP nameP x ≠ []) : inDir x (dirP nameP x) = true := by
  have hlen : 0 < (names nameP x).length := List.length_pos_iff.2 hx
  rw [dir_is] at hd ⊢
  have h1 : 1 ≤ (names nameP x).length - 1 := by
    rcases Nat.lt_or_ge 0 ((names nameP x).length - 1) with h | h
    · exact h
    · exfalso
      have e : (names nameP x).length - 1 = 0 := by omega
      rw [e] at hd
      exact hd rfl
  have e := names_take (nm := nameP) (fun x hx => nameP_slash hx) (p := x) h1 (by omega)
  unfold inDir beginsP
  rw [e, List.length_take]
  simp only [Bool.and_eq_true, decide_eq_true_eq]
  refine ⟨by omega, by omega, ?_⟩
  rw [show min ((names nameP x).length - 1) (names nameP x).length = (names nameP x).length - 1 by omega]
/-- What a step other than a directory's touches is no directory, neither before it nor behind it. -/
theorem touch_file {m : Look} {p : Pk} (hc : ckP p = 0) (hm : May7 m p) (h3 : 2 < p.kind) {x : List UInt8} (h : x ∈ touches p) : (∀ ls, m x ≠ some (true, ls)) ∧ ∀ ls, ef m p x ≠ some (true, ls) := by
  obtain ⟨k1, k6, f5, fz, fn, fm, fh⟩ := ck_facts hc
  have hk : p.kind = 3 ∨ p.kind = 4 ∨ p.kind = 5 ∨ p.kind = 6 := by omega
  unfold touches at h
  rcases hk with e | e | e | e
  · simp [e] at h
    subst h
    have := (hm.mkd (.inr e)).1
    unfold ef
    simp [this, e]
  · simp [e] at h
    subst h
    have := (hm.rm (.inr e)).1
    unfold ef
    simp [this, e]
  · obtain ⟨⟨ls, a⟩, b, _⟩ := hm.mv e
    obtain ⟨_, hne⟩ := fm e
    rw [if_pos e] at h
    simp only [List.mem_cons, List.not_mem_nil, or_false] at h
    unfold ef
    rcases h with rfl | rfl
    · simp [a, e, hne]
    · simp [a, b, e]
  · obtain ⟨ls, a, _, _⟩ := hm.hk e
    simp [e] at h
    subst h
    unfold ef
    simp [a, e]
theorem dir_keep {m : Look} {p : Pk} (hc : ckP p = 0) (hm : May7 m p) {x : List UInt8} (hx : names nameP x ≠ []) (h2 : p.kind ≤ 2 → ∀ y ∈ touches p, inDir x y = false) : DirIn (ef m p) x ↔ DirIn m x := by
  unfold DirIn
  by_cases hd : dirP nameP x = []
  · simp [hd]
  by_cases ht : dirP nameP x ∈ touches p
  · have h3 : 2 < p.kind := by
      rcases Int.lt_or_le 2 p.kind with h | h
      · exact h
      · have := h2 h _ ht
        rw [dir_in hx hd] at this
        cases this
    obtain ⟨a, b⟩ := touch_file hc hm h3 ht
    constructor
    · rintro (e | ⟨ls, e⟩)
      · exact absurd e hd
      · exact absurd e (b ls)
    · rintro (e | ⟨ls, e⟩)
      · exact absurd e hd
      · exact absurd e (a ls)
  · rw [ef_out ht]
/-- All lies in directories. -/
def Up (m : Look) : Prop := ∀ c v, m c = some v → names nameP c ≠ [] ∧ DirIn m c
end Go.Proofs.YtempamboacbgiaaGreatDoor
namespace Go.Proofs.YtempamboacbgiaaGreatDoor
open Go.RowKit
set_option linter.unusedVariables false

theorem ef_six {m : Look} {p : Pk} (h6 : p.kind = 6) {ls : List (List UInt8)} (h : m p.path = some (false, ls)) (x : List UInt8) : ef m p x = if x = p.path then some (false, putL ls p.at_.toNat p.old p.new) else m x := by
  unfold ef
  rw [if_neg (by omega)]
  simp [h6, h]
theorem ef_five {m : Look} {p : Pk} (h5 : p.kind = 5) (x : List UInt8) : ef m p x = if x = p.dst then m p.path else if x = p.path then none else m x := by
  unfold ef
  rw [if_pos h5]
theorem may_six {m : Look} {p : Pk} (h6 : p.kind = 6) {ls : List (List UInt8)} (h : m p.path = some (false, ls)) (ha : atB ls p.old p.at_ = true) (hc : checkN (toBs (putL ls p.at_.toNat p.old p.new)) = 0) : May7 m p :=
  ⟨fun e => by omega, fun e => by omega, fun e => by omega, fun _ => ⟨ls, h, ha, hc⟩⟩
end Go.Proofs.YtempamboacbgiaaGreatDoor
namespace Go.Proofs.YtempamboacbgiaaGreatDoor
open Go.RowKit
set_option linter.unusedVariables false

theorem drop_two {α : Type} (a b : List α) (n : Nat) : (a ++ b).drop n = a.drop n ++ b.drop (n - a.length) := List.drop_append
/-- Both done, or the one that does what both do: the same lines. -/
theorem fuse_lines {ls o1 n1 o2 n2 : List (List UInt8)} {k1 k2 : Int} (h1 : atB ls o1 k1 = true) (h2 : atB (putL ls k1.toNat o1 n1) o2 k2 = true) (t1 : k2 ≤ k1 + n1.length) (t2 : k1 ≤ k2 + o2.length) :
    atB ls (o2.take (k1 - k2).toNat ++ o1 ++ o2.drop (k1 + n1.length - k2).toNat) (min k1 k2) = true ∧
    putL ls (min k1 k2).toNat (o2.take (k1 - k2).toNat ++ o1 ++ o2.drop (k1 + n1.length - k2).toNat) (n1.take (k2 - k1).toNat ++ n2 ++ n1.drop (k2 + o2.length - k1).toNat) = putL (putL ls k1.toNat o1 n1) k2.toNat o2 n2 := by
  obtain ⟨a0, a1, a2⟩ := putL_parts h1
  generalize hpre : ls.take k1.toNat = pre at a2
  generalize hpost : ls.drop (k1.toNat + o1.length) = post at a2
  have hk1 : pre.length = k1.toNat := by rw [← hpre, List.length_take]; omega
  have e1 : putL ls k1.toNat o1 n1 = pre ++ n1 ++ post := by rw [a2, ← hk1]; exact putL_mk pre o1 n1 post
  rw [e1] at h2 ⊢
  obtain ⟨b0, b1, b2⟩ := putL_parts h2
  generalize ho : o2.length = o at *
  have h4 : o2 = ((pre ++ n1 ++ post).drop k2.toNat).take o := by
    have hl : ((pre ++ n1 ++ post).take k2.toNat).length = k2.toNat := by rw [List.length_take]; omega
    have h5 : (pre ++ n1 ++ post).drop k2.toNat = o2 ++ (pre ++ n1 ++ post).drop (k2.toNat + o) := by
      rw [← ho, ← List.drop_drop]
      unfold atB at h2
      rw [Bool.and_eq_true, Bool.and_eq_true, decide_eq_true_eq, decide_eq_true_eq, decide_eq_true_eq] at h2
      have h6 := h2.2
      conv => lhs; rw [← List.take_append_drop o2.length ((pre ++ n1 ++ post).drop k2.toNat), h6]
    rw [h5, ← ho, List.take_left]
  have hp2 : putL (pre ++ n1 ++ post) k2.toNat o2 n2 = (pre ++ n1 ++ post).take k2.toNat ++ n2 ++ (pre ++ n1 ++ post).drop (k2.toNat + o) := by unfold putL; rw [ho]
  rw [hp2]
  clear hp2 h1 h2 b2 e1
  by_cases hc : k2 ≤ k1
  · -- pre = A ++ B
    generalize hA : pre.take k2.toNat = A
    generalize hB : pre.drop k2.toNat = B
    have hAB : pre = A ++ B := by rw [← hA, ← hB, List.take_append_drop]
    have lA : A.length = k2.toNat := by rw [← hA, List.length_take]; omega
    have lB : B.length = (k1 - k2).toNat := by rw [← hB, List.length_drop]; omega
    rw [hAB] at h4 a2 ⊢
    have d1 : (A ++ B ++ n1 ++ post).drop k2.toNat = B ++ n1 ++ post := by rw [← lA, List.append_assoc, List.append_assoc, List.drop_left, ← List.append_assoc]
    rw [d1] at h4
    have f1 : o2.take (k1 - k2).toNat = B := by
      rw [h4, List.take_take, ← lB, List.append_assoc, Nat.min_eq_left (by omega), List.take_left]
    have f2 : o2.drop (k1 + n1.length - k2).toNat = post.take (o - (B.length + n1.length)) := by
      have e : (k1 + n1.length - k2).toNat = (B ++ n1).length := by rw [List.length_append]; omega
      rw [h4, e, List.drop_take, List.drop_left, List.length_append]
    rw [f1, f2, show (k2 - k1).toNat = 0 by omega, List.take_zero, List.nil_append, show min k1 k2 = k2 by omega]
    generalize hk : o - (B.length + n1.length) = k
    have f3 : ls = A ++ (B ++ o1 ++ post.take k) ++ post.drop k := by
      rw [a2]
      simp only [List.append_assoc, List.take_append_drop]
    have f4 : (A ++ B ++ n1 ++ post).take k2.toNat = A := by rw [← lA, List.append_assoc, List.append_assoc, List.take_left]
    have f5 : (A ++ B ++ n1 ++ post).drop (k2.toNat + o) = n1.drop (k2 + o - k1).toNat ++ post.drop k := by
      rw [← List.drop_drop, d1, List.append_assoc, drop_two, drop_two, List.drop_eq_nil_of_le (by omega), List.nil_append, show o - B.length = (k2 + o - k1).toNat by omega, show (k2 + o - k1).toNat - n1.length = k by omega]
    rw [f4, f5, f3]
    refine ⟨atB_mk b0 lA, ?_⟩
    rw [← lA, putL_mk]
    simp only [List.append_assoc]
  · -- n1 = C ++ D
    generalize hC : n1.take (k2 - k1).toNat = C
    generalize hD : n1.drop (k2 - k1).toNat = D
    have hCD : n1 = C ++ D := by rw [← hC, ← hD, List.take_append_drop]
    have lC : C.length = (k2 - k1).toNat := by rw [← hC, List.length_take]; omega
    have lD : D.length = (k1 + n1.length - k2).toNat := by rw [← hD, List.length_drop]; omega
    have lPC : (pre ++ C).length = k2.toNat := by rw [List.length_append]; omega
    have d0 : pre ++ n1 ++ post = (pre ++ C) ++ (D ++ post) := by rw [hCD]; simp only [List.append_assoc]
    have d1 : (pre ++ n1 ++ post).drop k2.toNat = D ++ post := by rw [d0, ← lPC, List.drop_left]
    rw [d1] at h4
    have f2 : o2.drop (k1 + n1.length - k2).toNat = post.take (o - D.length) := by
      rw [h4, ← lD, List.drop_take, List.drop_left]
    rw [f2, show (k1 - k2).toNat = 0 by omega, List.take_zero, List.nil_append, show min k1 k2 = k1 by omega]
    generalize hk : o - D.length = k
    have f3 : ls = pre ++ (o1 ++ post.take k) ++ post.drop k := by
      rw [a2]
      simp only [List.append_assoc, List.take_append_drop]
    have f4 : (pre ++ n1 ++ post).take k2.toNat = pre ++ C := by rw [d0, ← lPC, List.take_left]
    have f5 : (pre ++ n1 ++ post).drop (k2.toNat + o) = n1.drop (k2 + o - k1).toNat ++ post.drop k := by
      rw [← List.drop_drop, d1, drop_two, ← hD, List.drop_drop, show (k2 - k1).toNat + o = (k2 + o - k1).toNat by omega, hD, hk]
    rw [f4, f5, f3]
    refine ⟨atB_mk a0 hk1, ?_⟩
    rw [← hk1, putL_mk]
    simp only [List.append_assoc]
end Go.Proofs.YtempamboacbgiaaGreatDoor
namespace Go.Proofs.YtempamboacbgiaaGreatDoor
open Go.RowKit
set_option linter.unusedVariables false

theorem check_mid {a b c : List (List UInt8)} (h : checkN (toBs (a ++ b ++ c)) = 0) : checkN (toBs b) = 0 := by
  rw [check_iff] at h ⊢
  refine ⟨?_, fun x hx => h.2 x (by simp [hx])⟩
  have := h.1
  simp only [List.length_append] at this
  omega
theorem ck_of_ap {ks res : List PF} {p : Pk} (h : apP ks p = (0, res)) : ckP p = 0 := by
  unfold apP at h
  split at h
  · exact (Prod.mk.inj h).1
  · rename_i hc
    simpa using hc
theorem ck_hunk {path : List UInt8} {at_ : Int} {old new : List (List UInt8)} (hp : names nameP path ≠ []) (h0 : 0 ≤ at_) (hl : 0 < old.length + new.length) (ho : checkN (toBs old) = 0) (hn : checkN (toBs new) = 0) : ckP ⟨6, path, [], at_, old, new⟩ = 0 := by
  unfold ckP
  simp only
  rw [if_neg (by simp), if_neg (by simp [hp]), if_neg (by simp only [not_and, not_or]; intro _; exact ⟨by omega, by omega, by simpa using ho, by simpa using hn⟩)]
/-- Two hunks of one file that touch. -/
theorem fuse_six {ks js is : List PF} (h : Well ks) {p q : Pk} (h6 : p.kind = 6) (k6 : q.kind = 6) (e : p.path = q.path) (t1 : q.at_ ≤ p.at_ + p.new.length) (t2 : p.at_ ≤ q.at_ + q.old.length) (h1 : apP ks p = (0, js)) (h2 : apP js q = (0, is)) :
    (fuseOld p q = fuseNew p q → is = ks) ∧ (0 < (fuseOld p q).length + (fuseNew p q).length → apP ks (fuseH p q) = (0, is)) := by
  have hcp := ck_of_ap h1
  have hcq := ck_of_ap h2
  have hj := ap_well h h1
  obtain ⟨mp, ep⟩ := ap_may h hcp h1
  obtain ⟨mq, eq⟩ := ap_may hj hcq h2
  have ej : look js = ef (look ks) p := funext ep
  rw [ej] at mq eq
  obtain ⟨ls, l1, l2, l3⟩ := mp.hk h6
  obtain ⟨ls2, g1, g2, g3⟩ := mq.hk k6
  have g1' := g1
  rw [ef_six h6 l1, if_pos e.symm] at g1
  cases g1
  obtain ⟨f1, f2⟩ := fuse_lines (n2 := q.new) l2 g2 t1 t2
  have hend : ∀ x, look is x = if x = p.path then some (false, putL (putL ls p.at_.toNat p.old p.new) q.at_.toNat q.old q.new) else look ks x := by
    intro x
    rw [eq, ef_six k6 g1', ef_six h6 l1, e]
    by_cases hx : x = q.path <;> simp [hx]
  constructor
  · intro he
    refine look_ext (ap_well hj h2).rise h.rise fun x => ?_
    rw [hend x]
    by_cases hx : x = p.path
    · rw [if_pos hx, hx, l1]
      congr 2
      rw [← f2]
      have : putL ls (min p.at_ q.at_).toNat (fuseOld p q) (fuseNew p q) = ls := by
        rw [← he]
        obtain ⟨c0, c1, c2⟩ := putL_parts f1
        exact c2.symm
      exact this
    · rw [if_neg hx]
  · intro hl
    have hw : checkN (toBs ls) = 0 := h.lines _ ((look_some h.rise).1 l1)
    have c1 : checkN (toBs (fuseOld p q)) = 0 := by
      obtain ⟨_, _, c2⟩ := putL_parts f1
      rw [c2] at hw
      exact check_mid hw
    have c2 : checkN (toBs (fuseNew p q)) = 0 := by
      rw [← f2] at g3
      unfold putL at g3
      exact check_mid g3
    have ck : ckP (fuseH p q) = 0 := ck_hunk (ck_facts hcp).2.2.2.2.1 (by have := (ck_nums hcp h6).1; have := (ck_nums hcq k6).1; omega) hl c1 c2
    have mh : May7 (look ks) (fuseH p q) := may_six rfl (show look ks (fuseH p q).path = _ from l1) f1 (by show checkN (toBs (putL ls (min p.at_ q.at_).toNat (fuseOld p q) (fuseNew p q))) = 0; unfold fuseOld fuseNew; rw [f2]; exact g3)
    obtain ⟨is2, r1⟩ := may_ap h ck mh
    obtain ⟨_, r2⟩ := ap_may h ck r1
    rw [r1]
    congr 1
    refine look_ext (ap_well h r1).rise (ap_well hj h2).rise fun x => ?_
    rw [r2, hend x, ef_six (p := fuseH p q) rfl (show look ks (fuseH p q).path = _ from l1)]
    show (if x = p.path then some (false, putL ls (min p.at_ q.at_).toNat (fuseOld p q) (fuseNew p q)) else look ks x) = _
    unfold fuseOld fuseNew
    rw [f2]
/-- Two moves, one behind the other. -/
theorem fuse_five {ks js is : List PF} (h : Well ks) {p q : Pk} (h5 : p.kind = 5) (k5 : q.kind = 5) (e : q.path = p.dst) (hne : p.path ≠ q.dst) (h1 : apP ks p = (0, js)) (h2 : apP js q = (0, is)) : apP ks ⟨5, p.path, q.dst, 0, [], []⟩ = (0, is) := by
  have hcp := ck_of_ap h1
  have hcq := ck_of_ap h2
  have hj := ap_well h h1
  obtain ⟨mp, ep⟩ := ap_may h hcp h1
  obtain ⟨mq, eq⟩ := ap_may hj hcq h2
  have ej : look js = ef (look ks) p := funext ep
  rw [ej] at mq eq
  obtain ⟨⟨ls, l1⟩, l2, l3⟩ := mp.mv h5
  obtain ⟨⟨ls2, g1⟩, g2, g3⟩ := mq.mv k5
  obtain ⟨_, hn1⟩ := (ck_facts hcp).2.2.2.2.2.1 h5
  obtain ⟨hqn, hn2⟩ := (ck_facts hcq).2.2.2.2.2.1 k5
  have hd : q.dst ≠ p.dst := fun e2 => hn2 (by rw [e, e2])
  have ck : ckP ⟨5, p.path, q.dst, 0, [], []⟩ = 0 := by
    unfold ckP
    simp only
    rw [if_neg (by simp), if_neg (by simp [(ck_facts hcp).2.2.2.2.1, hqn, hne]), if_neg (by simp)]
  have mm : May7 (look ks) ⟨5, p.path, q.dst, 0, [], []⟩ := by
    refine ⟨fun e => by simp at e, fun e => by simp at e, fun _ => ⟨⟨ls, l1⟩, ?_, ?_⟩, fun e => by simp at e⟩
    · rw [ef_five h5, if_neg hd, if_neg (fun e2 => hne e2.symm)] at g2
      exact g2
    · exact (dir_keep hcp mp hqn (fun hk => by omega)).1 g3
  obtain ⟨is2, r1⟩ := may_ap h ck mm
  obtain ⟨_, r2⟩ := ap_may h ck r1
  rw [r1]
  congr 1
  refine look_ext (ap_well h r1).rise (ap_well hj h2).rise fun x => ?_
  rw [r2, eq, ef_five rfl, ef_five k5, ef_five h5, ef_five h5, e, if_pos rfl]
  by_cases h3 : x = q.dst
  · simp [h3]
  · by_cases h4 : x = p.dst
    · subst h4
      simp [h3, l2]
    · simp [h3, h4]

theorem fuse_same {ks js is : List PF} (h : Well ks) {p q : Pk} {l : List Pk} (hf : fuseP p q = some l) (h1 : apP ks p = (0, js)) (h2 : apP js q = (0, is)) : apAll ks l = (0, is) := by
  unfold fuseP at hf
  split at hf
  · cases hf
  rename_i hck
  split at hf
  · rename_i hi
    cases hf
    have := ap_inv h h1
    rw [hi.2.2.2, h2] at this
    have e := (Prod.mk.inj this).2
    subst e
    rfl
  rename_i hni
  split at hf
  · rename_i h5
    cases hf
    have hne : p.path ≠ q.dst := by
      intro e
      refine hni ⟨by omega, by omega, by omega, ?_⟩
      have b1 := (ck_facts (ck_of_ap h1)).2.2.2.1 (by omega)
      have b2 := (ck_facts (ck_of_ap h2)).2.2.2.1 (by omega)
      cases p; cases q
      simp only at b1 b2 e h5
      obtain ⟨rfl, rfl, rfl⟩ := h5
      obtain ⟨rfl, rfl, rfl⟩ := b1
      obtain ⟨rfl, rfl, rfl⟩ := b2
      subst e
      simp [invP, kindP]
    have := fuse_five h h5.1 h5.2.1 h5.2.2 hne h1 h2
    simp [apAll, this]
  · cases hh : hunksP p q with
    | none => rw [hh] at hf; cases hf
    | some u =>
      rw [hh] at hf
      unfold hunksP at hh
      split at hh
      · rename_i ht
        cases hh
        unfold touchP at ht
        rw [decide_eq_true_eq] at ht
        obtain ⟨⟨_, _, k1, k2, k3, k4, k5⟩, _⟩ := ht
        obtain ⟨r1, r2⟩ := fuse_six h k1 k2 k3 k4 k5 h1 h2
        simp only at hf
        split at hf
        · rename_i he
          cases hf
          have := r1 he
          subst this
          rfl
        · rename_i he
          cases hf
          have hl : 0 < (fuseOld p q).length + (fuseNew p q).length := by
            rcases Nat.eq_zero_or_pos ((fuseOld p q).length + (fuseNew p q).length) with h0 | h0
            · exfalso
              apply he
              show fuseOld p q = fuseNew p q
              rw [List.length_eq_zero_iff.1 (show (fuseOld p q).length = 0 by omega), List.length_eq_zero_iff.1 (show (fuseNew p q).length = 0 by omega)]
            · exact h0
          have := r2 hl
          simp [apAll, this]
      · cases hh
theorem apAll_split {ks res : List PF} {a b : List Pk} (h : apAll ks (a ++ b) = (0, res)) : ∃ js, apAll ks a = (0, js) ∧ apAll js b = (0, res) := by
  rw [apAll_app] at h
  split at h
  · rename_i h1
    exact ⟨(apAll ks a).2, Prod.ext h1 rfl, h⟩
  · rename_i h1
    exact absurd (Prod.mk.inj h).1 h1
theorem apAll_join {ks js res : List PF} {a b : List Pk} (h1 : apAll ks a = (0, js)) (h2 : apAll js b = (0, res)) : apAll ks (a ++ b) = (0, res) := by
  rw [apAll_app, h1, if_pos rfl, h2]
theorem apAll_one {ks res : List PF} {p : Pk} : apAll ks [p] = (0, res) ↔ apP ks p = (0, res) := by
  constructor
  · intro h
    unfold apAll at h
    split at h
    · rename_i h1
      unfold apAll at h
      exact Prod.ext h1 (Prod.mk.inj h).2
    · rename_i h1
      exact absurd (Prod.mk.inj h).1 h1
  · intro h
    simp [apAll, h]
theorem push_same {ks res : List PF} (h : Well ks) : ∀ (st : List Pk) (x : Pk), apAll ks (st.reverse ++ [x]) = (0, res) → apAll ks (pushP st x).reverse = (0, res)
  | [], x, hd => hd
  | y :: st, x, hd => by
    unfold pushP
    cases hf : fuseP y x with
    | none => simpa using hd
    | some l =>
      rw [List.reverse_cons, List.append_assoc] at hd
      obtain ⟨js, d1, d2⟩ := apAll_split hd
      obtain ⟨ms, d3, d4⟩ := apAll_split (a := [y]) (b := [x]) d2
      have hs := fuse_same (apAll_well h d1) hf (apAll_one.1 d3) (apAll_one.1 d4)
      rcases fuse_one hf with rfl | ⟨z, rfl⟩
      · have e : js = res := (Prod.mk.inj hs).2
        subst e
        exact d1
      · exact push_same h st z (apAll_join d1 hs)
theorem fold_same {ks res : List PF} (h : Well ks) : ∀ (s st : List Pk), apAll ks (st.reverse ++ s) = (0, res) → apAll ks (s.foldl pushP st).reverse = (0, res)
  | [], st, hd => by simpa using hd
  | x :: s, st, hd => by
    have e : st.reverse ++ x :: s = (st.reverse ++ [x]) ++ s := by simp
    rw [e] at hd
    obtain ⟨js, d1, d2⟩ := apAll_split hd
    exact fold_same h s (pushP st x) (apAll_join (push_same h st x d1) d2)
/-- What steps become comes to the same tree as they do. -/
theorem fuseall_same {ks res : List PF} (h : Well ks) {s : List Pk} (hd : apAll ks s = (0, res)) : apAll ks (fuseAllP s) = (0, res) := fold_same h s [] (by simpa using hd)
end Go.Proofs.YtempamboacbgiaaGreatDoor
namespace Go.Proofs.YtempamboacbgiaaGreatDoor
open Go.RowKit
set_option linter.unusedVariables false

set_option maxHeartbeats 1000000 in
set_option maxRecDepth 100000 in
theorem stands_any (A : Option Addr) (la : List (List UInt8)) (cap : Nat) (h : Hm) (w : World) (d : Bool) (hd : d = atB la h.old h.at_) (hA : Strs w w.heap.size A (toBs la)) (hR : Room A la.length cap) (ok : h.Ok w w.heap.size) (h0 : 0 ≤ h.at_) (hn : la.length ≤ 1000000) (hn2 : h.old.length ≤ 1000000) :
    Calls Tryz.prog 129 #[.slice A la.length cap, .agg #[.int .i64 h.at_, .slice h.a1 h.old.length h.c1, .slice h.a2 h.new.length h.c2]] w fun e w' => e = .returned (.bool d) ∧ Below w.heap.size w w' := by
  have hb1 : Below w.heap.size w (w.alloc (.cells #[.int .i64 h.at_, .slice h.a1 h.old.length h.c1, .slice h.a2 h.new.length h.c2] 61)) := (Below.refl _ _).alloc (Nat.le_refl _) _
  have c0 := HunkAt.new_ w h
  have a0 := c0.c0
  have a1 := c0.c1
  have a2 := c0.c2
  have ok1 := ok.on hb1
  have hA1 := hA.on hb1
  have hi := ok.hi
  by_cases hle : h.at_ ≤ (la.length : Int) - (h.old.length : Int)
  · obtain ⟨k, hk⟩ : ∃ k : Nat, h.at_ = (k : Int) := ⟨h.at_.toNat, by omega⟩
    have hkl : k + h.old.length ≤ la.length := by omega
    obtain ⟨A', cap', ld, e1, p1, r1⟩ := part_mid A la cap k (k + h.old.length) hR (by omega) hkl
    have hld : ld.length = h.old.length := by rw [e1, List.length_take, List.length_drop]; omega
    rw [show k + h.old.length - k = h.old.length by omega] at e1
    have hdd : d = decide (ld = h.old) := by
      rw [hd, hk, e1]
      unfold atB
      simp only [Int.toNat_natCast]
      have t1 : decide ((0 : Int) ≤ (k : Int)) = true := by simp
      have t2 : decide ((k : Int) + (h.old.length : Int) ≤ (la.length : Int)) = true := by simp; omega
      simp only [show (h.old.length : Int) ≤ (la.length : Int) - (k : Int) by omega]
      simp
    have CO0 := lsame_qq A' h.a1 ld h.old cap' h.c1 _ d hdd.symm (p1.strs _ _ hA1) ok1.old (by omega) hn2
    rw [hld] at CO0
    have CO := Lib.hid CO0
    clear CO0
    have HB := Lib.hid hb1
    rw [hk] at a0 hle CO HB ⊢
    have i2 : IntKind.i64.wrap ((la.length : Int) - (h.old.length : Int)) = (la.length : Int) - (h.old.length : Int) := IntWalk.i64_in _ (by omega)
    have q1 : decide ((k : Int) ≤ (la.length : Int) - (h.old.length : Int)) = true := by rw [decide_eq_true_eq]; exact hle
    have i1 : IntKind.i64.wrap ((k : Int) + (h.old.length : Int)) = (k : Int) + (h.old.length : Int) := IntWalk.i64_in _ (by omega)
    have r2 : ∀ w, (Instr.slice 36 (.slice A la.length cap) (some (.int .i64 (k : Int))) (some (.int .i64 ((k : Int) + (h.old.length : Int)))) none).run Tryz.prog w = .ok (.slice A' h.old.length cap') w := by
      intro w
      have := r1 w
      rw [hld] at this
      rwa [show ((k + h.old.length : Nat) : Int) = (k : Int) + (h.old.length : Int) by omega] at this
    clear r1 e1 p1 hdd hd hld c0 ok ok1 hA hA1 hb1 hR hk h0 hi
    generalize h.old = o at *
    generalize h.new = e at *
    generalize h.a1 = x1 at *
    generalize h.a2 = x2 at *
    generalize h.c1 = x3 at *
    generalize h.c2 = x4 at *
    go_enter Tryz.func129, Tryz.ntmps129
    go_wp2
    go_quiet ((go_at_call 54; with_reducible exact CO.out _))
    go_wp2
    go_ret
    exact ⟨rfl, below_drewN HB.out _⟩
  · have hdd : d = false := by
      rw [hd]
      simp [atB]
      omega
    have HB := Lib.hid hb1
    rw [hdd]
    clear hdd hd c0 ok1 hA hA1 hb1 hR
    have i2 : IntKind.i64.wrap ((la.length : Int) - (h.old.length : Int)) = (la.length : Int) - (h.old.length : Int) := IntWalk.i64_in _ (by omega)
    have q1 : decide (h.at_ ≤ (la.length : Int) - (h.old.length : Int)) = false := by rw [decide_eq_false_iff_not]; exact hle
    have q2 := ok.hi
    clear hle ok
    generalize h.at_ = n at *
    generalize h.old.length = m1 at *
    generalize h.new.length = m2 at *
    generalize h.a1 = x1 at *
    generalize h.a2 = x2 at *
    generalize h.c1 = x3 at *
    generalize h.c2 = x4 at *
    go_enter Tryz.func129, Tryz.ntmps129
    go_wp2
    go_quiet (fail)
    go_wp2
    go_ret
    exact ⟨rfl, below_drewN HB.out _⟩
end Go.Proofs.YtempamboacbgiaaGreatDoor
namespace Go.Proofs.YtempamboacbgiaaGreatDoor
open Go.RowKit
set_option linter.unusedVariables false

end Go.Proofs.YtempamboacbgiaaGreatDoor
