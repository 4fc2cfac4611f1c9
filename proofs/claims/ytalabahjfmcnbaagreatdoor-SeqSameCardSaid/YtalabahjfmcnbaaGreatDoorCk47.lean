/- Two steps that are apart change places, plainly. Two steps that were done one behind the other, done the other way round, plainly; three hunks. Steps that become one come to the same tree, plainly. -/
import Derived.BigQuiet
import Derived.Deep.QuietTactic
import Derived.Handy
import Derived.Deep.RegionLaw
import Derived.Test.YtalabahjfmcnbaaGreatDoorCk46
namespace Go.Proofs.YtalabahjfmcnbaaGreatDoor
open Go.RowKit
set_option linter.unusedVariables false

/-- A path lies within its directory. -/
theorem dir_in {x : List UInt8} (hx : names nameP x ≠ []) (hd : dirP nameP x ≠ []) : inDir x (dirP nameP x) = true := by
  have hlen : 0 < (names nameP x).length := List.length_pos_iff.2 hx
  rw [dir_is] at hd ⊢
  have h1 : 1 ≤ (names nameP x).length - 1 := by
    rcases Nat.lt_or_ge 0 ((names nameP x).length - 1) with h | h
    · exact h
    · exfalso
      have e : (names nameP x).length - 1 = 0 := by omega
      rw [e] at hd
      exact hd rfl
  have e := names_take (nm := nameP) (fun x hx => nameP_slash hx) (p := x) h1 (by omega)
  unfold inDir beginsP
  rw [e, List.length_take]
  simp only [Bool.and_eq_true, decide_eq_true_eq]
  refine ⟨by omega, by omega, ?_⟩
  rw [show min ((names nameP x).length - 1) (names nameP x).length = (names nameP x).length - 1 by omega]
/-- What a step other than a directory's touches is no directory, neither before it nor behind it. -/
theorem touch_file {m : Look} {p : Pk} (hc : ckP p = 0) (hm : May7 m p) (h3 : 2 < p.kind) {x : List UInt8} (h : x ∈ touches p) : (∀ ls, m x ≠ some (true, ls)) ∧ ∀ ls, ef m p x ≠ some (true, ls) := by
  obtain ⟨k1, k6, f5, fz, fn, fm, fh⟩ := ck_facts hc
  have hk : p.kind = 3 ∨ p.kind = 4 ∨ p.kind = 5 ∨ p.kind = 6 := by omega
  unfold touches at h
  rcases hk with e | e | e | e
  · simp [e] at h
    subst h
    have := (hm.mkd (.inr e)).1
    unfold ef
    simp [this, e]
  · simp [e] at h
    subst h
    have := (hm.rm (.inr e)).1
    unfold ef
    simp [this, e]
  · obtain ⟨⟨ls, a⟩, b, _⟩ := hm.mv e
    obtain ⟨_, hne⟩ := fm e
    rw [if_pos e] at h
    simp only [List.mem_cons, List.not_mem_nil, or_false] at h
    unfold ef
    rcases h with rfl | rfl
    · simp [a, e, hne]
    · simp [a, b, e]
  · obtain ⟨ls, a, _, _⟩ := hm.hk e
    simp [e] at h
    subst h
    unfold ef
    simp [a, e]
theorem dir_keep {m : Look} {p : Pk} (hc : ckP p = 0) (hm : May7 m p) {x : List UInt8} (hx : names nameP x ≠ []) (h2 : p.kind ≤ 2 → ∀ y ∈ touches p, inDir x y = false) : DirIn (ef m p) x ↔ DirIn m x := by
  unfold DirIn
  by_cases hd : dirP nameP x = []
  · simp [hd]
  by_cases ht : dirP nameP x ∈ touches p
  · have h3 : 2 < p.kind := by
      rcases Int.lt_or_le 2 p.kind with h | h
      · exact h
      · have := h2 h _ ht
        rw [dir_in hx hd] at this
        cases this
    obtain ⟨a, b⟩ := touch_file hc hm h3 ht
    constructor
    · rintro (e | ⟨ls, e⟩)
      · exact absurd e hd
      · exact absurd e (b ls)
    · rintro (e | ⟨ls, e⟩)
      · exact absurd e hd
      · exact absurd e (a ls)
  · rw [ef_out ht]
/-- Whether a step may be done hangs on what it touches, the directories there, and what lies in it. -/
theorem may_agree {m m2 : Look} {q : Pk} (h1 : ∀ x ∈ touches q, m2 x = m x) (h2 : ∀ x ∈ touches q, DirIn m x → DirIn m2 x) (h3 : q.kind = 2 ∨ q.kind = 4 → ChildIn m2 q.path → ChildIn m q.path) (hm : May7 m q) : May7 m2 q := by
  have hp := h1 _ (touch_path q)
  constructor
  · intro e
    obtain ⟨a, b⟩ := hm.mkd e
    exact ⟨by rw [hp, a], h2 _ (touch_path q) b⟩
  · intro e
    obtain ⟨a, b⟩ := hm.rm e
    exact ⟨by rw [hp, a], fun hc => b (h3 e hc)⟩
  · intro e
    obtain ⟨⟨ls, a⟩, b, c⟩ := hm.mv e
    exact ⟨⟨ls, by rw [hp, a]⟩, by rw [h1 _ (touch_dst e), b], h2 _ (touch_dst e) c⟩
  · intro e
    obtain ⟨ls, a, b⟩ := hm.hk e
    exact ⟨ls, by rw [hp, a], b⟩
/-- All lies in directories. -/
def Up (m : Look) : Prop := ∀ c v, m c = some v → names nameP c ≠ [] ∧ DirIn m c
theorem up_well {ks : List PF} (h : Well ks) : Up (look ks) := fun c v e => by
  have hm := (look_some h.rise).1 e
  refine ⟨h.paths _ hm, ?_⟩
  rcases h.up _ hm with e2 | ⟨⟨d1, d2, d3⟩, hd, e2, e3⟩
  · exact .inl e2
  · simp only at e2 e3
    subst e2; subst e3
    exact .inr ⟨d3, (look_some h.rise).2 hd⟩
/-- Nothing lies in a file. -/
theorem up_file {m : Look} (h : Up m) {x : List UInt8} (hx : names nameP x ≠ []) {ls : List (List UInt8)} (hf : m x = some (false, ls)) : ¬ ChildIn m x := by
  rintro ⟨c, v, e, hd⟩
  obtain ⟨_, h2⟩ := h c v e
  unfold DirIn at h2
  rw [hd] at h2
  rcases h2 with e2 | ⟨l2, e2⟩
  · exact names_ne hx e2
  · rw [hf] at e2
    cases e2

/-- The second one may be done ahead of the first one. -/
theorem apart_ahead {m : Look} {p q : Pk} (hu : Up m) (hcp : ckP p = 0) (hcq : ckP q = 0) (hp : May7 m p) (hq : May7 (ef m p) q) (ha : apartP p q = true) : May7 m q := by
  rw [apart_iff] at ha
  have hout : ∀ x ∈ touches q, x ∉ touches p := fun x hx hx2 => (ha x hx2 x hx).1 rfl
  refine may_agree (fun x hx => (ef_out (hout x hx)).symm) (fun x hx => (dir_keep hcp hp (touch_names hcq hx) fun h2 y hy => (ha y hy x hx).2.1 h2).1) ?_ hq
  intro e hch
  have hqp := hout _ (touch_path q)
  have hxn := touch_names hcq (touch_path q)
  rcases e with e | e
  · obtain ⟨c, v, hcv, hd⟩ := hch
    by_cases ht : c ∈ touches p
    · exfalso
      have hcn := touch_names hcp ht
      have := dir_in hcn (by rw [hd]; exact names_ne hxn)
      rw [hd, (ha c ht _ (touch_path q)).2.2 (by omega)] at this
      cases this
    · exact ⟨c, v, by rw [ef_out ht]; exact hcv, hd⟩
  · exfalso
    have h1 := (hq.rm (.inr e)).1
    rw [ef_out hqp] at h1
    exact up_file hu hxn (ls := []) (by rw [h1]; simp [e]) hch
/-- The first one may be done behind the second one. -/
theorem apart_behind {m : Look} {p q : Pk} (hu : Up (ef m q)) (hcp : ckP p = 0) (hcq : ckP q = 0) (hp : May7 m p) (hq : May7 m q) (ha : apartP p q = true) : May7 (ef m q) p := by
  rw [apart_iff] at ha
  have hout : ∀ x ∈ touches p, x ∉ touches q := fun x hx hx2 => (ha x hx x hx2).1 rfl
  refine may_agree (fun x hx => ef_out (hout x hx)) (fun x hx => (dir_keep hcq hq (touch_names hcp hx) fun h2 y hy => (ha x hx y hy).2.2 h2).2) ?_ hp
  intro e hch
  have hpq := hout _ (touch_path p)
  have hxn := touch_names hcp (touch_path p)
  rcases e with e | e
  · obtain ⟨c, v, hcv, hd⟩ := hch
    by_cases ht : c ∈ touches q
    · exfalso
      have hcn := touch_names hcq ht
      have := dir_in hcn (by rw [hd]; exact names_ne hxn)
      rw [hd, (ha _ (touch_path p) c ht).2.1 (by omega)] at this
      cases this
    · exact ⟨c, v, by rw [ef_out ht] at hcv; exact hcv, hd⟩
  · exfalso
    have h1 := (hp.rm (.inr e)).1
    exact up_file hu hxn (ls := []) (by rw [ef_out hpq, h1]; simp [e]) hch
/-- Both orders come to the same. -/
theorem apart_same {m : Look} {p q : Pk} (ha : apartP p q = true) (x : List UInt8) : ef (ef m p) q x = ef (ef m q) p x := by
  rw [apart_iff] at ha
  have h1 : ∀ x ∈ touches q, x ∉ touches p := fun x hx hx2 => (ha x hx2 x hx).1 rfl
  have h2 : ∀ x ∈ touches p, x ∉ touches q := fun x hx hx2 => (ha x hx x hx2).1 rfl
  by_cases hp : x ∈ touches p
  · rw [ef_out (h2 x hp), ef_in (m := m) (m2 := ef m q) (fun y hy => ef_out (h2 y hy)) hp]
  · by_cases hq : x ∈ touches q
    · rw [ef_out hp, ef_in (m := m) (m2 := ef m p) (fun y hy => ef_out (h1 y hy)) hq]
    · rw [ef_out hp, ef_out hq, ef_out hq, ef_out hp]
/-- Two steps that are apart, done one behind the other, are done the other way round, too, and come to the same. -/
theorem apart_swap {ks js is : List PF} (h : Well ks) {p q : Pk} (hcp : ckP p = 0) (hcq : ckP q = 0) (h1 : apP ks p = (0, js)) (h2 : apP js q = (0, is)) (ha : apartP p q = true) : ∃ js2, apP ks q = (0, js2) ∧ apP js2 p = (0, is) := by
  have hj := ap_well h h1
  obtain ⟨mp, ep⟩ := ap_may h hcp h1
  obtain ⟨mq, eq⟩ := ap_may hj hcq h2
  have ej : look js = ef (look ks) p := funext ep
  rw [ej] at mq eq
  have mq0 := apart_ahead (up_well h) hcp hcq mp mq ha
  obtain ⟨js2, h3⟩ := may_ap h hcq mq0
  have hj2 := ap_well h h3
  obtain ⟨_, eq2⟩ := ap_may h hcq h3
  have ej2 : look js2 = ef (look ks) q := funext eq2
  have mp2 : May7 (look js2) p := by
    rw [ej2]
    refine apart_behind ?_ hcp hcq mp mq0 ha
    rw [← ej2]
    exact up_well hj2
  obtain ⟨is2, h4⟩ := may_ap hj2 hcp mp2
  obtain ⟨_, ep2⟩ := ap_may hj2 hcp h4
  refine ⟨js2, h3, ?_⟩
  rw [h4]
  congr 1
  refine look_ext (ap_well hj2 h4).rise (ap_well hj h2).rise fun x => ?_
  rw [ep2, eq, ej2]
  exact (apart_same ha x).symm
end Go.Proofs.YtalabahjfmcnbaaGreatDoor
namespace Go.Proofs.YtalabahjfmcnbaaGreatDoor
open Go.RowKit
set_option linter.unusedVariables false

/-- Lines with a part further behind put in the place of another one: it stands ahead, too, and both orders come to the same. -/
theorem put_behind {ls o1 n1 o2 n2 : List (List UInt8)} {k1 k2 : Int} (h1 : atB ls o1 k1 = true) (h2 : atB (putL ls k1.toNat o1 n1) o2 k2 = true) (hl : k1 + n1.length < k2) :
    atB ls o2 (k2 - n1.length + o1.length) = true ∧ atB (putL ls (k2 - n1.length + o1.length).toNat o2 n2) o1 k1 = true ∧
    putL (putL ls (k2 - n1.length + o1.length).toNat o2 n2) k1.toNat o1 n1 = putL (putL ls k1.toNat o1 n1) k2.toNat o2 n2 := by
  obtain ⟨a0, a1, a2⟩ := putL_parts h1
  generalize hpre : ls.take k1.toNat = pre at a2
  generalize hpost : ls.drop (k1.toNat + o1.length) = post at a2
  have hk1 : pre.length = k1.toNat := by rw [← hpre, List.length_take]; omega
  have e1 : putL ls k1.toNat o1 n1 = pre ++ n1 ++ post := by rw [a2, ← hk1]; exact putL_mk pre o1 n1 post
  rw [e1] at h2 ⊢
  obtain ⟨b0, b1, b2⟩ := putL_parts h2
  -- what stands between them
  have hz : (pre ++ n1).length ≤ k2.toNat := by rw [List.length_append]; omega
  generalize hm : k2.toNat - (pre ++ n1).length = m at *
  have hk2 : k2.toNat = (pre ++ n1).length + m := by omega
  have t1 : (pre ++ n1 ++ post).take k2.toNat = pre ++ n1 ++ post.take m := by
    rw [hk2, List.take_length_add_append]
  have t2 : (pre ++ n1 ++ post).drop (k2.toNat + o2.length) = post.drop (m + o2.length) := by
    rw [hk2, Nat.add_assoc, List.drop_length_add_append]
  have hlen : m + o2.length ≤ post.length := by
    simp only [List.length_append] at b1 hk2
    omega
  rw [t1, t2] at b2
  have b3 : post = post.take m ++ o2 ++ post.drop (m + o2.length) := by
    have : (pre ++ n1) ++ post = (pre ++ n1) ++ (post.take m ++ o2 ++ post.drop (m + o2.length)) := by
      rw [b2]
      simp only [List.append_assoc]
    exact List.append_cancel_left this
  generalize hmid : post.take m = mid at b3
  generalize htl : post.drop (m + o2.length) = tl at b3
  have hmid2 : mid.length = m := by rw [← hmid, List.length_take]; omega
  subst b3
  subst a2
  have k2e : (k2 - n1.length + o1.length).toNat = (pre ++ o1 ++ mid).length := by
    simp only [List.length_append] at hk2 ⊢
    omega
  have f1 : pre ++ o1 ++ (mid ++ o2 ++ tl) = (pre ++ o1 ++ mid) ++ o2 ++ tl := by simp only [List.append_assoc]
  have f2 : pre ++ n1 ++ (mid ++ o2 ++ tl) = (pre ++ n1 ++ mid) ++ o2 ++ tl := by simp only [List.append_assoc]
  have f3 : (pre ++ o1 ++ mid) ++ n2 ++ tl = pre ++ o1 ++ (mid ++ n2 ++ tl) := by simp only [List.append_assoc]
  have k2f : k2.toNat = (pre ++ n1 ++ mid).length := by
    simp only [List.length_append] at hk2 ⊢
    omega
  refine ⟨?_, ?_, ?_⟩
  · rw [f1]
    exact atB_mk (by omega) k2e.symm
  · rw [f1, k2e, putL_mk, f3]
    exact atB_mk a0 hk1
  · rw [f1, k2e, putL_mk, f3, ← hk1, putL_mk, f2, k2f, putL_mk]
    simp only [List.append_assoc]
/-- A part further ahead. -/
theorem put_ahead {ls o1 n1 o2 n2 : List (List UInt8)} {k1 k2 : Int} (h1 : atB ls o1 k1 = true) (h2 : atB (putL ls k1.toNat o1 n1) o2 k2 = true) (hl : k2 + o2.length < k1) :
    atB ls o2 k2 = true ∧ atB (putL ls k2.toNat o2 n2) o1 (k1 + n2.length - o2.length) = true ∧
    putL (putL ls k2.toNat o2 n2) (k1 + n2.length - o2.length).toNat o1 n1 = putL (putL ls k1.toNat o1 n1) k2.toNat o2 n2 := by
  obtain ⟨a0, a1, a2⟩ := putL_parts h1
  generalize hpre : ls.take k1.toNat = pre at a2
  generalize hpost : ls.drop (k1.toNat + o1.length) = post at a2
  have hk1 : pre.length = k1.toNat := by rw [← hpre, List.length_take]; omega
  have e1 : putL ls k1.toNat o1 n1 = pre ++ n1 ++ post := by rw [a2, ← hk1]; exact putL_mk pre o1 n1 post
  rw [e1] at h2 ⊢
  obtain ⟨b0, b1, b2⟩ := putL_parts h2
  have t1 : (pre ++ n1 ++ post).take k2.toNat = pre.take k2.toNat := by
    rw [List.append_assoc, List.take_append_of_le_length (by omega)]
  have t2 : (pre ++ n1 ++ post).drop (k2.toNat + o2.length) = pre.drop (k2.toNat + o2.length) ++ n1 ++ post := by
    rw [List.append_assoc, List.drop_append_of_le_length (by omega), List.append_assoc]
  rw [t1, t2] at b2
  have b3 : pre = pre.take k2.toNat ++ o2 ++ pre.drop (k2.toNat + o2.length) := by
    have : pre ++ (n1 ++ post) = (pre.take k2.toNat ++ o2 ++ pre.drop (k2.toNat + o2.length)) ++ (n1 ++ post) := by
      rw [← List.append_assoc, b2]
      simp only [List.append_assoc]
    exact List.append_cancel_right this
  have hmid2 : (pre.take k2.toNat).length = k2.toNat := by rw [List.length_take]; omega
  generalize pre.take k2.toNat = mid at b3 hmid2
  generalize pre.drop (k2.toNat + o2.length) = tl at b3
  subst b3
  subst a2
  have k1e : (k1 + n2.length - o2.length).toNat = (mid ++ n2 ++ tl).length := by
    simp only [List.length_append] at hk1 ⊢
    omega
  have f1 : mid ++ o2 ++ tl ++ o1 ++ post = mid ++ o2 ++ (tl ++ o1 ++ post) := by simp only [List.append_assoc]
  have f2 : mid ++ o2 ++ tl ++ n1 ++ post = mid ++ o2 ++ (tl ++ n1 ++ post) := by simp only [List.append_assoc]
  have f3 : mid ++ n2 ++ (tl ++ o1 ++ post) = mid ++ n2 ++ tl ++ o1 ++ post := by simp only [List.append_assoc]
  refine ⟨?_, ?_, ?_⟩
  · rw [f1]
    exact atB_mk b0 hmid2
  · rw [f1, ← hmid2, putL_mk, f3]
    exact atB_mk (by simp only [List.length_append] at hk1; omega) k1e.symm
  · rw [f1, ← hmid2, putL_mk, f3, k1e, putL_mk, f2, putL_mk]
    simp only [List.append_assoc]

theorem swap_of {ks js is : List PF} (h : Well ks) {p q b a : Pk} (hcp : ckP p = 0) (hcq : ckP q = 0) (hcb : ckP b = 0) (hca : ckP a = 0) (h1 : apP ks p = (0, js)) (h2 : apP js q = (0, is)) (mb : May7 (look ks) b) (ma : May7 (ef (look ks) b) a) (he : ∀ x, ef (ef (look ks) b) a x = ef (ef (look ks) p) q x) : ∃ js2, apP ks b = (0, js2) ∧ apP js2 a = (0, is) := by
  have hj := ap_well h h1
  obtain ⟨_, ep⟩ := ap_may h hcp h1
  obtain ⟨_, eq⟩ := ap_may hj hcq h2
  have ej : look js = ef (look ks) p := funext ep
  obtain ⟨js2, h3⟩ := may_ap h hcb mb
  have hj2 := ap_well h h3
  obtain ⟨_, eb⟩ := ap_may h hcb h3
  have ej2 : look js2 = ef (look ks) b := funext eb
  obtain ⟨is2, h4⟩ := may_ap hj2 hca (by rw [ej2]; exact ma)
  obtain ⟨_, ea⟩ := ap_may hj2 hca h4
  refine ⟨js2, h3, ?_⟩
  rw [h4]
  congr 1
  refine look_ext (ap_well hj2 h4).rise (ap_well hj h2).rise fun x => ?_
  rw [ea, eq, ej2, ej]
  exact he x
/-- A step's check hangs on its path by its names alone, and on its place not being below 0. -/
theorem ck_six {k : Int} {path path2 dst : List UInt8} {at_ at2 : Int} {old new : List (List UInt8)} (h : ckP ⟨k, path, dst, at_, old, new⟩ = 0) (h6 : k = 6) (hp : names nameP path2 ≠ []) (h0 : 0 ≤ at2) : ckP ⟨k, path2, dst, at2, old, new⟩ = 0 := by
  unfold ckP at h ⊢
  simp only at h ⊢
  subst h6
  split at h
  · omega
  rename_i h1
  split at h
  · omega
  rename_i h2
  split at h
  · omega
  rename_i h3
  simp only [not_or, not_and] at h1 h2 h3
  obtain ⟨c1, c2, c3, c4⟩ := h3 trivial
  rw [if_neg, if_neg, if_neg]
  · rintro ⟨_, h | h | h | h⟩
    · omega
    · exact c2 h
    · exact h (by simpa using c3)
    · exact h (by simpa using c4)
  · rintro (h | ⟨h, _⟩)
    · exact hp h
    · omega
  · rintro (h | h | ⟨h, h4⟩ | ⟨h, _⟩)
    · omega
    · omega
    · exact h4 (by simpa using h1.2.2.1 h)
    · exact h rfl
theorem mem_putL {ls old new : List (List UInt8)} {k : Nat} {x : List UInt8} (h : x ∈ putL ls k old new) : x ∈ ls ∨ x ∈ new := by
  unfold putL at h
  rcases List.mem_append.1 h with h | h
  · rcases List.mem_append.1 h with h | h
    · exact .inl (List.mem_of_mem_take h)
    · exact .inr h
  · exact .inl (List.mem_of_mem_drop h)
theorem putL_check {ls old new : List (List UInt8)} {k : Nat} (hl : checkN (toBs ls) = 0) (hn : checkN (toBs new) = 0) (hr : ls.length + new.length ≤ 2000) : checkN (toBs (putL ls k old new)) = 0 := by
  rw [check_iff] at hl hn ⊢
  refine ⟨?_, fun x hx => ?_⟩
  · unfold putL
    simp only [List.length_append, List.length_take, List.length_drop]
    omega
  · rcases mem_putL hx with h | h
    · exact hl.2 x h
    · exact hn.2 x h
theorem ef_six {m : Look} {p : Pk} (h6 : p.kind = 6) {ls : List (List UInt8)} (h : m p.path = some (false, ls)) (x : List UInt8) : ef m p x = if x = p.path then some (false, putL ls p.at_.toNat p.old p.new) else m x := by
  unfold ef
  rw [if_neg (by omega)]
  simp [h6, h]
theorem ef_five {m : Look} {p : Pk} (h5 : p.kind = 5) (x : List UInt8) : ef m p x = if x = p.dst then m p.path else if x = p.path then none else m x := by
  unfold ef
  rw [if_pos h5]
theorem may_six {m : Look} {p : Pk} (h6 : p.kind = 6) {ls : List (List UInt8)} (h : m p.path = some (false, ls)) (ha : atB ls p.old p.at_ = true) (hc : checkN (toBs (putL ls p.at_.toNat p.old p.new)) = 0) : May7 m p :=
  ⟨fun e => by omega, fun e => by omega, fun e => by omega, fun _ => ⟨ls, h, ha, hc⟩⟩
/-- Two steps that were done one behind the other, and that can change places, are done the other way round, too, and come to the same. -/
theorem swap_all {ks js is : List PF} (h : Well ks) {p q b a : Pk} (hpair : pairP p q = (0, b, a)) (h1 : apP ks p = (0, js)) (h2 : apP js q = (0, is)) (hroom : ∀ k ∈ ks, k.2.2.length + q.new.length ≤ 2000) : ckP b = 0 ∧ ckP a = 0 ∧ ∃ js2, apP ks b = (0, js2) ∧ apP js2 a = (0, is) := by
  obtain ⟨hcp, hcq, hi⟩ := pair_is hpair
  have hj := ap_well h h1
  obtain ⟨mp, ep⟩ := ap_may h hcp h1
  obtain ⟨mq, eq⟩ := ap_may hj hcq h2
  have ej : look js = ef (look ks) p := funext ep
  rw [ej] at mq
  cases hi with
  | behind h6 k6 e hl hb ha =>
    subst ha
    obtain ⟨ls, l1, l2, l3⟩ := mp.hk h6
    obtain ⟨ls2, g1, g2, g3⟩ := mq.hk k6
    rw [ef_six h6 l1, if_pos e.symm] at g1
    cases g1
    obtain ⟨z1, z2, z3⟩ := put_behind (n2 := q.new) l2 g2 hl
    obtain ⟨y0, y1, _⟩ := putL_parts z1
    have hmem := (look_some h.rise).1 l1
    have hlen := (check_iff.1 (h.lines _ hmem)).1
    simp only at hlen
    have hw : wrap64 (q.at_ - a.new.length + a.old.length) = q.at_ - a.new.length + a.old.length := by unfold wrap64; omega
    rw [hw] at hb
    have hcb : ckP b = 0 := by
      rw [hb]
      exact ck_six (path := q.path) (at_ := q.at_) (by cases q; exact hcq) k6 (by rw [← e]; exact touch_names hcp (touch_path a)) y0
    refine ⟨hcb, hcp, ?_⟩
    have b1 : b.kind = 6 := by rw [hb]; exact k6
    have b2 : b.path = a.path := by rw [hb]; exact e.symm
    have b3 : b.at_ = q.at_ - a.new.length + a.old.length := by rw [hb]
    have b4 : b.old = q.old := by rw [hb]
    have b5 : b.new = q.new := by rw [hb]
    have l4 : look ks b.path = some (false, ls) := by rw [b2, l1]
    have hck2 : checkN (toBs (putL ls b.at_.toNat b.old b.new)) = 0 := putL_check (h.lines _ hmem) (by rw [b5]; exact ((ck_facts hcq).2.2.2.2.2.2 k6).2.2) (by rw [b5]; exact hroom _ hmem)
    have l5 : ef (look ks) b a.path = some (false, putL ls b.at_.toNat b.old b.new) := by rw [ef_six b1 l4, if_pos b2.symm]
    have z3' : putL (putL ls b.at_.toNat b.old b.new) a.at_.toNat a.old a.new = putL (putL ls a.at_.toNat a.old a.new) q.at_.toNat q.old q.new := by rw [b3, b4, b5]; exact z3
    refine swap_of h hcp hcq hcb hcp h1 h2 (may_six b1 l4 (by rw [b3, b4]; exact z1) hck2) (may_six h6 l5 (by rw [b3, b4, b5]; exact z2) (by rw [z3']; exact g3)) fun x => ?_
    rw [ef_six h6 l5, ef_six b1 l4, ef_six k6 (ls := putL ls a.at_.toNat a.old a.new) (by rw [ef_six h6 l1, if_pos e.symm]), ef_six h6 l1, z3', ← e, b2]
    by_cases hx : x = a.path <;> simp [hx]
  | ahead h6 k6 e n hl hb ha =>
    subst hb
    obtain ⟨ls, l1, l2, l3⟩ := mp.hk h6
    obtain ⟨ls2, g1, g2, g3⟩ := mq.hk k6
    rw [ef_six h6 l1, if_pos e.symm] at g1
    cases g1
    obtain ⟨z1, z2, z3⟩ := put_ahead (n2 := b.new) l2 g2 hl
    obtain ⟨y0, y1, _⟩ := putL_parts l2
    obtain ⟨x0, x1, _⟩ := putL_parts z2
    have hmem := (look_some h.rise).1 l1
    have hlen := (check_iff.1 (h.lines _ hmem)).1
    simp only at hlen
    have hbn := (ck_nums hcq k6).2.2
    have hw : wrap64 (p.at_ + b.new.length - b.old.length) = p.at_ + b.new.length - b.old.length := by unfold wrap64; omega
    rw [hw] at ha
    have hca : ckP a = 0 := by
      rw [ha]
      exact ck_six (path := p.path) (at_ := p.at_) (by cases p; exact hcp) h6 (touch_names hcp (touch_path p)) x0
    refine ⟨hcq, hca, ?_⟩
    have a1 : a.kind = 6 := by rw [ha]; exact h6
    have a2 : a.path = p.path := by rw [ha]
    have a3 : a.at_ = p.at_ + b.new.length - b.old.length := by rw [ha]
    have a4 : a.old = p.old := by rw [ha]
    have a5 : a.new = p.new := by rw [ha]
    have l4 : look ks b.path = some (false, ls) := by rw [← e, l1]
    have hck2 : checkN (toBs (putL ls b.at_.toNat b.old b.new)) = 0 := putL_check (h.lines _ hmem) ((ck_facts hcq).2.2.2.2.2.2 k6).2.2 (hroom _ hmem)
    have l5 : ef (look ks) b a.path = some (false, putL ls b.at_.toNat b.old b.new) := by rw [ef_six k6 l4, a2, if_pos e]
    have z3' : putL (putL ls b.at_.toNat b.old b.new) a.at_.toNat a.old a.new = putL (putL ls p.at_.toNat p.old p.new) b.at_.toNat b.old b.new := by rw [a3, a4, a5]; exact z3
    refine swap_of h hcp hcq hcq hca h1 h2 (may_six k6 l4 z1 hck2) (may_six a1 l5 (by rw [a3, a4]; exact z2) (by rw [z3']; exact g3)) fun x => ?_
    rw [ef_six a1 l5, ef_six k6 l4, ef_six k6 (ls := putL ls p.at_.toNat p.old p.new) (by rw [ef_six h6 l1, if_pos e.symm]), ef_six h6 l1, z3', ← e, a2]
    by_cases hx : x = p.path <;> simp [hx]
  | moved h5 k6 e hb ha =>
    subst ha
    obtain ⟨⟨ls, l1⟩, l2, l3⟩ := mp.mv h5
    obtain ⟨_, hne⟩ := (ck_facts hcp).2.2.2.2.2.1 h5
    obtain ⟨ls2, g1, g2, g3⟩ := mq.hk k6
    have g1' := g1
    rw [ef_five h5, if_pos e, l1] at g1
    cases g1
    have hcb : ckP b = 0 := by
      rw [hb]
      exact ck_six (path := q.path) (at_ := q.at_) (by cases q; exact hcq) k6 (touch_names hcp (touch_path a)) (ck_nums hcq k6).1
    refine ⟨hcb, hcp, ?_⟩
    have b1 : b.kind = 6 := by rw [hb]; exact k6
    have b2 : b.path = a.path := by rw [hb]
    have b3 : b.at_ = q.at_ := by rw [hb]
    have b4 : b.old = q.old := by rw [hb]
    have b5 : b.new = q.new := by rw [hb]
    have l4 : look ks b.path = some (false, ls) := by rw [b2, l1]
    have mb : May7 (look ks) b := may_six b1 l4 (by rw [b3, b4]; exact g2) (by rw [b3, b4, b5]; exact g3)
    refine swap_of h hcp hcq hcb hcp h1 h2 mb ⟨fun e => by omega, fun e => by omega, fun _ => ⟨⟨_, by rw [ef_six b1 l4, if_pos b2.symm]⟩, ?_, ?_⟩, fun e => by omega⟩ fun x => ?_
    · rw [ef_six b1 l4, if_neg (by rw [b2]; exact fun e => hne e.symm), l2]
    · exact (dir_keep hcb mb (touch_names hcp (touch_dst h5)) (fun hk => by omega)).2 l3
    · rw [ef_five h5, ef_six b1 l4, ef_six b1 l4, ef_six k6 g1', ef_five h5, b2, b3, b4, b5, e]
      by_cases hx : x = a.dst
      · simp [hx]
      · by_cases hx2 : x = a.path
        · simp [hx2, hne]
        · simp [hx, hx2]
  | moves h6 k5 e hb ha =>
    subst hb
    obtain ⟨ls, l1, l2, l3⟩ := mp.hk h6
    obtain ⟨_, hne⟩ := (ck_facts hcq).2.2.2.2.2.1 k5
    obtain ⟨⟨ls2, g1⟩, g2, g3⟩ := mq.mv k5
    have hnd : b.dst ≠ p.path := fun e2 => hne (by rw [e, e2])
    have hdst : look ks b.dst = none := by rw [ef_six h6 l1, if_neg hnd] at g2; exact g2
    have hdir : DirIn (look ks) b.dst := (dir_keep hcp mp (touch_names hcq (touch_dst k5)) (fun hk => by omega)).1 g3
    have hlb : look ks b.path = some (false, ls) := by rw [e, l1]
    have hca : ckP a = 0 := by
      rw [ha]
      exact ck_six (path := p.path) (at_ := p.at_) (by cases p; exact hcp) h6 (touch_names hcq (touch_dst k5)) (ck_nums hcp h6).1
    refine ⟨hcq, hca, ?_⟩
    have a1 : a.kind = 6 := by rw [ha]; exact h6
    have a2 : a.path = b.dst := by rw [ha]
    have a3 : a.at_ = p.at_ := by rw [ha]
    have a4 : a.old = p.old := by rw [ha]
    have a5 : a.new = p.new := by rw [ha]
    have l5 : ef (look ks) b a.path = some (false, ls) := by rw [ef_five k5, if_pos a2, hlb]
    refine swap_of h hcp hcq hcq hca h1 h2 ⟨fun e => by omega, fun e => by omega, fun _ => ⟨⟨ls, hlb⟩, hdst, hdir⟩, fun e => by omega⟩ (may_six a1 l5 (by rw [a3, a4]; exact l2) (by rw [a3, a4, a5]; exact l3)) fun x => ?_
    rw [ef_six a1 l5, ef_five k5, ef_five k5, ef_six h6 l1, ef_six h6 l1, a2, a3, a4, a5, e, if_pos rfl]
    by_cases hx : x = b.dst
    · simp [hx]
    · by_cases hx2 : x = p.path
      · simp [hx2, hnd.symm]
      · simp [hx, hx2]
  | apart hap hb ha =>
    subst hb; subst ha
    exact ⟨hcq, hcp, apart_swap h hcp hcq h1 h2 hap⟩
end Go.Proofs.YtalabahjfmcnbaaGreatDoor
namespace Go.Proofs.YtalabahjfmcnbaaGreatDoor
open Go.RowKit
set_option linter.unusedVariables false

theorem ck_of_ap {ks res : List PF} {p : Pk} (h : apP ks p = (0, res)) : ckP p = 0 := by
  unfold apP at h
  split at h
  · exact (Prod.mk.inj h).1
  · rename_i hc
    simpa using hc
theorem apAll_split {ks res : List PF} {a b : List Pk} (h : apAll ks (a ++ b) = (0, res)) : ∃ js, apAll ks a = (0, js) ∧ apAll js b = (0, res) := by
  rw [apAll_app] at h
  split at h
  · rename_i h1
    exact ⟨(apAll ks a).2, Prod.ext h1 rfl, h⟩
  · rename_i h1
    exact absurd (Prod.mk.inj h).1 h1
theorem apAll_join {ks js res : List PF} {a b : List Pk} (h1 : apAll ks a = (0, js)) (h2 : apAll js b = (0, res)) : apAll ks (a ++ b) = (0, res) := by
  rw [apAll_app, h1, if_pos rfl, h2]
theorem apAll_one {ks res : List PF} {p : Pk} : apAll ks [p] = (0, res) ↔ apP ks p = (0, res) := by
  constructor
  · intro h
    unfold apAll at h
    split at h
    · rename_i h1
      unfold apAll at h
      exact Prod.ext h1 (Prod.mk.inj h).2
    · rename_i h1
      exact absurd (Prod.mk.inj h).1 h1
  · intro h
    simp [apAll, h]
end Go.Proofs.YtalabahjfmcnbaaGreatDoor
