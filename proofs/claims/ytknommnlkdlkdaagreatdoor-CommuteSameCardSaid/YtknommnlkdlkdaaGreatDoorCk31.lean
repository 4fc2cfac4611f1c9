/- Two steps that were done one behind the other, done the other way round, plainly; three hunks. Package diff's stands: are a hunk's old lines where it says? Package diff's Size, sameHunk and Same. -/
import Derived.Test.YtknommnlkdlkdaaGreatDoorCk30
import Derived.Test.YtknommnlkdlkdaaGreatDoorCk10
import Derived.Test.YtknommnlkdlkdaaGreatDoorCk07
import Derived.Test.YtknommnlkdlkdaaGreatDoorCk11
namespace Go.Proofs.YtknommnlkdlkdaaGreatDoor
open Go.RowKit
set_option linter.unusedVariables false

/-- Lines with a part further behind put in the place of another one: it stands ahead, too, and both orders come to the same. -/
theorem put_behind {ls o1 n1 o2 n2 : List (List UInt8)} {k1 k2 : Int} (h1 : atB ls o1 k1 = true) (h2 : atB (putL ls k1.toNat o1 n1) o2 k2 = true) (hl : k1 + n1.length < k2) :
    atB ls o2 (k2 - n1.length + o1.length) = true ∧ atB (putL ls (k2 - n1.length + o1.length).toNat o2 n2) o1 k1 = true ∧
    putL (putL ls (k2 - n1.length + o1.length).toNat o2 n2) k1.toNat o1 n1 = putL (putL ls k1.toNat o1 n1) k2.toNat o2 n2 := by
  obtain ⟨a0, a1, a2⟩ := putL_parts h1
  generalize hpre : ls.take k1.toNat = pre at a2
  generalize hpost : ls.drop (k1.toNat + o1.length) = post at a2
  have hk1 : pre.length = k1.toNat := by rw [← hpre, List.length_take]; omega
  have e1 : putL ls k1.toNat o1 n1 = pre ++ n1 ++ post := by rw [a2, ← hk1]; exact putL_mk pre o1 n1 post
  rw [e1] at h2 ⊢
  obtain ⟨b0, b1, b2⟩ := putL_parts h2
  -- what stands between them
  have hz : (pre ++ n1).length ≤ k2.toNat := by rw [List.length_append]; omega
  generalize hm : k2.toNat - (pre ++ n1).length = m at *
  have hk2 : k2.toNat = (pre ++ n1).length + m := by omega
  have t1 : (pre ++ n1 ++ post).take k2.toNat = pre ++ n1 ++ post.take m := by
    rw [hk2, List.take_length_add_append]
  have t2 : (pre ++ n1 ++ post).drop (k2.toNat + o2.length) = post.drop (m + o2.length) := by
    rw [hk2, Nat.add_assoc, List.drop_length_add_append]
  have hlen : m + o2.length ≤ post.length := by
    simp only [List.length_append] at b1 hk2
    omega
  rw [t1, t2] at b2
  have b3 : post = post.take m ++ o2 ++ post.drop (m + o2.length) := by
    have : (pre ++ n1) ++ post = (pre ++ n1) ++ (post.take m ++ o2 ++ post.drop (m + o2.length)) := by
      rw [b2]
      simp only [List.append_assoc]
    exact List.append_cancel_left this
  generalize hmid : post.take m = mid at b3
  generalize htl : post.drop (m + o2.length) = tl at b3
  have hmid2 : mid.length = m := by rw [← hmid, List.length_take]; omega
  subst b3
  subst a2
  have k2e : (k2 - n1.length + o1.length).toNat = (pre ++ o1 ++ mid).length := by
    simp only [List.length_append] at hk2 ⊢
    omega
  have f1 : pre ++ o1 ++ (mid ++ o2 ++ tl) = (pre ++ o1 ++ mid) ++ o2 ++ tl := by simp only [List.append_assoc]
  have f2 : pre ++ n1 ++ (mid ++ o2 ++ tl) = (pre ++ n1 ++ mid) ++ o2 ++ tl := by simp only [List.append_assoc]
  have f3 : (pre ++ o1 ++ mid) ++ n2 ++ tl = pre ++ o1 ++ (mid ++ n2 ++ tl) := by simp only [List.append_assoc]
  have k2f : k2.toNat = (pre ++ n1 ++ mid).length := by
    simp only [List.length_append] at hk2 ⊢
    omega
  refine ⟨?_, ?_, ?_⟩
  · rw [f1]
    exact atB_mk (by omega) k2e.symm
  · rw [f1, k2e, putL_mk, f3]
    exact atB_mk a0 hk1
  · rw [f1, k2e, putL_mk, f3, ← hk1, putL_mk, f2, k2f, putL_mk]
    simp only [List.append_assoc]
/-- A part further ahead. -/
theorem put_ahead {ls o1 n1 o2 n2 : List (List UInt8)} {k1 k2 : Int} (h1 : atB ls o1 k1 = true) (h2 : atB (putL ls k1.toNat o1 n1) o2 k2 = true) (hl : k2 + o2.length < k1) :
    atB ls o2 k2 = true ∧ atB (putL ls k2.toNat o2 n2) o1 (k1 + n2.length - o2.length) = true ∧
    putL (putL ls k2.toNat o2 n2) (k1 + n2.length - o2.length).toNat o1 n1 = putL (putL ls k1.toNat o1 n1) k2.toNat o2 n2 := by
  obtain ⟨a0, a1, a2⟩ := putL_parts h1
  generalize hpre : ls.take k1.toNat = pre at a2
  generalize hpost : ls.drop (k1.toNat + o1.length) = post at a2
  have hk1 : pre.length = k1.toNat := by rw [← hpre, List.length_take]; omega
  have e1 : putL ls k1.toNat o1 n1 = pre ++ n1 ++ post := by rw [a2, ← hk1]; exact putL_mk pre o1 n1 post
  rw [e1] at h2 ⊢
  obtain ⟨b0, b1, b2⟩ := putL_parts h2
  have t1 : (pre ++ n1 ++ post).take k2.toNat = pre.take k2.toNat := by
    rw [List.append_assoc, List.take_append_of_le_length (by omega)]
  have t2 : (pre ++ n1 ++ post).drop (k2.toNat + o2.length) = pre.drop (k2.toNat + o2.length) ++ n1 ++ post := by
    rw [List.append_assoc, List.drop_append_of_le_length (by omega), List.append_assoc]
  rw [t1, t2] at b2
  have b3 : pre = pre.take k2.toNat ++ o2 ++ pre.drop (k2.toNat + o2.length) := by
    have : pre ++ (n1 ++ post) = (pre.take k2.toNat ++ o2 ++ pre.drop (k2.toNat + o2.length)) ++ (n1 ++ post) := by
      rw [← List.append_assoc, b2]
      simp only [List.append_assoc]
    exact List.append_cancel_right this
  have hmid2 : (pre.take k2.toNat).length = k2.toNat := by rw [List.length_take]; omega
  generalize pre.take k2.toNat = mid at b3 hmid2
  generalize pre.drop (k2.toNat + o2.length) = tl at b3
  subst b3
  subst a2
  have k1e : (k1 + n2.length - o2.length).toNat = (mid ++ n2 ++ tl).length := by
    simp only [List.length_append] at hk1 ⊢
    omega
  have f1 : mid ++ o2 ++ tl ++ o1 ++ post = mid ++ o2 ++ (tl ++ o1 ++ post) := by simp only [List.append_assoc]
  have f2 : mid ++ o2 ++ tl ++ n1 ++ post = mid ++ o2 ++ (tl ++ n1 ++ post) := by simp only [List.append_assoc]
  have f3 : mid ++ n2 ++ (tl ++ o1 ++ post) = mid ++ n2 ++ tl ++ o1 ++ post := by simp only [List.append_assoc]
  refine ⟨?_, ?_, ?_⟩
  · rw [f1]
    exact atB_mk b0 hmid2
  · rw [f1, ← hmid2, putL_mk, f3]
    exact atB_mk (by simp only [List.length_append] at hk1; omega) k1e.symm
  · rw [f1, ← hmid2, putL_mk, f3, k1e, putL_mk, f2, putL_mk]
    simp only [List.append_assoc]

theorem swap_of {ks js is : List PF} (h : Well ks) {p q b a : Pk} (hcp : ckP p = 0) (hcq : ckP q = 0) (hcb : ckP b = 0) (hca : ckP a = 0) (h1 : apP ks p = (0, js)) (h2 : apP js q = (0, is)) (mb : May7 (look ks) b) (ma : May7 (ef (look ks) b) a) (he : ∀ x, ef (ef (look ks) b) a x = ef (ef (look ks) p) q x) : ∃ js2, apP ks b = (0, js2) ∧ apP js2 a = (0, is) := by
  have hj := ap_well h h1
  obtain ⟨_, ep⟩ := ap_may h hcp h1
  obtain ⟨_, eq⟩ := ap_may hj hcq h2
  have ej : look js = ef (look ks) p := funext ep
  obtain ⟨js2, h3⟩ := may_ap h hcb mb
  have hj2 := ap_well h h3
  obtain ⟨_, eb⟩ := ap_may h hcb h3
  have ej2 : look js2 = ef (look ks) b := funext eb
  obtain ⟨is2, h4⟩ := may_ap hj2 hca (by rw [ej2]; exact ma)
  obtain ⟨_, ea⟩ := ap_may hj2 hca h4
  refine ⟨js2, h3, ?_⟩
  rw [h4]
  congr 1
  refine look_ext (ap_well hj2 h4).rise (ap_well hj h2).rise fun x => ?_
  rw [ea, eq, ej2, ej]
  exact he x
/-- A step's check hangs on its path by its names alone, and on its place not being below 0. -/
theorem ck_six {k : Int} {path path2 dst : List UInt8} {at_ at2 : Int} {old new : List (List UInt8)} (h : ckP ⟨k, path, dst, at_, old, new⟩ = 0) (h6 : k = 6) (hp : names nameP path2 ≠ []) (h0 : 0 ≤ at2) : ckP ⟨k, path2, dst, at2, old, new⟩ = 0 := by
  unfold ckP at h ⊢
  simp only at h ⊢
  subst h6
  split at h
  · omega
  rename_i h1
  split at h
  · omega
  rename_i h2
  split at h
  · omega
  rename_i h3
  simp only [not_or, not_and] at h1 h2 h3
  obtain ⟨c1, c2, c3, c4⟩ := h3 trivial
  rw [if_neg, if_neg, if_neg]
  · rintro ⟨_, h | h | h | h⟩
    · omega
    · exact c2 h
    · exact h (by simpa using c3)
    · exact h (by simpa using c4)
  · rintro (h | ⟨h, _⟩)
    · exact hp h
    · omega
  · rintro (h | h | ⟨h, h4⟩ | ⟨h, _⟩)
    · omega
    · omega
    · exact h4 (by simpa using h1.2.2.1 h)
    · exact h rfl
theorem mem_putL {ls old new : List (List UInt8)} {k : Nat} {x : List UInt8} (h : x ∈ putL ls k old new) : x ∈ ls ∨ x ∈ new := by
  unfold putL at h
  rcases List.mem_append.1 h with h | h
  · rcases List.mem_append.1 h with h | h
    · exact .inl (List.mem_of_mem_take h)
    · exact .inr h
  · exact .inl (List.mem_of_mem_drop h)
theorem putL_check {ls old new : List (List UInt8)} {k : Nat} (hl : checkN (toBs ls) = 0) (hn : checkN (toBs new) = 0) (hr : ls.length + new.length ≤ 2000) : checkN (toBs (putL ls k old new)) = 0 := by
  rw [check_iff] at hl hn ⊢
  refine ⟨?_, fun x hx => ?_⟩
  · unfold putL
    simp only [List.length_append, List.length_take, List.length_drop]
    omega
  · rcases mem_putL hx with h | h
    · exact hl.2 x h
    · exact hn.2 x h
theorem ef_six {m : Look} {p : Pk} (h6 : p.kind = 6) {ls : List (List UInt8)} (h : m p.path = some (false, ls)) (x : List UInt8) : ef m p x = if x = p.path then some (false, putL ls p.at_.toNat p.old p.new) else m x := by
  unfold ef
  rw [if_neg (by omega)]
  simp [h6, h]
theorem ef_five {m : Look} {p : Pk} (h5 : p.kind = 5) (x : List UInt8) : ef m p x = if x = p.dst then m p.path else if x = p.path then none else m x := by
  unfold ef
  rw [if_pos h5]
theorem may_six {m : Look} {p : Pk} (h6 : p.kind = 6) {ls : List (List UInt8)} (h : m p.path = some (false, ls)) (ha : atB ls p.old p.at_ = true) (hc : checkN (toBs (putL ls p.at_.toNat p.old p.new)) = 0) : May7 m p :=
  ⟨fun e => by omega, fun e => by omega, fun e => by omega, fun _ => ⟨ls, h, ha, hc⟩⟩
/-- Two steps that were done one behind the other, and that can change places, are done the other way round, too, and come to the same. -/
theorem swap_all {ks js is : List PF} (h : Well ks) {p q b a : Pk} (hpair : pairP p q = (0, b, a)) (h1 : apP ks p = (0, js)) (h2 : apP js q = (0, is)) (hroom : ∀ k ∈ ks, k.2.2.length + q.new.length ≤ 2000) : ckP b = 0 ∧ ckP a = 0 ∧ ∃ js2, apP ks b = (0, js2) ∧ apP js2 a = (0, is) := by
  obtain ⟨hcp, hcq, hi⟩ := pair_is hpair
  have hj := ap_well h h1
  obtain ⟨mp, ep⟩ := ap_may h hcp h1
  obtain ⟨mq, eq⟩ := ap_may hj hcq h2
  have ej : look js = ef (look ks) p := funext ep
  rw [ej] at mq
  cases hi with
  | behind h6 k6 e hl hb ha =>
    subst ha
    obtain ⟨ls, l1, l2, l3⟩ := mp.hk h6
    obtain ⟨ls2, g1, g2, g3⟩ := mq.hk k6
    rw [ef_six h6 l1, if_pos e.symm] at g1
    cases g1
    obtain ⟨z1, z2, z3⟩ := put_behind (n2 := q.new) l2 g2 hl
    obtain ⟨y0, y1, _⟩ := putL_parts z1
    have hmem := (look_some h.rise).1 l1
    have hlen := (check_iff.1 (h.lines _ hmem)).1
    simp only at hlen
    have hw : wrap64 (q.at_ - a.new.length + a.old.length) = q.at_ - a.new.length + a.old.length := by unfold wrap64; omega
    rw [hw] at hb
    have hcb : ckP b = 0 := by
      rw [hb]
      exact ck_six (path := q.path) (at_ := q.at_) (by cases q; exact hcq) k6 (by rw [← e]; exact touch_names hcp (touch_path a)) y0
    refine ⟨hcb, hcp, ?_⟩
    have b1 : b.kind = 6 := by rw [hb]; exact k6
    have b2 : b.path = a.path := by rw [hb]; exact e.symm
    have b3 : b.at_ = q.at_ - a.new.length + a.old.length := by rw [hb]
    have b4 : b.old = q.old := by rw [hb]
    have b5 : b.new = q.new := by rw [hb]
    have l4 : look ks b.path = some (false, ls) := by rw [b2, l1]
    have hck2 : checkN (toBs (putL ls b.at_.toNat b.old b.new)) = 0 := putL_check (h.lines _ hmem) (by rw [b5]; exact ((ck_facts hcq).2.2.2.2.2.2 k6).2.2) (by rw [b5]; exact hroom _ hmem)
    have l5 : ef (look ks) b a.path = some (false, putL ls b.at_.toNat b.old b.new) := by rw [ef_six b1 l4, if_pos b2.symm]
    have z3' : putL (putL ls b.at_.toNat b.old b.new) a.at_.toNat a.old a.new = putL (putL ls a.at_.toNat a.old a.new) q.at_.toNat q.old q.new := by rw [b3, b4, b5]; exact z3
    refine swap_of h hcp hcq hcb hcp h1 h2 (may_six b1 l4 (by rw [b3, b4]; exact z1) hck2) (may_six h6 l5 (by rw [b3, b4, b5]; exact z2) (by rw [z3']; exact g3)) fun x => ?_
    rw [ef_six h6 l5, ef_six b1 l4, ef_six k6 (ls := putL ls a.at_.toNat a.old a.new) (by rw [ef_six h6 l1, if_pos e.symm]), ef_six h6 l1, z3', ← e, b2]
    by_cases hx : x = a.path <;> simp [hx]
  | ahead h6 k6 e n hl hb ha =>
    subst hb
    obtain ⟨ls, l1, l2, l3⟩ := mp.hk h6
    obtain ⟨ls2, g1, g2, g3⟩ := mq.hk k6
    rw [ef_six h6 l1, if_pos e.symm] at g1
    cases g1
    obtain ⟨z1, z2, z3⟩ := put_ahead (n2 := b.new) l2 g2 hl
    obtain ⟨y0, y1, _⟩ := putL_parts l2
    obtain ⟨x0, x1, _⟩ := putL_parts z2
    have hmem := (look_some h.rise).1 l1
    have hlen := (check_iff.1 (h.lines _ hmem)).1
    simp only at hlen
    have hbn := (ck_nums hcq k6).2.2
    have hw : wrap64 (p.at_ + b.new.length - b.old.length) = p.at_ + b.new.length - b.old.length := by unfold wrap64; omega
    rw [hw] at ha
    have hca : ckP a = 0 := by
      rw [ha]
      exact ck_six (path := p.path) (at_ := p.at_) (by cases p; exact hcp) h6 (touch_names hcp (touch_path p)) x0
    refine ⟨hcq, hca, ?_⟩
    have a1 : a.kind = 6 := by rw [ha]; exact h6
    have a2 : a.path = p.path := by rw [ha]
    have a3 : a.at_ = p.at_ + b.new.length - b.old.length := by rw [ha]
    have a4 : a.old = p.old := by rw [ha]
    have a5 : a.new = p.new := by rw [ha]
    have l4 : look ks b.path = some (false, ls) := by rw [← e, l1]
    have hck2 : checkN (toBs (putL ls b.at_.toNat b.old b.new)) = 0 := putL_check (h.lines _ hmem) ((ck_facts hcq).2.2.2.2.2.2 k6).2.2 (hroom _ hmem)
    have l5 : ef (look ks) b a.path = some (false, putL ls b.at_.toNat b.old b.new) := by rw [ef_six k6 l4, a2, if_pos e]
    have z3' : putL (putL ls b.at_.toNat b.old b.new) a.at_.toNat a.old a.new = putL (putL ls p.at_.toNat p.old p.new) b.at_.toNat b.old b.new := by rw [a3, a4, a5]; exact z3
    refine swap_of h hcp hcq hcq hca h1 h2 (may_six k6 l4 z1 hck2) (may_six a1 l5 (by rw [a3, a4]; exact z2) (by rw [z3']; exact g3)) fun x => ?_
    rw [ef_six a1 l5, ef_six k6 l4, ef_six k6 (ls := putL ls p.at_.toNat p.old p.new) (by rw [ef_six h6 l1, if_pos e.symm]), ef_six h6 l1, z3', ← e, a2]
    by_cases hx : x = p.path <;> simp [hx]
  | moved h5 k6 e hb ha =>
    subst ha
    obtain ⟨⟨ls, l1⟩, l2, l3⟩ := mp.mv h5
    obtain ⟨_, hne⟩ := (ck_facts hcp).2.2.2.2.2.1 h5
    obtain ⟨ls2, g1, g2, g3⟩ := mq.hk k6
    have g1' := g1
    rw [ef_five h5, if_pos e, l1] at g1
    cases g1
    have hcb : ckP b = 0 := by
      rw [hb]
      exact ck_six (path := q.path) (at_ := q.at_) (by cases q; exact hcq) k6 (touch_names hcp (touch_path a)) (ck_nums hcq k6).1
    refine ⟨hcb, hcp, ?_⟩
    have b1 : b.kind = 6 := by rw [hb]; exact k6
    have b2 : b.path = a.path := by rw [hb]
    have b3 : b.at_ = q.at_ := by rw [hb]
    have b4 : b.old = q.old := by rw [hb]
    have b5 : b.new = q.new := by rw [hb]
    have l4 : look ks b.path = some (false, ls) := by rw [b2, l1]
    have mb : May7 (look ks) b := may_six b1 l4 (by rw [b3, b4]; exact g2) (by rw [b3, b4, b5]; exact g3)
    refine swap_of h hcp hcq hcb hcp h1 h2 mb ⟨fun e => by omega, fun e => by omega, fun _ => ⟨⟨_, by rw [ef_six b1 l4, if_pos b2.symm]⟩, ?_, ?_⟩, fun e => by omega⟩ fun x => ?_
    · rw [ef_six b1 l4, if_neg (by rw [b2]; exact fun e => hne e.symm), l2]
    · exact (dir_keep hcb mb (touch_names hcp (touch_dst h5)) (fun hk => by omega)).2 l3
    · rw [ef_five h5, ef_six b1 l4, ef_six b1 l4, ef_six k6 g1', ef_five h5, b2, b3, b4, b5, e]
      by_cases hx : x = a.dst
      · simp [hx]
      · by_cases hx2 : x = a.path
        · simp [hx2, hne]
        · simp [hx, hx2]
  | moves h6 k5 e hb ha =>
    subst hb
    obtain ⟨ls, l1, l2, l3⟩ := mp.hk h6
    obtain ⟨_, hne⟩ := (ck_facts hcq).2.2.2.2.2.1 k5
    obtain ⟨⟨ls2, g1⟩, g2, g3⟩ := mq.mv k5
    have hnd : b.dst ≠ p.path := fun e2 => hne (by rw [e, e2])
    have hdst : look ks b.dst = none := by rw [ef_six h6 l1, if_neg hnd] at g2; exact g2
    have hdir : DirIn (look ks) b.dst := (dir_keep hcp mp (touch_names hcq (touch_dst k5)) (fun hk => by omega)).1 g3
    have hlb : look ks b.path = some (false, ls) := by rw [e, l1]
    have hca : ckP a = 0 := by
      rw [ha]
      exact ck_six (path := p.path) (at_ := p.at_) (by cases p; exact hcp) h6 (touch_names hcq (touch_dst k5)) (ck_nums hcp h6).1
    refine ⟨hcq, hca, ?_⟩
    have a1 : a.kind = 6 := by rw [ha]; exact h6
    have a2 : a.path = b.dst := by rw [ha]
    have a3 : a.at_ = p.at_ := by rw [ha]
    have a4 : a.old = p.old := by rw [ha]
    have a5 : a.new = p.new := by rw [ha]
    have l5 : ef (look ks) b a.path = some (false, ls) := by rw [ef_five k5, if_pos a2, hlb]
    refine swap_of h hcp hcq hcq hca h1 h2 ⟨fun e => by omega, fun e => by omega, fun _ => ⟨⟨ls, hlb⟩, hdst, hdir⟩, fun e => by omega⟩ (may_six a1 l5 (by rw [a3, a4]; exact l2) (by rw [a3, a4, a5]; exact l3)) fun x => ?_
    rw [ef_six a1 l5, ef_five k5, ef_five k5, ef_six h6 l1, ef_six h6 l1, a2, a3, a4, a5, e, if_pos rfl]
    by_cases hx : x = b.dst
    · simp [hx]
    · by_cases hx2 : x = p.path
      · simp [hx2, hnd.symm]
      · simp [hx, hx2]
  | apart hap hb ha =>
    subst hb; subst ha
    exact ⟨hcq, hcp, apart_swap h hcp hcq h1 h2 hap⟩
end Go.Proofs.YtknommnlkdlkdaaGreatDoor
namespace Go.Proofs.YtknommnlkdlkdaaGreatDoor
open Go.RowKit
set_option linter.unusedVariables false

set_option maxHeartbeats 1000000 in
set_option maxRecDepth 100000 in
theorem stands_any (A : Option Addr) (la : List (List UInt8)) (cap : Nat) (h : Hm) (w : World) (d : Bool) (hd : d = atB la h.old h.at_) (hA : Strs w w.heap.size A (toBs la)) (hR : Room A la.length cap) (ok : h.Ok w w.heap.size) (h0 : 0 ≤ h.at_) (hn : la.length ≤ 1000000) (hn2 : h.old.length ≤ 1000000) :
    Calls Tryz.prog 118 #[.slice A la.length cap, .agg #[.int .i64 h.at_, .slice h.a1 h.old.length h.c1, .slice h.a2 h.new.length h.c2]] w fun e w' => e = .returned (.bool d) ∧ Below w.heap.size w w' := by
  have hb1 : Below w.heap.size w (w.alloc (.cells #[.int .i64 h.at_, .slice h.a1 h.old.length h.c1, .slice h.a2 h.new.length h.c2] 129)) := (Below.refl _ _).alloc (Nat.le_refl _) _
  have c0 := HunkAt.new_ w h
  have a0 := c0.c0
  have a1 := c0.c1
  have a2 := c0.c2
  have ok1 := ok.on hb1
  have hA1 := hA.on hb1
  have hi := ok.hi
  by_cases hle : h.at_ ≤ (la.length : Int) - (h.old.length : Int)
  · obtain ⟨k, hk⟩ : ∃ k : Nat, h.at_ = (k : Int) := ⟨h.at_.toNat, by omega⟩
    have hkl : k + h.old.length ≤ la.length := by omega
    obtain ⟨A', cap', ld, e1, p1, r1⟩ := part_mid A la cap k (k + h.old.length) hR (by omega) hkl
    have hld : ld.length = h.old.length := by rw [e1, List.length_take, List.length_drop]; omega
    rw [show k + h.old.length - k = h.old.length by omega] at e1
    have hdd : d = decide (ld = h.old) := by
      rw [hd, hk, e1]
      unfold atB
      simp only [Int.toNat_natCast]
      have t1 : decide ((0 : Int) ≤ (k : Int)) = true := by simp
      have t2 : decide ((k : Int) + (h.old.length : Int) ≤ (la.length : Int)) = true := by simp; omega
      simp only [show (h.old.length : Int) ≤ (la.length : Int) - (k : Int) by omega]
      simp
    have CO0 := lsame_qq A' h.a1 ld h.old cap' h.c1 _ d hdd.symm (p1.strs _ _ hA1) ok1.old (by omega) hn2
    rw [hld] at CO0
    have CO := Lib.hid CO0
    clear CO0
    have HB := Lib.hid hb1
    rw [hk] at a0 hle CO HB ⊢
    have i2 : IntKind.i64.wrap ((la.length : Int) - (h.old.length : Int)) = (la.length : Int) - (h.old.length : Int) := IntWalk.i64_in _ (by omega)
    have q1 : decide ((k : Int) ≤ (la.length : Int) - (h.old.length : Int)) = true := by rw [decide_eq_true_eq]; exact hle
    have i1 : IntKind.i64.wrap ((k : Int) + (h.old.length : Int)) = (k : Int) + (h.old.length : Int) := IntWalk.i64_in _ (by omega)
    have r2 : ∀ w, (Instr.slice 23 (.slice A la.length cap) (some (.int .i64 (k : Int))) (some (.int .i64 ((k : Int) + (h.old.length : Int)))) none).run Tryz.prog w = .ok (.slice A' h.old.length cap') w := by
      intro w
      have := r1 w
      rw [hld] at this
      rwa [show ((k + h.old.length : Nat) : Int) = (k : Int) + (h.old.length : Int) by omega] at this
    clear r1 e1 p1 hdd hd hld c0 ok ok1 hA hA1 hb1 hR hk h0 hi
    generalize h.old = o at *
    generalize h.new = e at *
    generalize h.a1 = x1 at *
    generalize h.a2 = x2 at *
    generalize h.c1 = x3 at *
    generalize h.c2 = x4 at *
    go_enter Tryz.func118, Tryz.ntmps118
    go_wp2
    go_quiet ((go_at_call 45; with_reducible exact CO.out _))
    go_wp2
    go_ret
    exact ⟨rfl, below_drewN HB.out _⟩
  · have hdd : d = false := by
      rw [hd]
      simp [atB]
      omega
    have HB := Lib.hid hb1
    rw [hdd]
    clear hdd hd c0 ok1 hA hA1 hb1 hR
    have i2 : IntKind.i64.wrap ((la.length : Int) - (h.old.length : Int)) = (la.length : Int) - (h.old.length : Int) := IntWalk.i64_in _ (by omega)
    have q1 : decide (h.at_ ≤ (la.length : Int) - (h.old.length : Int)) = false := by rw [decide_eq_false_iff_not]; exact hle
    have q2 := ok.hi
    clear hle ok
    generalize h.at_ = n at *
    generalize h.old.length = m1 at *
    generalize h.new.length = m2 at *
    generalize h.a1 = x1 at *
    generalize h.a2 = x2 at *
    generalize h.c1 = x3 at *
    generalize h.c2 = x4 at *
    go_enter Tryz.func118, Tryz.ntmps118
    go_wp2
    go_quiet (fail)
    go_wp2
    go_ret
    exact ⟨rfl, below_drewN HB.out _⟩
end Go.Proofs.YtknommnlkdlkdaaGreatDoor
namespace Go.Proofs.YtknommnlkdlkdaaGreatDoor
open Go.RowKit
set_option linter.unusedVariables false

theorem sum_take (hs : List Hm) (k : Nat) (hk : k < hs.length) : sumOld (plains (hs.take (k + 1))) = sumOld (plains (hs.take k)) + hs[k].old.length ∧ sumNew (plains (hs.take (k + 1))) = sumNew (plains (hs.take k)) + hs[k].new.length := by
  have e : hs.take (k + 1) = hs.take k ++ [hs[k]] := List.take_succ_eq_append_getElem hk
  rw [e]
  simp only [plains, sumOld, sumNew, List.map_append, List.map_cons, List.map_nil, List.sum_append, List.sum_cons, List.sum_nil, Hm.plain, Nat.add_zero]
  exact ⟨trivial, trivial⟩
theorem take_sums_le {hs : List Hm} (h : ∀ h ∈ hs, h.old.length ≤ 1000000 ∧ h.new.length ≤ 1000000) (k : Nat) (hk : k ≤ hs.length) : sumOld (plains (hs.take k)) ≤ k * 1000000 ∧ sumNew (plains (hs.take k)) ≤ k * 1000000 := by
  induction k with
  | zero => simp [plains, sumOld, sumNew]
  | succ k ih =>
    have := ih (by omega)
    obtain ⟨h1, h2⟩ := sum_take hs k (by omega)
    have := h hs[k] (List.getElem_mem _)
    omega

end Go.Proofs.YtknommnlkdlkdaaGreatDoor
