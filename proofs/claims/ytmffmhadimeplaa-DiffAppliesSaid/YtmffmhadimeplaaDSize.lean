
/- Package diff's Size, sameHunk and Same. -/
import Derived.Test.YtmffmhadimeplaaDHunk
import Derived.Test.YtmffmhadimeplaaDiffSpec
namespace Go.Proofs.Ytmffmhadimeplaa
open Go.RowKit
set_option linter.unusedVariables false

theorem sum_take (hs : List Hm) (k : Nat) (hk : k < hs.length) : sumOld (plains (hs.take (k + 1))) = sumOld (plains (hs.take k)) + hs[k].old.length ∧ sumNew (plains (hs.take (k + 1))) = sumNew (plains (hs.take k)) + hs[k].new.length := by
  have e : hs.take (k + 1) = hs.take k ++ [hs[k]] := List.take_succ_eq_append_getElem hk
  rw [e]
  simp only [plains, sumOld, sumNew, List.map_append, List.map_cons, List.map_nil, List.sum_append, List.sum_cons, List.sum_nil, Hm.plain, Nat.add_zero]
  exact ⟨trivial, trivial⟩
theorem take_sums_le {hs : List Hm} (h : ∀ h ∈ hs, h.old.length ≤ 1000000 ∧ h.new.length ≤ 1000000) (k : Nat) (hk : k ≤ hs.length) : sumOld (plains (hs.take k)) ≤ k * 1000000 ∧ sumNew (plains (hs.take k)) ≤ k * 1000000 := by
  induction k with
  | zero => simp [plains, sumOld, sumNew]
  | succ k ih =>
    have := ih (by omega)
    obtain ⟨h1, h2⟩ := sum_take hs k (by omega)
    have := h hs[k] (List.getElem_mem _)
    omega

set_option maxHeartbeats 1000000 in
set_option maxRecDepth 100000 in
theorem size_c : SizeC := by
  intro A hs cap w hk hsm hn
  have HK := Lib.hid hk
  have HS := Lib.hid hsm.2
  clear hk hsm
  obtain ⟨so, hso⟩ : ∃ so, so = sumOld (plains hs) := ⟨_, rfl⟩
  obtain ⟨sn, hsn⟩ : ∃ sn, sn = sumNew (plains hs) := ⟨_, rfl⟩
  rw [← hso, ← hsn]
  have HSO := Lib.hid hso
  have HSN := Lib.hid hsn
  clear hso hsn
  go_enter Try.func12, Try.ntmps12
  go_wp2
  go_loopw [4, 5, 10] (fun ov nv i wr => ∃ (k a b : Nat), k ≤ hs.length ∧ i = .int .i64 (k : Int) ∧ ov = .int .i64 (a : Int) ∧ nv = .int .i64 (b : Int) ∧ a ≤ 1000000000 ∧ b ≤ 1000000000 ∧ Hid (a = sumOld (plains (hs.take k)) ∧ b = sumNew (plains (hs.take k))) ∧ Below w.heap.size w wr) (fun _ _ i _ => hs.length - (intOf i).toNat)
  case atStart => exact ⟨0, 0, 0, Nat.zero_le _, rfl, rfl, rfl, by omega, by omega, ⟨by simp [plains, sumOld], by simp [plains, sumNew]⟩, Below.refl _ _⟩
  case round =>
    obtain ⟨k, a, b, hk, rfl, rfl, rfl, ha, hb2, hab, hb⟩ := hrel
    by_cases hlt : k < hs.length
    · have hK := HK.out.on hb
      obtain ⟨g, off, rfl, hbl, h1, h2, h3⟩ := hK.get hlt
      have s1 := (HS.out hs[k] (List.getElem_mem _)).1
      have s2 := (HS.out hs[k] (List.getElem_mem _)).2
      have hst := sum_take hs k hlt
      have hle := take_sums_le HS.out (k + 1) (by omega)
      obtain ⟨e1, e2⟩ := hab.out
      have hnew : Hid (a + hs[k].old.length = sumOld (plains (hs.take (k + 1))) ∧ b + hs[k].new.length = sumNew (plains (hs.take (k + 1)))) := ⟨by omega, by omega⟩
      have a1 : a + hs[k].old.length ≤ 1000000000 := by omega
      have a2 : b + hs[k].new.length ≤ 1000000000 := by omega
      clear hab hst hle e1 e2 hK
      generalize hs[k].at_ = n at *
      generalize hs[k].old.length = m1 at *
      generalize hs[k].new.length = m2 at *
      generalize hs[k].a1 = x1 at *
      generalize hs[k].a2 = x2 at *
      generalize hs[k].c1 = x3 at *
      generalize hs[k].c2 = x4 at *
      go_wp2
      go_roundw
      case rel => exact ⟨k + 1, a + m1, b + m2, by omega, by go_num, by go_num, by go_num, a1, a2, hnew, hb.alloc hb.size _⟩
      case measure => simp [intOf]; omega
    · obtain rfl : k = hs.length := by omega
      have e : Hid (a = so ∧ b = sn) := by
        obtain ⟨e1, e2⟩ := hab.out
        rw [List.take_length] at e1 e2
        exact ⟨by rw [e1, HSO.out], by rw [e2, HSN.out]⟩
      clear hab
      go_wp2
      go_ret2
      rw [e.out.1, e.out.2]
      exact ⟨rfl, hb⟩

set_option maxHeartbeats 1000000 in
set_option maxRecDepth 100000 in
/-- sameHunk, of two hunks by value. -/
theorem samehunk_any (h k : Hm) (w : World) (d : Bool) (hd : decide (h.key = k.key) = d) (o1 : h.Ok w w.heap.size) (o2 : k.Ok w w.heap.size) (s1 : h.old.length ≤ 1000000 ∧ h.new.length ≤ 1000000) (s2 : k.old.length ≤ 1000000 ∧ k.new.length ≤ 1000000) :
    Calls Try.prog 30 #[.agg #[.int .i64 h.at_, .slice h.a1 h.old.length h.c1, .slice h.a2 h.new.length h.c2], .agg #[.int .i64 k.at_, .slice k.a1 k.old.length k.c1, .slice k.a2 k.new.length k.c2]] w fun e w' => e = .returned (.bool d) ∧ Below w.heap.size w w' := by
  have hb1 : Below w.heap.size w ((w.alloc (.cells #[.int .i64 h.at_, .slice h.a1 h.old.length h.c1, .slice h.a2 h.new.length h.c2] 47)).alloc (.cells #[.int .i64 k.at_, .slice k.a1 k.old.length k.c1, .slice k.a2 k.new.length k.c2] 47)) :=
    ((Below.refl _ _).alloc (Nat.le_refl _) _).alloc (by simp) _
  have p1 := o1.on hb1
  have p2 := o2.on hb1
  have c0 := HunkAt.new_ w h
  have c1 : HunkAt ((w.alloc (.cells #[.int .i64 h.at_, .slice h.a1 h.old.length h.c1, .slice h.a2 h.new.length h.c2] 47)).alloc (.cells #[.int .i64 k.at_, .slice k.a1 k.old.length k.c1, .slice k.a2 k.new.length k.c2] 47)) w.heap.size h := c0.on ((Below.refl _ _).alloc (Nat.le_refl _) _)
  have c2 := HunkAt.new_ (w.alloc (.cells #[.int .i64 h.at_, .slice h.a1 h.old.length h.c1, .slice h.a2 h.new.length h.c2] 47)) k
  have key : (h.key = k.key) = (h.at_ = k.at_ ∧ h.old = k.old ∧ h.new = k.new) := by simp [Hm.key]
  have CO := Lib.hid (lsame_q h.a1 k.a1 h.old k.old h.c1 k.c1 _ _ rfl p1.old p2.old s1.1 s2.1)
  have CN := Lib.hid (lsame_qq h.a2 k.a2 h.new k.new h.c2 k.c2 _ _ rfl p1.new p2.new s1.2 s2.2)
  have hd2 : d = decide (h.at_ = k.at_ ∧ h.old = k.old ∧ h.new = k.new) := by
    rw [← hd]
    exact decide_eq_decide.2 (by rw [key])
  have HB := Lib.hid hb1
  have HD := Lib.hid hd2
  clear o1 o2 p1 p2 c0 key hd hd2 hb1
  have a0 := c1.c0
  have a1 := c1.c1
  have a2 := c1.c2
  have b0 := c2.c0
  have b1 := c2.c1
  have b2 := c2.c2
  clear c1 c2 s1 s2
  generalize h.at_ = n at *
  generalize k.at_ = n2 at *
  generalize h.old = o1 at *
  generalize k.old = o2 at *
  generalize h.new = e1 at *
  generalize k.new = e2 at *
  generalize h.a1 = x1 at *
  generalize h.a2 = x2 at *
  generalize h.c1 = x3 at *
  generalize h.c2 = x4 at *
  generalize k.a1 = y1 at *
  generalize k.a2 = y2 at *
  generalize k.c1 = y3 at *
  generalize k.c2 = y4 at *
  by_cases ha : n = n2
  · by_cases ho : o1 = o2
    · rw [decide_eq_true ho] at CO
      have hde : decide (n = n2 ∧ o1 = o2 ∧ e1 = e2) = decide (e1 = e2) := decide_eq_decide.2 ⟨fun h => h.2.2, fun h => ⟨ha, ho, h⟩⟩
      have HF : Hid (d = decide (e1 = e2)) := by show _ = _; rw [HD.out, hde]
      generalize decide (e1 = e2) = dd at *
      clear hde HD ho
      subst ha
      rw [HF.out]
      go_enter Try.func30, Try.ntmps30
      go_wp2_with fail
      refine CO.out.mono ?_
      rintro e w1 ⟨rfl, q, rfl⟩
      go_wp2_with fail
      refine (CN.out q).mono ?_
      rintro e w2 ⟨rfl, q2, rfl⟩
      go_wp2
      go_ret
      exact ⟨rfl, below_drewN HB.out q2⟩
    · rw [decide_eq_false ho] at CO
      have HF : Hid (d = false) := by show _ = _; rw [HD.out, decide_eq_false_iff_not]; exact fun h => ho h.2.1
      clear HD ho
      subst ha
      rw [HF.out]
      go_enter Try.func30, Try.ntmps30
      go_wp2_with fail
      refine CO.out.mono ?_
      rintro e w1 ⟨rfl, q, rfl⟩
      go_wp2
      go_ret
      exact ⟨rfl, below_drewN HB.out q⟩
  · have HF : Hid (d = false) := by show _ = _; rw [HD.out, decide_eq_false_iff_not]; exact fun h => ha h.1
    have w1 : (n == n2) = false := by rw [beq_eq_false_iff_ne]; exact ha
    clear HD ha
    rw [HF.out]
    go_enter Try.func30, Try.ntmps30
    go_wp2
    go_ret
    exact ⟨rfl, HB.out⟩
end Go.Proofs.Ytmffmhadimeplaa
