/- Rows of steps that change places, plainly. Words for memory: rows of hunks. Words for memory: steps, and rows of steps. Package lines' Same; package diff's copied and hunk. The reference's Apply of layer 4. The state of a walk through two lists: the hunks so far, and the hunk that is open. What package diff's calls are to do, as words: each is proved of the landed code. What the laws of steps hold: steps in blocks, rows of steps. Package diff's stands: are a hunk's old lines where it says? -/
import Derived.BigQuiet
import Derived.Deep.QuietTactic
import Derived.Handy
import Derived.Deep.RegionLaw
import Derived.Deep.AppendLies
import Derived.Test.YtalabahjfmcnbaaGreatDoorShelf
import Derived.Test.YtalabahjfmcnbaaGreatDoorCk08
import Derived.Test.YtalabahjfmcnbaaGreatDoorCk47
namespace Go.Proofs.YtalabahjfmcnbaaGreatDoor
open Go.RowKit
set_option linter.unusedVariables false

theorem past_cons {p x q : Pk} {l out : List Pk} (h : pastP p (x :: l) = (0, out, q)) : ∃ b a o2, pairP p x = (0, b, a) ∧ pastP a l = (0, o2, q) ∧ out = b :: o2 := by
  unfold pastP at h
  obtain ⟨n, b, a, e⟩ : ∃ n b a, pairP p x = (n, b, a) := ⟨_, _, _, rfl⟩
  rw [e] at h
  simp only at h
  split at h
  · exact absurd (Prod.mk.inj h).1 (by assumption)
  · rename_i hn
    obtain ⟨m, o2, q2, e2⟩ : ∃ m o q2, pastP a l = (m, o, q2) := ⟨_, _, _, rfl⟩
    rw [e2] at h
    simp only at h
    split at h
    · exact absurd (Prod.mk.inj h).1 (by assumption)
    · rename_i hm
      simp only [ne_eq, Decidable.not_not] at hn hm
      subst hn; subst hm
      simp only [Prod.mk.injEq, true_and] at h
      obtain ⟨rfl, rfl⟩ := h
      exact ⟨b, a, o2, e, e2, rfl⟩
theorem rows_cons {p : Pk} {a b x y : List Pk} (h : rowsP (p :: a) b = (0, x, y)) : ∃ u v q, rowsP a b = (0, u, v) ∧ pastP p u = (0, x, q) ∧ y = q :: v := by
  unfold rowsP at h
  obtain ⟨n, u, v, e⟩ : ∃ n u v, rowsP a b = (n, u, v) := ⟨_, _, _, rfl⟩
  rw [e] at h
  simp only at h
  split at h
  · exact absurd (Prod.mk.inj h).1 (by assumption)
  · rename_i hn
    obtain ⟨m, o2, q2, e2⟩ : ∃ m o q2, pastP p u = (m, o, q2) := ⟨_, _, _, rfl⟩
    rw [e2] at h
    simp only at h
    split at h
    · exact absurd (Prod.mk.inj h).1 (by assumption)
    · rename_i hm
      simp only [ne_eq, Decidable.not_not] at hn hm
      subst hn; subst hm
      simp only [Prod.mk.injEq, true_and] at h
      obtain ⟨rfl, rfl⟩ := h
      exact ⟨u, v, q2, e, e2, rfl⟩
theorem ahead_cons {r x y : Pk} {rs out : List Pk} (h : aheadP (r :: rs) x = (0, y, out)) : ∃ b a o2, pairP r x = (0, b, a) ∧ aheadP rs b = (0, y, o2) ∧ out = o2 ++ [a] := by
  unfold aheadP at h
  obtain ⟨n, b, a, e⟩ : ∃ n b a, pairP r x = (n, b, a) := ⟨_, _, _, rfl⟩
  rw [e] at h
  simp only at h
  split at h
  · exact absurd (Prod.mk.inj h).1 (by assumption)
  · rename_i hn
    obtain ⟨m, y2, o2, e2⟩ : ∃ m y2 o, aheadP rs b = (m, y2, o) := ⟨_, _, _, rfl⟩
    rw [e2] at h
    simp only at h
    split at h
    · exact absurd (Prod.mk.inj h).1 (by assumption)
    · rename_i hm
      simp only [ne_eq, Decidable.not_not] at hn hm
      subst hn; subst hm
      simp only [Prod.mk.injEq, true_and] at h
      obtain ⟨rfl, rfl⟩ := h
      exact ⟨b, a, o2, e, e2, rfl⟩
/-- What a pair's steps bring is as it was. -/
theorem pair_new {p q b a : Pk} (h : pairP p q = (0, b, a)) : b.new = q.new ∧ a.new = p.new := by
  obtain ⟨_, _, hi⟩ := pair_is h
  cases hi with
  | behind h6 k6 e hl hb ha => subst hb; subst ha; exact ⟨rfl, rfl⟩
  | ahead h6 k6 e n hl hb ha => subst hb; subst ha; exact ⟨rfl, rfl⟩
  | moved h5 k6 e hb ha => subst hb; subst ha; exact ⟨rfl, rfl⟩
  | moves h6 k5 e hb ha => subst hb; subst ha; exact ⟨rfl, rfl⟩
  | apart h hb ha => subst hb; subst ha; exact ⟨rfl, rfl⟩
/-- All lines that come, at most. -/
def comesN (l : List Pk) : Nat := (l.map fun p => p.new.length).sum
def RoomK (ks : List PF) (n : Nat) : Prop := ∀ k ∈ ks, k.2.2.length + n ≤ 2000
theorem putL_len (ls : List (List UInt8)) (k : Nat) (old new : List (List UInt8)) : (putL ls k old new).length ≤ ls.length + new.length := by
  unfold putL
  simp only [List.length_append, List.length_take, List.length_drop]
  omega
theorem room_after {ks js : List PF} (h : Well ks) {p : Pk} (hd : apP ks p = (0, js)) {n : Nat} (hn : n ≤ 2000) (hr : RoomK ks (p.new.length + n)) : RoomK js n := by
  have hc := ck_of_ap hd
  have hj := ap_well h hd
  obtain ⟨_, he⟩ := ap_may h hc hd
  intro k hk
  have hl := (look_some hj.rise).2 (show (k.1, k.2) ∈ js from hk)
  rw [he] at hl
  have hin : ∀ {x : List UInt8} {v : Bool × List (List UInt8)}, look ks x = some v → v.2.length + (p.new.length + n) ≤ 2000 := fun e => hr _ ((look_some h.rise).1 e)
  unfold ef at hl
  split at hl
  · split at hl
    · have := hin hl; omega
    · split at hl
      · cases hl
      · have := hin hl; omega
  · split at hl
    · split at hl
      · have e : k.2 = (true, []) := (Option.some.inj hl).symm
        rw [e]
        simpa using hn
      · split at hl
        · have e : k.2 = (false, []) := (Option.some.inj hl).symm
          rw [e]
          simpa using hn
        · split at hl
          · obtain ⟨v, hv, e⟩ := Option.map_eq_some_iff.1 hl
            have h1 := hin hv
            have h2 := putL_len v.2 p.at_.toNat p.old p.new
            rw [← e]
            simp only
            omega
          · cases hl
    · have := hin hl; omega
theorem apAll_cons_inv {ks res : List PF} {p : Pk} {l : List Pk} (h : apAll ks (p :: l) = (0, res)) : ∃ js, apP ks p = (0, js) ∧ apAll js l = (0, res) := by
  obtain ⟨js, h1, h2⟩ := apAll_split (a := [p]) (b := l) h
  exact ⟨js, apAll_one.1 h1, h2⟩
theorem apAll_cons_mk {ks js res : List PF} {p : Pk} {l : List Pk} (h1 : apP ks p = (0, js)) (h2 : apAll js l = (0, res)) : apAll ks (p :: l) = (0, res) := apAll_join (a := [p]) (b := l) (apAll_one.2 h1) h2
/-- A step that passes a row: the same tree. -/
theorem past_same : ∀ (l : List Pk) {ks res : List PF} {p q : Pk} {out : List Pk}, Well ks → RoomK ks (p.new.length + comesN l) → p.new.length + comesN l ≤ 2000 → apAll ks (p :: l) = (0, res) → pastP p l = (0, out, q) → apAll ks (out ++ [q]) = (0, res) ∧ q.new = p.new ∧ comesN out = comesN l
  | [], ks, res, p, q, out, hw, hr, hn, hd, hp => by
    unfold pastP at hp
    simp only [Prod.mk.injEq, true_and] at hp
    obtain ⟨rfl, rfl⟩ := hp
    exact ⟨hd, rfl, rfl⟩
  | x :: l, ks, res, p, q, out, hw, hr, hn, hd, hp => by
    obtain ⟨b, a, o2, e1, e2, rfl⟩ := past_cons hp
    obtain ⟨js, d1, d2⟩ := apAll_cons_inv hd
    obtain ⟨is, d3, d4⟩ := apAll_cons_inv d2
    obtain ⟨n1, n2⟩ := pair_new e1
    have hc : comesN (x :: l) = x.new.length + comesN l := by simp [comesN]
    obtain ⟨_, _, js2, g1, g2⟩ := swap_all hw e1 d1 d3 (fun k hk => by
      have := hr k hk
      omega)
    have hw2 := ap_well hw g1
    have hr2 : RoomK js2 (a.new.length + comesN l) := room_after hw g1 (by rw [n2]; omega) (fun k hk => by
      have := hr k hk
      rw [n1, n2]
      omega)
    obtain ⟨i1, i2, i3⟩ := past_same l hw2 hr2 (by rw [n2]; omega) (apAll_cons_mk g2 d4) e2
    refine ⟨apAll_cons_mk g1 i1, i2.trans n2, ?_⟩
    rw [hc, ← i3]
    simp [comesN, n1]
/-- A row that passes a row: the same tree. -/
theorem rows_same : ∀ (a : List Pk) {b : List Pk} {ks res : List PF} {x y : List Pk}, Well ks → RoomK ks (comesN a + comesN b) → comesN a + comesN b ≤ 2000 → apAll ks (a ++ b) = (0, res) → rowsP a b = (0, x, y) → apAll ks (x ++ y) = (0, res) ∧ comesN x = comesN b
  | [], b, ks, res, x, y, hw, hr, hn, hd, hp => by
    unfold rowsP at hp
    simp only [Prod.mk.injEq, true_and] at hp
    obtain ⟨rfl, rfl⟩ := hp
    exact ⟨by simpa using hd, rfl⟩
  | p :: a, b, ks, res, x, y, hw, hr, hn, hd, hp => by
    obtain ⟨u, v, q, e1, e2, rfl⟩ := rows_cons hp
    obtain ⟨js, d1, d2⟩ := apAll_cons_inv (l := a ++ b) hd
    have hc : comesN (p :: a) = p.new.length + comesN a := by simp [comesN]
    have hw2 := ap_well hw d1
    have hr2 : RoomK js (comesN a + comesN b) := room_after hw d1 (by omega) (fun k hk => by
      have := hr k hk
      omega)
    obtain ⟨i1, i2⟩ := rows_same a hw2 hr2 (by omega) d2 e1
    obtain ⟨ms, m1, m2⟩ := apAll_split i1
    obtain ⟨j1, j2, j3⟩ := past_same u (p := p) hw (fun k hk => by
      have := hr k hk
      rw [i2]
      omega) (by rw [i2]; omega) (apAll_cons_mk d1 m1) e2
    refine ⟨?_, j3.trans i2⟩
    have := apAll_join j1 m2
    simpa using this
/-- A step that comes to the front of those ahead of it: the same tree. -/
theorem ahead_same : ∀ (rs : List Pk) {ks res : List PF} {x y : Pk} {out : List Pk}, Well ks → RoomK ks (comesN rs + x.new.length) → comesN rs + x.new.length ≤ 2000 → apAll ks (rs.reverse ++ [x]) = (0, res) → aheadP rs x = (0, y, out) → apAll ks (y :: out) = (0, res)
  | [], ks, res, x, y, out, hw, hr, hn, hd, hp => by
    unfold aheadP at hp
    simp only [Prod.mk.injEq, true_and] at hp
    obtain ⟨rfl, rfl⟩ := hp
    exact hd
  | r :: rs, ks, res, x, y, out, hw, hr, hn, hd, hp => by
    obtain ⟨b, a, o2, e1, e2, rfl⟩ := ahead_cons hp
    have hc : comesN (r :: rs) = r.new.length + comesN rs := by simp [comesN]
    obtain ⟨n1, n2⟩ := pair_new e1
    rw [List.reverse_cons, List.append_assoc] at hd
    obtain ⟨js, d1, d2⟩ := apAll_split hd
    obtain ⟨is, d3, d4⟩ := apAll_cons_inv (l := [x]) d2
    have hroom : ∀ (l : List Pk) {ks js : List PF} {n : Nat}, Well ks → comesN l + n ≤ 2000 → RoomK ks (comesN l + n) → apAll ks l = (0, js) → RoomK js n ∧ Well js := by
      intro l
      induction l with
      | nil =>
        intro ks js n hw _ hr hd
        unfold apAll at hd
        simp only [Prod.mk.injEq, true_and] at hd
        subst hd
        exact ⟨by simpa [comesN] using hr, hw⟩
      | cons p l ih =>
        intro ks js n hw hn hr hd
        obtain ⟨ms, d1, d2⟩ := apAll_cons_inv hd
        have hc : comesN (p :: l) = p.new.length + comesN l := by simp [comesN]
        exact ih (ap_well hw d1) (by omega) (room_after hw d1 (by omega) (fun k hk => by
          have := hr k hk
          omega)) d2
    have hrev : comesN rs.reverse = comesN rs := by
      unfold comesN
      rw [List.map_reverse, List.sum_reverse]
    obtain ⟨r1, w1⟩ := hroom rs.reverse (n := r.new.length + x.new.length) hw (by omega) (fun k hk => by
      have := hr k hk
      omega) d1
    obtain ⟨_, _, js2, g1, g2⟩ := swap_all w1 e1 d3 (apAll_one.1 d4) (fun k hk => by
      have := r1 k hk
      omega)
    have i1 := ahead_same rs (x := b) hw (fun k hk => by
      have := hr k hk
      rw [n1]
      omega) (by rw [n1]; omega) (apAll_join d1 (apAll_one.2 g1)) e2
    have := apAll_join i1 (apAll_one.2 g2)
    simpa using this
theorem comesN_app (a b : List Pk) : comesN (a ++ b) = comesN a + comesN b := by simp [comesN]
theorem comesN_rev (a : List Pk) : comesN a.reverse = comesN a := by
  unfold comesN
  rw [List.map_reverse, List.sum_reverse]
theorem front_same {l m : List Pk} {i : Nat} {ks res : List PF} (hw : Well ks) (hr : RoomK ks (comesN l)) (hn : comesN l ≤ 2000) (hd : apAll ks l = (0, res)) (hf : frontP l i = (0, m)) : apAll ks m = (0, res) := by
  unfold frontP at hf
  split at hf
  · rename_i h
    obtain ⟨n, y, out, e⟩ : ∃ n y o, aheadP (l.take i).reverse l[i] = (n, y, o) := ⟨_, _, _, rfl⟩
    rw [e] at hf
    simp only at hf
    split at hf
    · exact absurd (Prod.mk.inj hf).1 (by assumption)
    · rename_i hn0
      simp only [ne_eq, Decidable.not_not] at hn0
      subst hn0
      simp only [Prod.mk.injEq, true_and] at hf
      subst hf
      have el : l = (l.take i ++ [l[i]]) ++ l.drop (i + 1) := by
        rw [← List.take_succ_eq_append_getElem h, List.take_append_drop]
      have hs : comesN l = comesN (l.take i).reverse + l[i].new.length + comesN (l.drop (i + 1)) := by
        have e1 := congrArg comesN el
        rw [comesN_app, comesN_app] at e1
        rw [comesN_rev]
        simpa [comesN] using e1
      rw [el] at hd
      obtain ⟨js, d1, d2⟩ := apAll_split hd
      have i1 := ahead_same (l.take i).reverse (x := l[i]) hw (fun k hk => by
        have := hr k hk
        omega) (by omega) (by rw [List.reverse_reverse]; exact d1) e
      have := apAll_join i1 d2
      simpa using this
  · exact absurd (Prod.mk.inj hf).1 (by decide)
end Go.Proofs.YtalabahjfmcnbaaGreatDoor
namespace Go.Proofs.YtalabahjfmcnbaaGreatDoor
open Go.RowKit
set_option linter.unusedVariables false

def Hm.plain (h : Hm) : Hk (List UInt8) := ⟨h.at_.toNat, h.old, h.new⟩
section
variable {w w' : World} {B B' : Nat} {A : Option Addr} {hs : List Hm} {h : Hm}
end

section
variable {w w' : World} {g : Nat} {h : Hm}
end

theorem mayF_plain : ∀ (hs : List Hm) (e : Option Int), mayF e hs = true → (∀ h ∈ hs, 0 ≤ h.at_) ∧ May (hs.map Hm.plain) ∧ (∀ e', e = some e' → -1 ≤ e' → From (e' + 1).toNat (hs.map Hm.plain))
  | [], e, _ => ⟨by simp, trivial, fun _ _ _ => trivial⟩
  | h :: l, e, hm => by
    rw [mayF, Bool.and_eq_true] at hm
    obtain ⟨hm, h4⟩ := hm
    unfold okAt at hm
    rw [decide_eq_true_eq] at hm
    obtain ⟨h1, h2, h3⟩ := hm
    obtain ⟨i1, i2, i3⟩ := mayF_plain l _ h4
    refine ⟨fun g hg => ?_, ⟨?_, ?_, i2⟩, fun e' he hle => ?_⟩
    · rcases List.mem_cons.1 hg with rfl | hg
      · exact h1
      · exact i1 g hg
    · by_cases h0 : h.old = []
      · right
        intro hn
        have hn' : h.new = [] := hn
        exact h2 ⟨by rw [h0]; rfl, by rw [hn']; rfl⟩
      · exact .inl h0
    · have := i3 _ rfl (by omega)
      show From (h.at_.toNat + h.old.length + 1) _
      rwa [show (h.at_ + (h.old.length : Int) + 1).toNat = h.at_.toNat + h.old.length + 1 by omega] at this
    · subst he
      have h3 := h3 e' rfl
      show (e' + 1).toNat ≤ h.at_.toNat
      omega
end Go.Proofs.YtalabahjfmcnbaaGreatDoor
namespace Go.Proofs.YtalabahjfmcnbaaGreatDoor
open Go.RowKit
set_option linter.unusedVariables false

theorem Pm.Light.mid {x : Pm} (h : x.Light) : x.Mid := ⟨h.p, h.q, h.old.mid, h.new.mid⟩
section
variable {w w' : World} {B B' : Nat} {A : Option Addr} {ps : List Pm} {x : Pm}
end

section
variable {w w' : World} {g : Nat} {x : Pm}
end

end Go.Proofs.YtalabahjfmcnbaaGreatDoor
namespace Go.Proofs.YtalabahjfmcnbaaGreatDoor
open Go.RowKit
set_option linter.unusedVariables false

theorem sequal_q (A A2 : Option Addr) (ss tt : List ByteArray) (cap cap2 : Nat) (w : World) (hs : Strs w w.heap.size A ss) (ht : Strs w w.heap.size A2 tt)
    (hn : ss.length ≤ 140737488351232) (hn2 : tt.length ≤ 140737488351232) :
    Calls Tryz.prog 99 #[.slice A ss.length cap, .slice A2 tt.length cap2] w fun e w' => e = .returned (.bool (decide (ss = tt))) ∧ ∃ q, w' = w.drewN q := by
  by_cases hl : ss.length = tt.length
  · by_cases h0 : ss.length = 0
    · have e1 : ss = [] := List.length_eq_zero_iff.1 h0
      have e2 : tt = [] := List.length_eq_zero_iff.1 (by omega)
      subst e1 e2
      exact (Tryz.slices_Equal_string_empty A A2 cap 0 cap2 w (by decide)).mono fun e w' ⟨h1, h2⟩ => ⟨h1, 0, h2⟩
    · obtain ⟨b, off, rfl, _, h1⟩ := hs (by omega)
      obtain ⟨b2, off2, rfl, _, h2⟩ := ht (by omega)
      have h := Tryz.slices_Equal_string b off ss.length cap b2 off2 tt.length cap2 ss tt w (Nat.le_refl _) (Nat.le_refl _) (by omega) (by omega) (fun j hj => by rw [h1 j hj]; simp [List.getD, hj]) (fun j hj => by rw [h2 j hj]; simp [List.getD, hj])
      rwa [List.take_length, List.take_length] at h
  · have hd : decide (ss = tt) = false := by
      rw [decide_eq_false_iff_not]
      exact fun e => hl (by rw [e])
    rw [hd]
    exact (Tryz.slices_Equal_string_lens A A2 ss.length cap tt.length cap2 w hl).mono fun e w' ⟨h1, h2⟩ => ⟨h1, 0, h2⟩
theorem lsame_q (A A2 : Option Addr) (la lc : List (List UInt8)) (cap cap2 : Nat) (w : World) (d : Bool) (hd : decide (la = lc) = d) (hs : Strs w w.heap.size A (toBs la)) (ht : Strs w w.heap.size A2 (toBs lc)) (hn : la.length ≤ 1000000) (hn2 : lc.length ≤ 1000000) :
    Calls Tryz.prog 60 #[.slice A la.length cap, .slice A2 lc.length cap2] w fun e w' => e = .returned (.bool d) ∧ ∃ q, w' = w.drewN q := by
  have h := sequal_q A A2 (toBs la) (toBs lc) cap cap2 w hs ht (by rw [toBs_len]; omega) (by rw [toBs_len]; omega)
  rw [toBs_len, toBs_len, show decide (toBs la = toBs lc) = d from by
    rw [← hd]
    congr 1
    refine propext ⟨fun h => ?_, fun h => by rw [h]⟩
    have := congrArg lists h
    rwa [lists_toBs, lists_toBs] at this] at h
  have HH := Lib.hid h
  clear h hs ht hd
  go_enter Tryz.func60, Tryz.ntmps60
  go_wp2_with fail
  refine HH.out.mono ?_
  rintro e w' ⟨rfl, q, rfl⟩
  go_wp2
  go_ret
  exact ⟨rfl, q, rfl⟩
theorem lsame_qq (A A2 : Option Addr) (la lc : List (List UInt8)) (cap cap2 : Nat) (w : World) (d : Bool) (hd : decide (la = lc) = d) (hs : Strs w w.heap.size A (toBs la)) (ht : Strs w w.heap.size A2 (toBs lc)) (hn : la.length ≤ 1000000) (hn2 : lc.length ≤ 1000000) (n : Nat) :
    Calls Tryz.prog 60 #[.slice A la.length cap, .slice A2 lc.length cap2] (w.drewN n) fun e w' => e = .returned (.bool d) ∧ ∃ m, w' = w.drewN m :=
  Calls.quiet_of (lsame_q A A2 la lc cap cap2 (w.drewN n) d hd hs ht hn hn2)

end Go.Proofs.YtalabahjfmcnbaaGreatDoor
namespace Go.Proofs.YtalabahjfmcnbaaGreatDoor
open Go.RowKit
set_option linter.unusedVariables false

def plains (hs : List Hm) : List (Hk (List UInt8)) := hs.map Hm.plain
/-- Do all hunks stand? -/
def standB (la : List (List UInt8)) (hs : List Hm) : Bool := hs.all fun h => atB la h.old h.at_
theorem atB_stands {la : List (List UInt8)} {h : Hm} (h0 : 0 ≤ h.at_) : atB la h.old h.at_ = true ↔ Stands la h.plain := by
  obtain ⟨k, hk⟩ : ∃ k : Nat, h.at_ = (k : Int) := ⟨h.at_.toNat, by omega⟩
  unfold Stands Hm.plain
  simp only [hk, Int.toNat_natCast]
  unfold atB
  simp only [Bool.and_eq_true, decide_eq_true_eq, Int.toNat_natCast]
  constructor
  · rintro ⟨⟨_, h2⟩, h3⟩
    exact ⟨by omega, h3⟩
  · rintro ⟨h2, h3⟩
    exact ⟨⟨by omega, by omega⟩, h3⟩
theorem drop_may : ∀ (l : List (Hk (List UInt8))) (k : Nat), May l → May (l.drop k)
  | l, 0, h => h
  | [], k + 1, h => trivial
  | g :: l, k + 1, h => drop_may l k h.2.2
end Go.Proofs.YtalabahjfmcnbaaGreatDoor
namespace Go.Proofs.YtalabahjfmcnbaaGreatDoor
open Go.RowKit
set_option linter.unusedVariables false

section
variable {w w' : World} {G : Nat} {h : Hm}
theorem HunkAt.set0 (k : HunkAt w G h) (n : Int) : HunkAt (w.setCell ⟨G, 0, none⟩ (.int .i64 n)) G { h with at_ := n } := by
  unfold HunkAt at k ⊢
  simp [World.setCell, Array.getElem?_modify, k, Hm.cells]
end
end Go.Proofs.YtalabahjfmcnbaaGreatDoor
namespace Go.Proofs.YtalabahjfmcnbaaGreatDoor
open Go.RowKit
set_option linter.unusedVariables false

/-- The error of hunks done. -/
def applE (la : List (List UInt8)) (hs : List Hm) : Int := if mayB hs then (if standB la hs then 0 else 13) else 6
def ApplyC : Prop := ∀ (A A2 : Option Addr) (la : List (List UInt8)) (hs : List Hm) (cap cap2 : Nat) (w : World), Strs w w.heap.size A (toBs la) → Room A la.length cap → Hks w w.heap.size A2 hs → Room A2 hs.length cap2 → Small hs → hs.length ≤ 1000 → la.length + sumNew (plains hs) ≤ 300000 →
  Calls Tryz.prog 139 #[.slice A la.length cap, .slice A2 hs.length cap2] w (Told w (refApp la (plains hs)) (applE la hs))
theorem stands_of {la : List (List UInt8)} {hs : List Hm} (hp : ∀ h ∈ hs, 0 ≤ h.at_) (h : standB la hs = true) : ∀ g ∈ plains hs, Stands la g := fun g hg => by
  obtain ⟨x, hx, rfl⟩ := List.mem_map.1 hg
  exact (atB_stands (hp x hx)).1 (List.all_eq_true.1 h x hx)
end Go.Proofs.YtalabahjfmcnbaaGreatDoor
namespace Go.Proofs.YtalabahjfmcnbaaGreatDoor
open Go.RowKit
set_option linter.unusedVariables false

theorem lt_light {x : Pm} (h : LtK x.key) : x.Light := ⟨h.p, h.q, h.old, h.new⟩
end Go.Proofs.YtalabahjfmcnbaaGreatDoor
namespace Go.Proofs.YtalabahjfmcnbaaGreatDoor
open Go.RowKit
set_option linter.unusedVariables false

set_option maxHeartbeats 1000000 in
set_option maxRecDepth 100000 in
theorem stands_any (A : Option Addr) (la : List (List UInt8)) (cap : Nat) (h : Hm) (w : World) (d : Bool) (hd : d = atB la h.old h.at_) (hA : Strs w w.heap.size A (toBs la)) (hR : Room A la.length cap) (ok : h.Ok w w.heap.size) (h0 : 0 ≤ h.at_) (hn : la.length ≤ 1000000) (hn2 : h.old.length ≤ 1000000) :
    Calls Tryz.prog 160 #[.slice A la.length cap, .agg #[.int .i64 h.at_, .slice h.a1 h.old.length h.c1, .slice h.a2 h.new.length h.c2]] w fun e w' => e = .returned (.bool d) ∧ Below w.heap.size w w' := by
  have hb1 : Below w.heap.size w (w.alloc (.cells #[.int .i64 h.at_, .slice h.a1 h.old.length h.c1, .slice h.a2 h.new.length h.c2] 171)) := (Below.refl _ _).alloc (Nat.le_refl _) _
  have c0 := HunkAt.new_ w h
  have a0 := c0.c0
  have a1 := c0.c1
  have a2 := c0.c2
  have ok1 := ok.on hb1
  have hA1 := hA.on hb1
  have hi := ok.hi
  by_cases hle : h.at_ ≤ (la.length : Int) - (h.old.length : Int)
  · obtain ⟨k, hk⟩ : ∃ k : Nat, h.at_ = (k : Int) := ⟨h.at_.toNat, by omega⟩
    have hkl : k + h.old.length ≤ la.length := by omega
    obtain ⟨A', cap', ld, e1, p1, r1⟩ := part_mid A la cap k (k + h.old.length) hR (by omega) hkl
    have hld : ld.length = h.old.length := by rw [e1, List.length_take, List.length_drop]; omega
    rw [show k + h.old.length - k = h.old.length by omega] at e1
    have hdd : d = decide (ld = h.old) := by
      rw [hd, hk, e1]
      unfold atB
      simp only [Int.toNat_natCast]
      have t1 : decide ((0 : Int) ≤ (k : Int)) = true := by simp
      have t2 : decide ((k : Int) + (h.old.length : Int) ≤ (la.length : Int)) = true := by simp; omega
      simp only [show (h.old.length : Int) ≤ (la.length : Int) - (k : Int) by omega]
      simp
    have CO0 := lsame_qq A' h.a1 ld h.old cap' h.c1 _ d hdd.symm (p1.strs _ _ hA1) ok1.old (by omega) hn2
    rw [hld] at CO0
    have CO := Lib.hid CO0
    clear CO0
    have HB := Lib.hid hb1
    rw [hk] at a0 hle CO HB ⊢
    have i2 : IntKind.i64.wrap ((la.length : Int) - (h.old.length : Int)) = (la.length : Int) - (h.old.length : Int) := IntWalk.i64_in _ (by omega)
    have q1 : decide ((k : Int) ≤ (la.length : Int) - (h.old.length : Int)) = true := by rw [decide_eq_true_eq]; exact hle
    have i1 : IntKind.i64.wrap ((k : Int) + (h.old.length : Int)) = (k : Int) + (h.old.length : Int) := IntWalk.i64_in _ (by omega)
    have r2 : ∀ w, (Instr.slice 31 (.slice A la.length cap) (some (.int .i64 (k : Int))) (some (.int .i64 ((k : Int) + (h.old.length : Int)))) none).run Tryz.prog w = .ok (.slice A' h.old.length cap') w := by
      intro w
      have := r1 w
      rw [hld] at this
      rwa [show ((k + h.old.length : Nat) : Int) = (k : Int) + (h.old.length : Int) by omega] at this
    clear r1 e1 p1 hdd hd hld c0 ok ok1 hA hA1 hb1 hR hk h0 hi
    generalize h.old = o at *
    generalize h.new = e at *
    generalize h.a1 = x1 at *
    generalize h.a2 = x2 at *
    generalize h.c1 = x3 at *
    generalize h.c2 = x4 at *
    go_enter Tryz.func160, Tryz.ntmps160
    go_wp2
    go_quiet ((go_at_call 60; with_reducible exact CO.out _))
    go_wp2
    go_ret
    exact ⟨rfl, below_drewN HB.out _⟩
  · have hdd : d = false := by
      rw [hd]
      simp [atB]
      omega
    have HB := Lib.hid hb1
    rw [hdd]
    clear hdd hd c0 ok1 hA hA1 hb1 hR
    have i2 : IntKind.i64.wrap ((la.length : Int) - (h.old.length : Int)) = (la.length : Int) - (h.old.length : Int) := IntWalk.i64_in _ (by omega)
    have q1 : decide (h.at_ ≤ (la.length : Int) - (h.old.length : Int)) = false := by rw [decide_eq_false_iff_not]; exact hle
    have q2 := ok.hi
    clear hle ok
    generalize h.at_ = n at *
    generalize h.old.length = m1 at *
    generalize h.new.length = m2 at *
    generalize h.a1 = x1 at *
    generalize h.a2 = x2 at *
    generalize h.c1 = x3 at *
    generalize h.c2 = x4 at *
    go_enter Tryz.func160, Tryz.ntmps160
    go_wp2
    go_quiet (fail)
    go_wp2
    go_ret
    exact ⟨rfl, below_drewN HB.out _⟩
end Go.Proofs.YtalabahjfmcnbaaGreatDoor
