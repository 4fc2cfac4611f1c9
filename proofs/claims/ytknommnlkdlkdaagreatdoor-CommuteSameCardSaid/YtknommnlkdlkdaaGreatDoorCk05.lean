/- Pairs of steps, plainly: what they touch, whether they are apart, the other way round. append of strings to an own row, at a step of a region that draws its order. Package commute's copied, at, onward, grown, ofOneFile, touched. Texts held against each other. -/
import Derived.Test.YtknommnlkdlkdaaGreatDoorCk03
import Derived.Test.YtknommnlkdlkdaaGreatDoorCk02
import Derived.Deep.AppendLies
import Derived.Test.YtknommnlkdlkdaaGreatDoorCk04
import Derived.Deep.RegionLaw
import Derived.Deep.RegionHeld3
import Derived.Test.YtknommnlkdlkdaaGreatDoorCk01
namespace Go.Proofs.YtknommnlkdlkdaaGreatDoor
open Go.RowKit
set_option linter.unusedVariables false

/-- What a step touches. -/
def touches (p : Pk) : List (List UInt8) := if p.kind = 5 then [p.path, p.dst] else [p.path]
/-- A path lies within a directory (by their names alone). -/
def inDir (x d : List UInt8) : Bool := decide ((names nameP d).length < (names nameP x).length) && beginsP (names nameP x) (names nameP d)
def nearP (p : Pk) (mine other : List UInt8) : Bool := decide (mine = other) || (decide (p.kind ≤ 2) && inDir other mine)
/-- Are two steps apart (that may be, both)? -/
def apartP (p q : Pk) : Bool := (touches p).all fun x => (touches q).all fun y => !nearP p x y && !nearP q y x
theorem apart_iff {p q : Pk} : apartP p q = true ↔ ∀ x ∈ touches p, ∀ y ∈ touches q, x ≠ y ∧ (p.kind ≤ 2 → inDir y x = false) ∧ (q.kind ≤ 2 → inDir x y = false) := by
  unfold apartP nearP
  simp only [List.all_eq_true]
  refine forall_congr' fun x => forall_congr' fun _ => forall_congr' fun y => forall_congr' fun _ => ?_
  have hc : y = x ↔ x = y := ⟨Eq.symm, Eq.symm⟩
  by_cases e : x = y
  · simp [e]
  · have e2 : ¬ y = x := fun h => e h.symm
    by_cases h1 : p.kind ≤ 2 <;> by_cases h2 : q.kind ≤ 2 <;> simp [e, e2, h1, h2]
theorem apart_comm {p q : Pk} (h : apartP p q = true) : apartP q p = true := by
  rw [apart_iff] at h ⊢
  intro y hy x hx
  obtain ⟨a, b, c⟩ := h x hx y hy
  exact ⟨fun e => a e.symm, c, b⟩
theorem touch_names {p : Pk} (hc : ckP p = 0) {x : List UInt8} (h : x ∈ touches p) : names nameP x ≠ [] := by
  obtain ⟨k1, k6, f5, fz, fn, fm, fh⟩ := ck_facts hc
  unfold touches at h
  split at h
  · rename_i e
    simp only [List.mem_cons, List.not_mem_nil, or_false] at h
    rcases h with rfl | rfl
    · exact fn
    · exact (fm e).1
  · simp only [List.mem_cons, List.not_mem_nil, or_false] at h
    subst h
    exact fn
theorem touch_path (p : Pk) : p.path ∈ touches p := by unfold touches; split <;> simp
theorem touch_dst {p : Pk} (h : p.kind = 5) : p.dst ∈ touches p := by unfold touches; rw [if_pos h]; simp
/-- Two hunks of one file, the second one ahead. -/
def shiftP (p q : Pk) : Option (Pk × Pk) :=
  if p.at_ + p.new.length < q.at_ then some (⟨q.kind, q.path, q.dst, wrap64 (q.at_ - p.new.length + p.old.length), q.old, q.new⟩, p)
  else if q.at_ + q.old.length < p.at_ then some (q, ⟨p.kind, p.path, p.dst, wrap64 (p.at_ + q.new.length - q.old.length), p.old, p.new⟩)
  else none
def zeroP : Pk := ⟨0, [], [], 0, [], []⟩
/-- The second one, as it is ahead, and the first one, as it is behind it. -/
def pairP (p q : Pk) : Int × Pk × Pk :=
  if ckP p ≠ 0 then (ckP p, zeroP, zeroP)
  else if ckP q ≠ 0 then (ckP q, zeroP, zeroP)
  else if p.kind = 6 ∧ q.kind = 6 ∧ p.path = q.path then (match shiftP p q with
    | some r => (0, r.1, r.2)
    | none => (13, zeroP, zeroP))
  else if p.kind = 5 ∧ q.kind = 6 ∧ q.path = p.dst then (0, ⟨q.kind, p.path, q.dst, q.at_, q.old, q.new⟩, p)
  else if p.kind = 6 ∧ q.kind = 5 ∧ q.path = p.path then (0, q, ⟨p.kind, q.dst, p.dst, p.at_, p.old, p.new⟩)
  else if apartP p q = true then (0, q, p) else (13, zeroP, zeroP)
/-- How a pair comes to be. -/
inductive PairIs (p q b a : Pk) : Prop
  | behind (h6 : p.kind = 6) (k6 : q.kind = 6) (e : p.path = q.path) (h : p.at_ + p.new.length < q.at_) (hb : b = ⟨q.kind, q.path, q.dst, wrap64 (q.at_ - p.new.length + p.old.length), q.old, q.new⟩) (ha : a = p)
  | ahead (h6 : p.kind = 6) (k6 : q.kind = 6) (e : p.path = q.path) (n : ¬ p.at_ + p.new.length < q.at_) (h : q.at_ + q.old.length < p.at_) (hb : b = q) (ha : a = ⟨p.kind, p.path, p.dst, wrap64 (p.at_ + q.new.length - q.old.length), p.old, p.new⟩)
  | moved (h5 : p.kind = 5) (k6 : q.kind = 6) (e : q.path = p.dst) (hb : b = ⟨q.kind, p.path, q.dst, q.at_, q.old, q.new⟩) (ha : a = p)
  | moves (h6 : p.kind = 6) (k5 : q.kind = 5) (e : q.path = p.path) (hb : b = q) (ha : a = ⟨p.kind, q.dst, p.dst, p.at_, p.old, p.new⟩)
  | apart (h : apartP p q = true) (hb : b = q) (ha : a = p)
theorem pair_is {p q b a : Pk} (h : pairP p q = (0, b, a)) : ckP p = 0 ∧ ckP q = 0 ∧ PairIs p q b a := by
  unfold pairP at h
  split at h
  · rename_i hc
    exact absurd (Prod.mk.inj h).1 hc
  rename_i h1
  split at h
  · rename_i hc
    exact absurd (Prod.mk.inj h).1 hc
  rename_i h2
  refine ⟨by simpa using h1, by simpa using h2, ?_⟩
  split at h
  · rename_i h3
    obtain ⟨a1, a2, a3⟩ := h3
    unfold shiftP at h
    split at h
    · rename_i r hr
      split at hr
      · rename_i hl
        cases hr; cases h
        exact .behind a1 a2 a3 hl rfl rfl
      · rename_i hn
        split at hr
        · rename_i hl
          cases hr; cases h
          exact .ahead a1 a2 a3 hn hl rfl rfl
        · cases hr
    · simp at h
  split at h
  · rename_i h4
    obtain ⟨a1, a2, a3⟩ := h4
    cases h
    exact .moved a1 a2 a3 rfl rfl
  split at h
  · rename_i h5
    obtain ⟨a1, a2, a3⟩ := h5
    cases h
    exact .moves a1 a2 a3 rfl rfl
  split at h
  · rename_i h6
    cases h
    exact .apart h6 rfl rfl
  · simp at h
theorem apart_not {p q : Pk} (h : apartP p q = true) : p.path ≠ q.path ∧ (p.kind = 5 → q.path ≠ p.dst) ∧ (q.kind = 5 → q.dst ≠ p.path) := by
  rw [apart_iff] at h
  refine ⟨(h _ (touch_path p) _ (touch_path q)).1, fun e e2 => (h _ (touch_dst e) _ (touch_path q)).1 e2.symm, fun e e2 => (h _ (touch_path p) _ (touch_dst e)).1 e2.symm⟩
theorem pair_apart {p q : Pk} (hp : ckP p = 0) (hq : ckP q = 0) (h : apartP p q = true) : pairP p q = (0, q, p) := by
  obtain ⟨h1, h2, h3⟩ := apart_not h
  unfold pairP
  rw [if_neg (by simpa using hp), if_neg (by simpa using hq), if_neg (fun e => h1 e.2.2), if_neg (fun e => h2 e.1 e.2.2), if_neg (fun e => h1 e.2.2.symm), if_pos h]
theorem ck_nums {p : Pk} (h : ckP p = 0) (e : p.kind = 6) : 0 ≤ p.at_ ∧ p.old.length ≤ 2000 ∧ p.new.length ≤ 2000 := by
  obtain ⟨_, _, _, _, _, _, fh⟩ := ck_facts h
  obtain ⟨a, b, c⟩ := fh e
  exact ⟨a, (check_iff.1 b).1, (check_iff.1 c).1⟩
/-- A pair the other way round once more: both as they were. -/
theorem pair_back {p q b a : Pk} (h : pairP p q = (0, b, a)) (rp : p.at_ < 9223372036854775808) (rq : q.at_ < 9223372036854775808) (cb : ckP b = 0) (ca : ckP a = 0) : pairP b a = (0, p, q) := by
  obtain ⟨cp, cq, hi⟩ := pair_is h
  cases hi with
  | behind h6 k6 e hl hb ha =>
    obtain ⟨a1, a2, a3⟩ := ck_nums cp h6
    obtain ⟨b1, b2, b3⟩ := ck_nums cq k6
    subst ha
    have c1 := (ck_nums cb (by rw [hb]; exact k6)).1
    rw [hb] at c1
    simp only at c1
    have hw : wrap64 (q.at_ - a.new.length + a.old.length) = q.at_ - a.new.length + a.old.length := by
      unfold wrap64 at c1 ⊢
      omega
    have hw2 : wrap64 (q.at_ - a.new.length + a.old.length + a.new.length - a.old.length) = q.at_ := by
      unfold wrap64
      omega
    rw [hw] at hb
    unfold pairP shiftP
    rw [if_neg (by simpa using cb), if_neg (by simpa using ca), hb]
    simp only
    rw [if_pos ⟨k6, h6, e.symm⟩, if_neg (by omega), if_pos (by omega), hw2]
  | ahead h6 k6 e n hl hb ha =>
    obtain ⟨a1, a2, a3⟩ := ck_nums cp h6
    obtain ⟨b1, b2, b3⟩ := ck_nums cq k6
    subst hb
    have c1 := (ck_nums ca (by rw [ha]; exact h6)).1
    rw [ha] at c1
    simp only at c1
    have hw : wrap64 (p.at_ + b.new.length - b.old.length) = p.at_ + b.new.length - b.old.length := by
      unfold wrap64 at c1 ⊢
      omega
    have hw2 : wrap64 (p.at_ + b.new.length - b.old.length - b.new.length + b.old.length) = p.at_ := by
      unfold wrap64
      omega
    rw [hw] at ha
    unfold pairP shiftP
    rw [if_neg (by simpa using cb), if_neg (by simpa using ca), ha]
    simp only
    rw [if_pos ⟨k6, h6, e.symm⟩, if_pos (by omega), hw2]
  | moved h5 k6 e hb ha =>
    subst ha
    have e1 : b.kind = 6 := by rw [hb]; exact k6
    have e2 : b.path = a.path := by rw [hb]
    unfold pairP
    rw [if_neg (by simpa using cb), if_neg (by simpa using ca), if_neg (by omega), if_neg (by omega), if_pos ⟨e1, h5, e2.symm⟩, hb]
    simp only [← e]
  | moves h6 k5 e hb ha =>
    subst hb
    have e1 : a.kind = 6 := by rw [ha]; exact h6
    have e2 : a.path = b.dst := by rw [ha]
    unfold pairP
    rw [if_neg (by simpa using cb), if_neg (by simpa using ca), if_neg (by omega), if_pos ⟨k5, e1, e2⟩, ha]
    simp only [e]
  | apart h hb ha =>
    subst hb; subst ha
    exact pair_apart cb ca (apart_comm h)
/-- A pair of hunks, by their places. -/
theorem pair_six {p q b a : Pk} (h : pairP p q = (0, b, a)) (h6 : p.kind = 6) (k6 : q.kind = 6) : 0 ≤ p.at_ ∧ 0 ≤ q.at_ ∧ ∃ u v : Int, b = ⟨q.kind, q.path, q.dst, u, q.old, q.new⟩ ∧ a = ⟨p.kind, p.path, p.dst, v, p.old, p.new⟩ ∧
    ((p.path ≠ q.path ∧ u = q.at_ ∧ v = p.at_) ∨ (p.path = q.path ∧ p.at_ + p.new.length < q.at_ ∧ u = wrap64 (q.at_ - p.new.length + p.old.length) ∧ v = p.at_) ∨ (p.path = q.path ∧ ¬ p.at_ + p.new.length < q.at_ ∧ q.at_ + q.old.length < p.at_ ∧ u = q.at_ ∧ v = wrap64 (p.at_ + q.new.length - q.old.length))) := by
  obtain ⟨cp, cq, hi⟩ := pair_is h
  refine ⟨(ck_nums cp h6).1, (ck_nums cq k6).1, ?_⟩
  cases hi with
  | behind _ _ e hl hb ha => exact ⟨_, _, hb, ha, .inr (.inl ⟨e, hl, rfl, rfl⟩)⟩
  | ahead _ _ e n hl hb ha => exact ⟨_, _, hb, ha, .inr (.inr ⟨e, n, hl, rfl, rfl⟩)⟩
  | moved h5 _ _ _ _ => omega
  | moves _ k5 _ _ _ => omega
  | apart h hb ha => exact ⟨_, _, hb, ha, .inl ⟨(apart_not h).1, rfl, rfl⟩⟩
end Go.Proofs.YtknommnlkdlkdaaGreatDoor
namespace Go.Proofs.YtknommnlkdlkdaaGreatDoor
open Go.RowKit
set_option linter.unusedVariables false

theorem step_append_strs {w : World} {ops : Array Oper} {o : Oper} {a : Act} {K : Act → World → Prop} {Q : Exit → Act → World → Prop} {E : Prop} (hgd : o.guard = none) (s x : Operand)
    (ho : o.op = .call { callee := .builtin .append, args := #[s, x], argTypes := #[23, 23] })
    (B : Nat) (v : Value) (ls tt : List (List UInt8)) (hs : a.eval s = v) (hown : OwnS w B v ls) (A : Option Addr) (cap n : Nat) (hx : a.eval x = .slice A n cap) (hn : n = tt.length) (hnil : A = none → cap = 0) (ht : Strs w w.heap.size A (toBs tt)) (hB : B ≤ w.heap.size) (hle : ls.length + tt.length ≤ 1000000)
    (h : ∀ v' w', OwnS w' B v' (ls ++ tt) → w.grownBy w' v.ownBlock → K (a.put o.dst v') w') : if Region.wanted o (yielded ops a.tmps) = true then Oper.wp Tryz.prog o a w K Q else E := by
  have hw : Region.wanted o (yielded ops a.tmps) = true := by simp [Region.wanted, hgd]
  rw [if_pos hw]
  subst hn
  obtain ⟨i0, hi, hz0, hz1, hz2⟩ := info_parts info_str
  cases A with
  | none =>
    have h0 : tt = [] := by
      cases tt with
      | nil => rfl
      | cons y r => exact absurd (ht (by simp [toBs])) (by rintro ⟨_, _, e, _⟩; cases e)
    subst h0
    rw [hnil rfl] at hx
    have hrun := run_append_owned_none (P := Tryz.prog) (w := w) B 23 o.type 9 i0 1 Tryz.underlying23 hi v _ _ hown
    have hk := h v w (by simpa using hown) ⟨rfl, rfl, rfl, Nat.le_refl _, fun _ _ _ => rfl⟩
    unfold Oper.wp
    simp [execOp, ho, resolve, invoke, builtin, hs, hx, hrun, Result.andThen]
    exact hk
  | some ad =>
    refine wp_append_own w s x 23 ho B 9 i0 (.string ByteArray.empty) 1 16 Tryz.underlying23 hi hz0 hz1 hz2 rfl (by decide) v ls.length (ls.map encStr) hs hown ad tt.length cap (tt.map encStr) hx (by simp) ?_ (oneCell_str tt) (by unfold maxLen; omega) (by omega) hB ?_
    · intro j u hu
      obtain ⟨hj, hju⟩ := List.getElem?_eq_some_iff.1 hu
      have hj2 : j < tt.length := by simpa using hj
      obtain ⟨b, off, e, hb, hc⟩ := ht (by rw [toBs_len]; omega)
      simp only [Option.some.injEq] at e
      subst e
      have hadd : (⟨b, off, none⟩ : Addr).add j = ⟨b, off + j, none⟩ := by unfold Addr.add; split <;> simp_all
      rw [hadd, hc j (by rw [toBs_len]; exact hj2), ← hju]
      simp [toBs, encStr_eq]
    · intro v' w' hown' hgrow _
      refine h v' w' ?_ hgrow
      unfold OwnS
      rw [List.length_append, List.map_append]
      exact hown'
end Go.Proofs.YtknommnlkdlkdaaGreatDoor
namespace Go.Proofs.YtknommnlkdlkdaaGreatDoor
open Go.RowKit
set_option linter.unusedVariables false

theorem wrap_lo (n : Int) : -9223372036854775808 ≤ wrap64 n ∧ wrap64 n ≤ 9223372036854775807 := by unfold wrap64; omega
theorem pm_at {w : World} {g : Nat} {kind : Int} {p q : ByteArray} {at_ : Int} {a1 : Option Addr} {c1 : Nat} {old : List (List UInt8)} {a2 : Option Addr} {c2 : Nat} {new : List (List UInt8)} {A B : Option Addr} {m c n d : Nat} (k : PrimAt w g ⟨kind, p, q, at_, a1, c1, old, a2, c2, new⟩) (h1 : m = old.length) (h2 : n = new.length) :
    PrimAt ((w.setCell ⟨g, 4, none⟩ (.slice A m c)).setCell ⟨g, 5, none⟩ (.slice B n d)) g ⟨kind, p, q, at_, A, c, old, B, d, new⟩ := by
  subst h1; subst h2
  unfold PrimAt at k ⊢
  simp [World.setCell, Array.getElem?_modify, k, Pm.cells]
theorem grown45 (w : World) (g : Nat) (u v : Value) : w.grownBy ((w.setCell ⟨g, 4, none⟩ u).setCell ⟨g, 5, none⟩ v) (some g) := grown_on (grown_cell _ _ _ _) (grown_cell _ _ _ _)
/-- The zero step in a result's cells, behind a step in a parameter's. -/
theorem boxes (w : World) (x : Pm) : Below w.heap.size w ((w.alloc (.cells x.cells.toArray 25)).alloc (.cells (Pm.cells ⟨0, ⟨#[]⟩, ⟨#[]⟩, 0, none, 0, [], none, 0, []⟩).toArray 25)) ∧
    PrimAt ((w.alloc (.cells x.cells.toArray 25)).alloc (.cells (Pm.cells ⟨0, ⟨#[]⟩, ⟨#[]⟩, 0, none, 0, [], none, 0, []⟩).toArray 25)) w.heap.size x ∧
    PrimAt ((w.alloc (.cells x.cells.toArray 25)).alloc (.cells (Pm.cells ⟨0, ⟨#[]⟩, ⟨#[]⟩, 0, none, 0, [], none, 0, []⟩).toArray 25)) (w.heap.size + 1) ⟨0, ⟨#[]⟩, ⟨#[]⟩, 0, none, 0, [], none, 0, []⟩ := by
  have hb0 : Below w.heap.size w (w.alloc (.cells x.cells.toArray 25)) := (Below.refl _ _).alloc (Nat.le_refl _) _
  have hb1 : Below (w.alloc (.cells x.cells.toArray 25)).heap.size (w.alloc (.cells x.cells.toArray 25)) ((w.alloc (.cells x.cells.toArray 25)).alloc (.cells (Pm.cells ⟨0, ⟨#[]⟩, ⟨#[]⟩, 0, none, 0, [], none, 0, []⟩).toArray 25)) := (Below.refl _ _).alloc (Nat.le_refl _) _
  refine ⟨hb0.trans (hb1.mono hb0.size), (PrimAt.new_ w x).on hb1, ?_⟩
  have h := PrimAt.new_ (w.alloc (.cells x.cells.toArray 25)) ⟨0, ⟨#[]⟩, ⟨#[]⟩, 0, none, 0, [], none, 0, []⟩
  rw [World.size_alloc] at h
  exact h
set_option maxHeartbeats 8000000 in
set_option maxRecDepth 100000 in
theorem ccopied_any (x : Pm) (w : World) (ok : x.Ok w w.heap.size) (m1 : x.old.length ≤ 1000000) (m2 : x.new.length ≤ 1000000) :
    Calls Tryz.prog 44 #[x.val] w (PrimLeft w x.key) := by
  obtain ⟨kind, p, q, at_, a1, c1, old, a2, c2, new⟩ := x
  unfold Pm.val
  simp only [] at m1 m2 ⊢
  obtain ⟨hal, hx, hp⟩ := boxes w ⟨kind, p, q, at_, a1, c1, old, a2, c2, new⟩
  have HX := Lib.hid hx
  have HP := Lib.hid hp
  have HO := Lib.hid (ok.on hal)
  have HA := Lib.hid hal
  have b0 : ((w.alloc (.cells #[.int .i64 kind, .string p, .string q, .int .i64 at_, .slice a1 old.length c1, .slice a2 new.length c2] 25)).alloc (.cells #[.int .i64 0, .string ⟨#[]⟩, .string ⟨#[]⟩, .int .i64 0, .slice none 0 0, .slice none 0 0] 25)).cell? ⟨w.heap.size, 4, none⟩ = some (.slice a1 old.length c1) := HX.out.c4
  have b1 : ((w.alloc (.cells #[.int .i64 kind, .string p, .string q, .int .i64 at_, .slice a1 old.length c1, .slice a2 new.length c2] 25)).alloc (.cells #[.int .i64 0, .string ⟨#[]⟩, .string ⟨#[]⟩, .int .i64 0, .slice none 0 0, .slice none 0 0] 25)).cell? ⟨w.heap.size, 5, none⟩ = some (.slice a2 new.length c2) := HX.out.c5
  clear hal hx hp ok
  go_enter Tryz.func44, Tryz.ntmps44
  go_wp2_with fail
  have e0 : ((w.alloc (.cells (Pm.cells ⟨kind, p, q, at_, a1, c1, old, a2, c2, new⟩).toArray 25)).alloc (.cells (Pm.cells ⟨0, ⟨#[]⟩, ⟨#[]⟩, 0, none, 0, [], none, 0, []⟩).toArray 25)) = ((w.alloc (.cells #[.int .i64 kind, .string p, .string q, .int .i64 at_, .slice a1 old.length c1, .slice a2 new.length c2] 25)).alloc (.cells #[.int .i64 0, .string ⟨#[]⟩, .string ⟨#[]⟩, .int .i64 0, .slice none 0 0, .slice none 0 0] 25)) := rfl
  rw [e0] at HX HP HO HA
  clear e0
  generalize ((w.alloc (.cells #[.int .i64 kind, .string p, .string q, .int .i64 at_, .slice a1 old.length c1, .slice a2 new.length c2] 25)).alloc (.cells #[.int .i64 0, .string ⟨#[]⟩, .string ⟨#[]⟩, .int .i64 0, .slice none 0 0, .slice none 0 0] 25)) = wa at *
  have hdr : Below wa.heap.size wa wa.drew := (Below.refl _ _).drew
  have HDR := Lib.hid hdr
  clear hdr
  go_region_law (first
    | (refine step_append_strs (by rfl) _ _ (by rfl) wa.heap.size (.slice none 0 0) [] old (by rfl) (OwnS.nil _ _) a1 c1 old.length (by rfl) rfl HO.out.h.r1.1 (HO.out.h.old.on HDR.out) (by simp) (by simp; omega) ?_
       intro v7 w7 ho7 hg7
       have hb7 : Below wa.heap.size wa w7 := HDR.out.grown hg7 (by simp) (fun k hk => by simp [Value.ownBlock] at hk)
       obtain ⟨A7, k7, rfl, s7, _, _⟩ := ho7.strs
       have z0 := (HX.out.on hb7).c5)
    | (refine step_append_strs (by rfl) _ _ (by rfl) wa.heap.size (.slice none 0 0) [] new (by rfl) (OwnS.nil _ _) a2 c2 new.length (by rfl) rfl HO.out.h.r2.1 (HO.out.h.new.on hb7) hb7.size (by simp; omega) ?_
       intro v8 w8 ho8 hg8
       have hb8 : Below wa.heap.size wa w8 := hb7.grown hg8 hb7.size (fun k hk => by simp [Value.ownBlock] at hk)
       have ho7' := ho7.kept ((Below.refl _ _).grown hg8 (Nat.le_refl _) (fun k hk => by simp [Value.ownBlock] at hk))
       obtain ⟨A8, k8, rfl, s8, _, _⟩ := ho8.strs
       have hx8 := HX.out.on hb8
       have x0 := hx8.c4
       have x1 := hx8.c5
       have y0 := hx8.fz 4
       have y1 := hx8.fz 5))
  all_goals
    have hS : Pm.Sep ⟨kind, p, q, at_, A7, k7, old, A8, k8, new⟩ w8 := by
      have ho7' := ho7.kept ((Below.refl w7.heap.size w7).grown hg8 (Nat.le_refl _) (fun k hk => by simp [Value.ownBlock] at hk))
      obtain ⟨B1, d1, e1, s1, _, _⟩ := ho7'.strs
      obtain ⟨B2, d2, e2, s2, _, _⟩ := ho8.strs
      simp only [Value.slice.injEq, List.nil_append] at e1 e2
      obtain ⟨rfl, _, rfl⟩ := e1
      obtain ⟨rfl, _, rfl⟩ := e2
      exact ⟨⟨⟨s1, s2, ho7'.at_.2.1, ho8.at_.2.1, HO.out.h.lo, HO.out.h.hi, HO.out.h.n1, HO.out.h.n2⟩, HO.out.p, HO.out.q, HO.out.lo, HO.out.hi⟩, ho7'.blk, ho8.blk⟩
    have hg9 := grown45 w8 w.heap.size (.slice A7 old.length k7) (.slice A8 new.length k8)
    have hQ : Hid (PrimAt ((w8.setCell ⟨w.heap.size, 4, none⟩ (.slice A7 old.length k7)).setCell ⟨w.heap.size, 5, none⟩ (.slice A8 new.length k8)) w.heap.size ⟨kind, p, q, at_, A7, k7, old, A8, k8, new⟩) := pm_at hx8 rfl rfl
    have hP : Hid (PrimAt ((w8.setCell ⟨w.heap.size, 4, none⟩ (.slice A7 old.length k7)).setCell ⟨w.heap.size, 5, none⟩ (.slice A8 new.length k8)) (w.heap.size + 1) ⟨0, ⟨#[]⟩, ⟨#[]⟩, 0, none, 0, [], none, 0, []⟩) := (HP.out.on hb8).grown hg9 (by simp)
    have hS9 : Hid (Pm.Sep ⟨kind, p, q, at_, A7, k7, old, A8, k8, new⟩ ((w8.setCell ⟨w.heap.size, 4, none⟩ (.slice A7 old.length k7)).setCell ⟨w.heap.size, 5, none⟩ (.slice A8 new.length k8))) := hS.grown hx8 (by decide) hg9
    have hB9 : Hid (Below w.heap.size w ((w8.setCell ⟨w.heap.size, 4, none⟩ (.slice A7 old.length k7)).setCell ⟨w.heap.size, 5, none⟩ (.slice A8 new.length k8))) := (HA.out.trans (hb8.mono HA.out.size)).grown hg9 (Nat.le_trans HA.out.size hb8.size) fun k hk => by simp only [Option.some.injEq] at hk; omega
    clear hS hg9 hx8 ho7 ho8 hg7 hg8 hb7 hb8 s7 s8 x0 x1 y0 y1 b0 b1 z0 ho7'
    generalize ((w8.setCell ⟨w.heap.size, 4, none⟩ (.slice A7 old.length k7)).setCell ⟨w.heap.size, 5, none⟩ (.slice A8 new.length k8)) = w9 at *
    have x0 := hQ.out.c0
    have x1 := hQ.out.c1
    have x2 := hQ.out.c2
    have x3 := hQ.out.c3
    have x4 := hQ.out.c4
    have x5 := hQ.out.c5
    have y0 := hP.out.c0
    have y1 := hP.out.c1
    have y2 := hP.out.c2
    have y3 := hP.out.c3
    have y4 := hP.out.c4
    have y5 := hP.out.c5
    have z0 := hP.out.fz 0
    have z1 := hP.out.fz 1
    have z2 := hP.out.fz 2
    have z3 := hP.out.fz 3
    have z4 := hP.out.fz 4
    have z5 := hP.out.fz 5
    have HF : Hid (PrimLeft w (Pm.key ⟨kind, p, q, at_, a1, c1, old, a2, c2, new⟩) (.returned (.agg #[.int .i64 kind, .string p, .string q, .int .i64 at_, .slice A7 old.length k7, .slice A8 new.length k8])) (setPrim w9 (w.heap.size + 1) ⟨kind, p, q, at_, A7, k7, old, A8, k8, new⟩)) := prim_set hB9.out (Nat.le_succ _) hP.out hS9.out rfl
    have HPS := Lib.hid (setPrim_at hP.out ⟨kind, p, q, at_, A7, k7, old, A8, k8, new⟩)
    go_wp2
    (try simp only [Exit.inBlock, Exit.then])
    refine bodyPost_ret (ret_prim rfl _ _ _ _ rfl HPS.out) rfl ?_
    exact HF.out
end Go.Proofs.YtknommnlkdlkdaaGreatDoor
namespace Go.Proofs.YtknommnlkdlkdaaGreatDoor
open Go.RowKit
set_option linter.unusedVariables false

theorem str_beq (s t : ByteArray) : (s.toList == t.toList) = decide (s = t) := by
  rw [toList_eq, toList_eq]
  by_cases h : s = t
  · subst h; simp
  · rw [decide_eq_false h, beq_eq_false_iff_ne]
    exact fun e => h (bytes_inj e)
theorem str_ne {s t : ByteArray} (h : s ≠ t) : (s.toList == t.toList) = false := by
  rw [beq_eq_false_iff_ne]
  intro e
  rw [toList_eq, toList_eq] at e
  exact h (bytes_inj e)
theorem str_ne_empty {s : ByteArray} (h : s ≠ ⟨#[]⟩) : (s.toList == []) = false := by
  rw [beq_eq_false_iff_ne]
  intro e
  rw [toList_eq] at e
  exact h (bytes_inj e)
theorem str_eqb (s : ByteArray) : (s.toList == s.toList) = true := by simp
theorem toB_size (l : List UInt8) : (toB l).size = l.length := by simp [toB, ByteArray.size]
end Go.Proofs.YtknommnlkdlkdaaGreatDoor
