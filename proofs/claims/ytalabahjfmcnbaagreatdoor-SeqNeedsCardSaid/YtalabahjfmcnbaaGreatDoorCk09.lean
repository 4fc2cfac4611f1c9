/- A row of steps put behind an own row of steps. Steps that are kept while a row of another type grows. Parts of rows of steps; where a row of the call's own lies. Words for rows of steps that change places. Package fuse's right, ofOneFile, overlap, touch, undone, movesOn. The reference's Touches, near, Apart of layer 8. append of strings to an own row, at a step of a region that draws its order. Package commute's copied, at, onward, grown, ofOneFile, touched. -/
import Derived.BigQuiet
import Derived.Deep.QuietTactic
import Derived.Handy
import Derived.Laws.AppendOwnNone
import Derived.OwnWalk
import Derived.Laws.Cover1
import Derived.Sort.OwnSorted
import Derived.Deep.RegionHeld3
import Derived.Deep.DrawnRows
import Derived.Deep.RegionLaw
import Derived.Test.YtalabahjfmcnbaaGreatDoorShelf
import Derived.WalkKit
import Derived.Lib.MinMax
import Derived.Deep.AppendLies
import Derived.Test.YtalabahjfmcnbaaGreatDoorCk08
namespace Go.Proofs.YtalabahjfmcnbaaGreatDoor
open Go.RowKit
set_option linter.unusedVariables false

/-- The cells of steps that lie at A, one by one. -/
theorem Ps.news {w : World} {B : Nat} {A : Option Addr} {ps : List Pm} (k : Ps w B A ps) (hp : 0 < ps.length) : ∃ b off, A = some ⟨b, off, none⟩ ∧ ∀ j u, (pcells ps)[j]? = some u → w.cell? ((⟨b, off, none⟩ : Addr).add j) = some u := by
  obtain ⟨b, off, e, _, hc⟩ := k.at_ hp
  refine ⟨b, off, e, fun j u hu => ?_⟩
  have hj : j < ps.length * 6 := by
    have := (List.getElem?_eq_some_iff.1 hu).1
    rw [pcells_len] at this
    exact this
  have hq : j / 6 < ps.length := by omega
  obtain ⟨c0, c1, c2, c3, c4, c5⟩ := hc (j / 6) hq
  obtain ⟨d0, d1, d2, d3, d4, d5⟩ := pcells_get ps (j / 6) hq
  have hadd : (⟨b, off, none⟩ : Addr).add j = ⟨b, off + j, none⟩ := by unfold Addr.add; split <;> simp_all
  rw [hadd]
  have hm : j % 6 = 0 ∨ j % 6 = 1 ∨ j % 6 = 2 ∨ j % 6 = 3 ∨ j % 6 = 4 ∨ j % 6 = 5 := by omega
  rcases hm with h | h | h | h | h | h
  · have e : j = j / 6 * 6 := by omega
    rw [e] at hu ⊢
    rw [d0] at hu
    rw [← hu]
    have e2 : j / 6 * 6 / 6 = j / 6 := by omega
    exact c0
  · have e : j = j / 6 * 6 + 1 := by omega
    rw [e] at hu ⊢
    rw [d1] at hu
    rw [← hu]
    exact c1
  · have e : j = j / 6 * 6 + 2 := by omega
    rw [e] at hu ⊢
    rw [d2] at hu
    rw [← hu]
    exact c2
  · have e : j = j / 6 * 6 + 3 := by omega
    rw [e] at hu ⊢
    rw [d3] at hu
    rw [← hu]
    exact c3
  · have e : j = j / 6 * 6 + 4 := by omega
    rw [e] at hu ⊢
    rw [d4] at hu
    rw [← hu]
    exact c4
  · have e : j = j / 6 * 6 + 5 := by omega
    rw [e] at hu ⊢
    rw [d5] at hu
    rw [← hu]
    exact c5
theorem pcells_one : ∀ (ps : List Pm), ∀ u ∈ pcells ps, u.oneCell' = true
  | [], u, h => by simp [pcells] at h
  | p :: ps, u, h => by
    have e : pcells (p :: ps) = p.cells ++ pcells ps := by simp [pcells]
    rw [e] at h
    rcases List.mem_append.1 h with h | h
    · simp only [Pm.cells, List.mem_cons, List.not_mem_nil, or_false] at h
      rcases h with rfl | rfl | rfl | rfl | rfl | rfl <;> rfl
    · exact pcells_one ps u h
theorem own_madep (w : World) (B : Nat) (hB : B ≤ w.heap.size) : OwnP (w.alloc (.cells #[] 33)) B (.slice (some ⟨w.heap.size, 0, none⟩) 0 0) [] :=
  w.ownsRow_made #[] 0 hB (Nat.zero_le _) rfl
/-- Steps that lie somewhere, put behind an own row. -/
theorem wpList_append_prims {w : World} {ops : Array Oper} {rest : List Oper} {o : Oper} {a : Act} {Q : Exit → Act → World → Prop} (hgd : o.guard = none) (s x : Operand)
    (ho : o.op = .call { callee := .builtin .append, args := #[s, x], argTypes := #[22, 22] })
    (B : Nat) (v : Value) (hs : List Pm) (hv : a.eval s = v) (hown : OwnP w B v hs) (ps : List Pm) (A : Option Addr) (n c : Nat) (hx : a.eval x = .slice A n c) (hn : n = ps.length) (hnil : A = none → c = 0) (hl : Ps w w.heap.size A ps) (hB : B ≤ w.heap.size) (hle : hs.length + ps.length ≤ 100000)
    (m : Nat) (hm : m = hs.length + ps.length)
    (k : ∀ A' c' w', OwnP w' B (.slice A' m c') (hs ++ ps) → w.grownBy w' v.ownBlock → wpList Tryz.prog ops Q rest (a.put o.dst (.slice A' m c')) w') : wpList Tryz.prog ops Q (o :: rest) a w := by
  obtain ⟨i0, hi, hz0, hz1, hz2⟩ := info_parts info_prim
  subst hn
  subst hm
  have k' : ∀ v' w', OwnP w' B v' (hs ++ ps) → w.grownBy w' v.ownBlock → wpList Tryz.prog ops Q rest (a.put o.dst v') w' := by
    intro v' w' ho' hg
    have h' := ho'
    rcases ho'.2 with ⟨he, h0⟩ | ⟨g, cap, cur, he, _, _, _, _, _, _⟩
    · have h00 : hs.length + ps.length = 0 := by rw [← List.length_append]; exact h0
      subst he
      have := k none 0 w' (by rw [h00]; exact h') hg
      rw [h00] at this
      exact this
    · rw [List.length_append] at he
      subst he
      exact k _ cap w' h' hg
  cases A with
  | none =>
    have h0 : ps = [] := by
      cases ps with
      | nil => rfl
      | cons y r => exact absurd (hl.at_ (by simp)) (by rintro ⟨_, _, e, _⟩; cases e)
    subst h0
    rw [hnil rfl] at hx
    refine wpList_append_own_none hgd s x 22 ho B 33 i0 6 Tryz.underlying22 hi v _ _ hv hown hx ?_
    exact k' v w (by simpa using hown) ⟨rfl, rfl, rfl, Nat.le_refl _, fun _ _ _ => rfl⟩
  | some ad =>
    refine wpList_append_own w hgd s x 22 ho B 33 i0 _ 6 96 Tryz.underlying22 hi hz0 hz1 hz2 rfl (by decide) v hs.length (pcells hs) hv hown ad ps.length c (pcells ps) hx (pcells_len ps) ?_ (pcells_one ps) (by unfold maxLen; omega) (by omega) hB ?_
    · intro j u hu
      have hj : j < ps.length * 6 := by
        have := (List.getElem?_eq_some_iff.1 hu).1
        rw [pcells_len] at this
        exact this
      obtain ⟨b, off, e, hnews⟩ := hl.news (by omega)
      simp only [Option.some.injEq] at e
      subst e
      exact hnews j u hu
    · intro v' w' hown' hgrow _
      refine k' v' w' ?_ hgrow
      unfold OwnP
      rw [List.length_append, pcells_app]
      exact hown'
/-- A row of steps, none of them far too long. -/
structure RowI (W : World) (A : Option Addr) (n c : Nat) (qs : List Pm) : Prop where
  len : n = qs.length
  at_ : Ps W W.heap.size A qs
  room : Room A n c
  fz : ∀ z ∈ qs, FzK z.key
theorem RowI.on {W W' : World} {A : Option Addr} {n c : Nat} {qs : List Pm} (h : RowI W A n c qs) (hb : Below W.heap.size W W') : RowI W' A n c qs := ⟨h.len, h.at_.on hb, h.room, h.fz⟩
theorem RowI.nil (W : World) : RowI W none 0 0 [] := ⟨rfl, Ps.nil, ⟨fun _ => rfl, Nat.le_refl _⟩, fun z h => by cases h⟩
theorem RowI.of_own {W : World} {B n c : Nat} {A : Option Addr} {qs : List Pm} (h : OwnP W B (.slice A n c) qs) (hok : ∀ z ∈ qs, z.Ok W W.heap.size) (hf : ∀ z ∈ qs, FzK z.key) : RowI W A n c qs := by
  obtain ⟨A', c', e, h1, h2⟩ := h.ps hok
  simp only [Value.slice.injEq] at e
  obtain ⟨rfl, rfl, rfl⟩ := e
  exact ⟨rfl, h1, h2, hf⟩
theorem RowI.take {W : World} {A : Option Addr} {n c : Nat} {qs : List Pm} (h : RowI W A n c qs) (m : Nat) (hm : m ≤ n) : RowI W A m c (qs.take m) := by
  refine ⟨by rw [List.length_take, ← h.len]; omega, ⟨fun hp => ?_, fun z hz => h.at_.ok z (List.mem_of_mem_take hz)⟩, ⟨h.room.1, Nat.le_trans hm h.room.2⟩, fun z hz => h.fz z (List.mem_of_mem_take hz)⟩
  rw [List.length_take] at hp
  obtain ⟨b, off, e, hb, hc⟩ := h.at_.at_ (by omega)
  refine ⟨b, off, e, hb, fun j hj => ?_⟩
  rw [List.length_take] at hj
  rw [List.getElem_take]
  exact hc j (by omega)
theorem RowI.one {W : World} {b off n c : Nat} {qs : List Pm} (h : RowI W (some ⟨b, off, none⟩) n c qs) {k : Nat} (hk : k < qs.length) : RowI W (some ⟨b, off + k * 6, none⟩) 1 (c - k) [qs[k]] := by
  obtain ⟨b', off', e, hb, hc⟩ := h.at_.at_ (by omega)
  cases e
  refine ⟨rfl, ⟨fun _ => ⟨b, off + k * 6, rfl, hb, fun j hj => ?_⟩, fun z hz => ?_⟩, ⟨(fun e => by cases e), ?_⟩, fun z hz => ?_⟩
  · have hj0 : j = 0 := by simpa using hj
    subst hj0
    simpa using hc k hk
  · simp only [List.mem_cons, List.not_mem_nil, or_false] at hz
    subst hz
    exact h.at_.ok _ (List.getElem_mem _)
  · have := h.room.2
    have := h.len
    omega
  · simp only [List.mem_cons, List.not_mem_nil, or_false] at hz
    subst hz
    exact h.fz _ (List.getElem_mem _)
end Go.Proofs.YtalabahjfmcnbaaGreatDoor
namespace Go.Proofs.YtalabahjfmcnbaaGreatDoor
open Go.RowKit
set_option linter.unusedVariables false

/-- Its lines lie where no other row is. -/
theorem Pm.Sep.kept {x : Pm} {X Y : World} {row : Option Nat} (h : x.Sep X) (hg : X.grownBy Y row) (hne : ∀ b cur fz, X.heap[b]? = some (.cells cur 9 fz) → row ≠ some b) : x.Sep Y := by
  have s : ∀ {A : Option Addr} {ls : List (List UInt8)}, StrBlk X A ls → Strs X X.heap.size A (toBs ls) → StrBlk Y A ls ∧ Strs Y Y.heap.size A (toBs ls) := fun {A ls} hb hs => by
    refine ⟨fun hp => ?_, fun hp => ?_⟩
    · obtain ⟨b, off, cur, fz, e, h⟩ := hb hp
      exact ⟨b, off, cur, fz, e, (hg.block b (Array.getElem?_eq_some_iff.1 h).1 (fun e => hne b cur fz h e.symm)).trans h⟩
    · obtain ⟨b, off, e, hlt, hc⟩ := hs hp
      obtain ⟨b2, off2, cur, fz, e2, h⟩ := hb (by rw [toBs_len] at hp; exact hp)
      rw [e] at e2
      simp only [Option.some.injEq, Addr.mk.injEq] at e2
      obtain ⟨rfl, _, _⟩ := e2
      exact ⟨b, off, e, Nat.lt_of_lt_of_le hlt hg.size, fun j hj => World.grownBy.cell hg (hc j hj) (fun e => hne b cur fz h e.symm)⟩
  obtain ⟨ok, b1, b2⟩ := h
  obtain ⟨c1, d1⟩ := s b1 ok.h.old
  obtain ⟨c2, d2⟩ := s b2 ok.h.new
  exact ⟨⟨⟨d1, d2, ok.h.r1, ok.h.r2, ok.h.lo, ok.h.hi, ok.h.n1, ok.h.n2⟩, ok.p, ok.q, ok.lo, ok.hi⟩, c1, c2⟩
theorem OwnP.type_of {W : World} {B : Nat} {v : Value} {qs : List Pm} (h : OwnP W B v qs) {g : Nat} (e : v.ownBlock = some g) : ∃ cur fz, W.heap[g]? = some (.cells cur 33 fz) := by
  rcases h.2 with ⟨rfl, _⟩ | ⟨k, cap, cur, rfl, _, hk, _⟩
  · simp [Value.ownBlock] at e
  · obtain rfl : k = g := by simpa [Value.ownBlock] using e
    exact ⟨cur, _, hk⟩
end Go.Proofs.YtalabahjfmcnbaaGreatDoor
namespace Go.Proofs.YtalabahjfmcnbaaGreatDoor
open Go.RowKit
set_option linter.unusedVariables false

theorem size_prim : (Tryz.prog.info? 33).map (·.size) = some 6 := by kernel_rfl
theorem run_slice_prims (A : Option Addr) (n cap j : Nat) (w : World) (hj : j ≤ n) (hn : n ≤ cap) (hA : A = none ∨ ∃ b off, A = some ⟨b, off, none⟩) :
    (Instr.slice 22 (.slice A n cap) none (some (.int .i64 (j : Int))) none).run Tryz.prog w = .ok (.slice A j cap) w := by
  have hb : ∀ w, (Instr.sliceBounds true n cap none (some (.int .i64 (j : Int))) none).run Tryz.prog w = .ok (0, j, cap) w := by
    intro w
    have hj2 : (j : Int) ≤ (cap : Int) := by omega
    simp [Instr.sliceBounds, Instr.sliceBound, asIntOf, go_sem, show j ≤ cap by omega] <;> intros <;> omega
  obtain ⟨d, hd, hs⟩ : ∃ d, Tryz.prog.info? 33 = some d ∧ d.size = 6 := by
    have := size_prim
    cases h : Tryz.prog.info? 33 with
    | none => rw [h] at this; cases this
    | some d => rw [h] at this; exact ⟨d, rfl, by simpa using this⟩
  have e : (if cap = 0 then A else A.map (·.add (0 * 6))) = A := by
    split
    · rfl
    · rcases hA with rfl | ⟨b, off, rfl⟩
      · rfl
      · simp [add_row]
  unfold Instr.slice
  rw [Sem.run_bind, run_underlying Tryz.underlying22, Result.andThen_ok]
  simp only []
  rw [Sem.run_bind, hb, Result.andThen_ok]
  simp [sizeOf, typeInfo, hd, Sem.run_bind]
  intro _
  rcases hA with rfl | ⟨b, off, rfl⟩
  · rfl
  · simp [add_row]
theorem OwnP.flat {w : World} {B : Nat} {A : Option Addr} {n c : Nat} {ps : List Pm} (h : OwnP w B (.slice A n c) ps) : n = ps.length ∧ n ≤ c ∧ (A = none ∨ ∃ b off, A = some ⟨b, off, none⟩) := by
  rcases h.2 with ⟨he, h0⟩ | ⟨g, cap, cur, he, _, _, hn, _, _, _⟩
  · simp only [Value.slice.injEq] at he
    obtain ⟨rfl, rfl, rfl⟩ := he
    exact ⟨h0.symm, Nat.le_refl _, .inl rfl⟩
  · simp only [Value.slice.injEq] at he
    obtain ⟨rfl, rfl, rfl⟩ := he
    exact ⟨rfl, hn, .inr ⟨g, 0, rfl⟩⟩
/-- Where a row of the call's own lies. -/
theorem OwnP.get {w : World} {B : Nat} {A : Option Addr} {n c : Nat} {ps : List Pm} (h : OwnP w B (.slice A n c) ps) {j : Nat} (hj : j < ps.length) : ∃ g, A = some ⟨g, 0, none⟩ ∧ B ≤ g ∧ g < w.heap.size ∧ w.cell? ⟨g, j * 6, none⟩ = some (.int .i64 ps[j].kind) ∧ w.cell? ⟨g, j * 6 + 1, none⟩ = some (.string ps[j].p) ∧
    w.cell? ⟨g, j * 6 + 2, none⟩ = some (.string ps[j].dst) ∧ w.cell? ⟨g, j * 6 + 3, none⟩ = some (.int .i64 ps[j].at_) ∧ w.cell? ⟨g, j * 6 + 4, none⟩ = some (.slice ps[j].a1 ps[j].old.length ps[j].c1) ∧ w.cell? ⟨g, j * 6 + 5, none⟩ = some (.slice ps[j].a2 ps[j].new.length ps[j].c2) := by
  have h' := h
  rcases h.2 with ⟨he, h0⟩ | ⟨g, cap, cur, he, hb, hg, _⟩
  · omega
  · simp only [Value.slice.injEq] at he
    obtain ⟨rfl, _, _⟩ := he
    obtain ⟨c0, c1, c2, c3, c4, c5⟩ := pcells_get ps j hj
    have e : ∀ i, (⟨g, 0, none⟩ : Addr).add i = ⟨g, i, none⟩ := fun i => by unfold Addr.add; split <;> simp_all
    have k0 := h'.cells (g := g) rfl _ _ c0
    have k1 := h'.cells (g := g) rfl _ _ c1
    have k2 := h'.cells (g := g) rfl _ _ c2
    have k3 := h'.cells (g := g) rfl _ _ c3
    have k4 := h'.cells (g := g) rfl _ _ c4
    have k5 := h'.cells (g := g) rfl _ _ c5
    rw [e] at k0 k1 k2 k3 k4 k5
    exact ⟨g, rfl, hb, (Array.getElem?_eq_some_iff.1 hg).1, k0, k1, k2, k3, k4, k5⟩
end Go.Proofs.YtalabahjfmcnbaaGreatDoor
namespace Go.Proofs.YtalabahjfmcnbaaGreatDoor
open Go.RowKit
set_option linter.unusedVariables false

/-- What passed so far, ahead of what is to pass. -/
def consP (pre : List Pk) (r : Int × List Pk × Pk) : Int × List Pk × Pk := if r.1 ≠ 0 then (r.1, [], zeroP) else (0, pre ++ r.2.1, r.2.2)
theorem cons_end (pre : List Pk) (p : Pk) : consP pre (pastP p []) = (0, pre, p) := by simp [consP, pastP]
theorem cons_ok {p x b a : Pk} (h : pairP p x = (0, b, a)) (pre l : List Pk) : consP pre (pastP p (x :: l)) = consP (pre ++ [b]) (pastP a l) := by
  obtain ⟨m, o, q, e⟩ : ∃ m o q, pastP a l = (m, o, q) := ⟨_, _, _, rfl⟩
  unfold consP
  rw [e]
  have e2 : pastP p (x :: l) = if m ≠ 0 then (m, [], zeroP) else (0, b :: o, q) := by
    unfold pastP
    rw [h]
    simp only [ne_eq, not_true_eq_false, if_false, e]
  rw [e2]
  by_cases hm : m = 0 <;> simp [hm]
theorem cons_err {p x b a : Pk} {n : Int} (h : pairP p x = (n, b, a)) (hn : n ≠ 0) (pre l : List Pk) : consP pre (pastP p (x :: l)) = (n, [], zeroP) := by
  unfold consP pastP
  rw [h]
  simp [hn]
theorem cons_nil (p : Pk) (l : List Pk) : consP [] (pastP p l) = pastP p l := by
  obtain ⟨m, o, q, e⟩ : ∃ m o q, pastP p l = (m, o, q) := ⟨_, _, _, rfl⟩
  rw [e]
  unfold consP
  by_cases hm : m = 0
  · simp [hm]
  · have h2 : ∀ (l : List Pk) (p : Pk) (m : Int) (o : List Pk) (q : Pk), pastP p l = (m, o, q) → m ≠ 0 → o = [] ∧ q = zeroP := by
      intro l
      cases l with
      | nil =>
        intro p m o q e hm
        simp only [pastP, Prod.mk.injEq] at e
        exact absurd e.1.symm hm
      | cons x l =>
        intro p m o q e hm
        unfold pastP at e
        simp only at e
        split at e
        · simp only [Prod.mk.injEq] at e
          exact ⟨e.2.1.symm, e.2.2.symm⟩
        · split at e
          · simp only [Prod.mk.injEq] at e
            exact ⟨e.2.1.symm, e.2.2.symm⟩
          · simp only [Prod.mk.injEq] at e
            exact absurd e.1.symm hm
    obtain ⟨rfl, rfl⟩ := h2 l p m o q e hm
    simp [hm]
/-- A row of steps whose lines lie below B. -/
structure RowB (W : World) (B : Nat) (A : Option Addr) (n c : Nat) (rs : List Pm) : Prop where
  len : n = rs.length
  at_ : Ps W W.heap.size A rs
  room : Room A n c
  ok : ∀ r ∈ rs, r.Ok W B
theorem RowB.on {W W' : World} {B n c : Nat} {A : Option Addr} {rs : List Pm} (h : RowB W B A n c rs) (hB : B ≤ W.heap.size) (hb : Below W.heap.size W W') : RowB W' B A n c rs := ⟨h.len, h.at_.on hb, h.room, fun r hr => (h.ok r hr).below (hb.mono hB)⟩
theorem RowB.nil (W : World) (B : Nat) : RowB W B none 0 0 [] := ⟨rfl, Ps.nil, ⟨fun _ => rfl, Nat.le_refl _⟩, fun r hr => by cases hr⟩
theorem RowB.of_own {W : World} {B C n c : Nat} {A : Option Addr} {rs : List Pm} (h : OwnP W C (.slice A n c) rs) (hB : B ≤ W.heap.size) (hok : ∀ z ∈ rs, z.Ok W B) : RowB W B A n c rs := by
  obtain ⟨A', c', e, h1, h2⟩ := h.ps (fun z hz => (hok z hz).more hB)
  simp only [Value.slice.injEq] at e
  obtain ⟨rfl, rfl, rfl⟩ := e
  exact ⟨rfl, h1, h2, hok⟩
theorem own_onep (w : World) (C : Nat) (z : Pm) (hC : C ≤ w.heap.size) : OwnP (w.alloc (.cells #[.int .i64 z.kind, .string z.p, .string z.dst, .int .i64 z.at_, .slice z.a1 z.old.length z.c1, .slice z.a2 z.new.length z.c2] 33)) C (.slice (some ⟨w.heap.size, 0, none⟩) 1 1) [z] :=
  ⟨by simp [pcells, Pm.cells], .inr ⟨w.heap.size, 1, #[.int .i64 z.kind, .string z.p, .string z.dst, .int .i64 z.at_, .slice z.a1 z.old.length z.c1, .slice z.a2 z.new.length z.c2], rfl, hC, heap_alloc_new w _, Nat.le_refl _, by unfold maxLen; decide, rfl, by simp [pcells, Pm.cells]⟩⟩
theorem step_append_prims {w : World} {ops : Array Oper} {o : Oper} {a : Act} {K : Act → World → Prop} {Q : Exit → Act → World → Prop} {E : Prop} (d : Nat) (hd : o.dst = some d) (hgd : o.guard = none) (s x : Operand)
    (ho : o.op = .call { callee := .builtin .append, args := #[s, x], argTypes := #[22, 22] })
    (B : Nat) (v : Value) (hs : List Pm) (hv : a.eval s = v) (hown : OwnP w B v hs) (ps : List Pm) (A : Option Addr) (n c : Nat) (hx : a.eval x = .slice A n c) (hn : n = ps.length) (hnil : A = none → c = 0) (hl : Ps w w.heap.size A ps) (hB : B ≤ w.heap.size) (hle : hs.length + ps.length ≤ 100000)
    (m : Nat) (hm : m = hs.length + ps.length)
    (k : ∀ A' c' w', OwnP w' B (.slice A' m c') (hs ++ ps) → w.grownBy w' v.ownBlock → K (a.put (some d) (.slice A' m c')) w') : if Region.wanted o (yielded ops a.tmps) = true then Oper.wp Tryz.prog o a w K Q else E := by
  have hw : Region.wanted o (yielded ops a.tmps) = true := by simp [Region.wanted, hgd]
  rw [if_pos hw]
  rw [← hd] at k
  obtain ⟨i0, hi, hz0, hz1, hz2⟩ := info_parts info_prim
  subst hn
  subst hm
  have k' : ∀ v' w', OwnP w' B v' (hs ++ ps) → w.grownBy w' v.ownBlock → K (a.put o.dst v') w' := by
    intro v' w' ho' hg
    have h' := ho'
    rcases ho'.2 with ⟨he, h0⟩ | ⟨g, cap, cur, he, _, _, _, _, _, _⟩
    · have h00 : hs.length + ps.length = 0 := by rw [← List.length_append]; exact h0
      subst he
      have := k none 0 w' (by rw [h00]; exact h') hg
      rw [h00] at this
      exact this
    · rw [List.length_append] at he
      subst he
      exact k _ cap w' h' hg
  cases A with
  | none =>
    have h0 : ps = [] := by
      cases ps with
      | nil => rfl
      | cons y r => exact absurd (hl.at_ (by simp)) (by rintro ⟨_, _, e, _⟩; cases e)
    subst h0
    rw [hnil rfl] at hx
    have hrun := run_append_owned_none (P := Tryz.prog) (w := w) B 22 o.type 33 i0 6 Tryz.underlying22 hi v _ _ hown
    have hk := k' v w (by simpa using hown) ⟨rfl, rfl, rfl, Nat.le_refl _, fun _ _ _ => rfl⟩
    unfold Oper.wp
    simp [execOp, ho, resolve, invoke, builtin, hv, hx, hrun, Result.andThen]
    exact hk
  | some ad =>
    refine wp_append_own w s x 22 ho B 33 i0 _ 6 96 Tryz.underlying22 hi hz0 hz1 hz2 rfl (by decide) v hs.length (pcells hs) hv hown ad ps.length c (pcells ps) hx (pcells_len ps) ?_ (pcells_one ps) (by unfold maxLen; omega) (by omega) hB ?_
    · intro j u hu
      have hj : j < ps.length * 6 := by
        have := (List.getElem?_eq_some_iff.1 hu).1
        rw [pcells_len] at this
        exact this
      obtain ⟨b, off, e, hnews⟩ := hl.news (by omega)
      simp only [Option.some.injEq] at e
      subst e
      exact hnews j u hu
    · intro v' w' hown' hgrow _
      refine k' v' w' ?_ hgrow
      unfold OwnP
      rw [List.length_append, pcells_app]
      exact hown'
/-- The steps behind place i. -/
theorem run_slice_prims_from (b off n cap i : Nat) (hi : i ≤ n) (hn : n ≤ cap) : ∃ A', (∀ w, (Instr.slice 22 (.slice (some ⟨b, off, none⟩) n cap) (some (.int .i64 (i : Int))) none none).run Tryz.prog w = .ok (.slice A' (n - i) (cap - i)) w) ∧ (∀ W B (ps : List Pm), ps.length = n → Ps W B (some ⟨b, off, none⟩) ps → Ps W B A' (ps.drop i)) ∧ (A' = none → cap - i = 0) := by
  refine ⟨if cap = i then some ⟨b, off, none⟩ else some ⟨b, off + i * 6, none⟩, fun w => ?_, fun W B ps hp k => ?_, fun e => by split at e <;> cases e⟩
  · have hb : ∀ w, (Instr.sliceBounds true n cap (some (.int .i64 (i : Int))) none none).run Tryz.prog w = .ok (i, n, cap) w := by
      intro w
      have h1 : (i : Int) ≤ (n : Int) := by omega
      simp [Instr.sliceBounds, Instr.sliceBound, asIntOf, go_sem] <;> intros <;> omega
    obtain ⟨d, hd, hs⟩ : ∃ d, Tryz.prog.info? 33 = some d ∧ d.size = 6 := by
      have := sized_prim
      cases h : Tryz.prog.info? 33 with
      | none => rw [h] at this; cases this
      | some d => rw [h] at this; exact ⟨d, rfl, by simpa using this⟩
    unfold Instr.slice
    rw [Sem.run_bind, run_underlying Tryz.underlying22, Result.andThen_ok]
    simp only []
    rw [Sem.run_bind, hb, Result.andThen_ok]
    simp [sizeOf, typeInfo, hd, hs, Sem.run_bind, add_row]
  · refine ⟨fun h0 => ?_, fun z hz => k.ok z (List.mem_of_mem_drop hz)⟩
    rw [List.length_drop] at h0
    obtain ⟨b', off', e, hb, hc⟩ := k.at_ (by omega)
    cases e
    rw [if_neg (by omega)]
    refine ⟨b, off + i * 6, rfl, hb, fun j hj => ?_⟩
    rw [List.length_drop] at hj
    rw [List.getElem_drop]
    have := hc (i + j) (by omega)
    rw [show off + (i + j) * 6 = off + i * 6 + j * 6 by omega] at this
    exact this
def frontI (l : List Pk) (i : Int) : Int × List Pk := if 0 ≤ i ∧ i < (l.length : Int) then frontP l i.toNat else (3, [])
def needsI (l : List Pk) (i : Int) : List Nat := if h : 0 ≤ i ∧ i.toNat < l.length then needsP (l.take i.toNat).reverse [l[i.toNat]] [] else []
theorem front_i {l : List Pk} {i : Nat} (h : i < l.length) : frontI l (i : Int) = frontP l i := by
  unfold frontI
  rw [if_pos ⟨by omega, by omega⟩, Int.toNat_natCast]
theorem front_o {l : List Pk} {i : Int} (h : i < 0 ∨ (l.length : Int) ≤ i) : frontI l i = (3, []) := by
  unfold frontI
  rw [if_neg (by omega)]
theorem needs_i {l : List Pk} {i : Nat} (h : i < l.length) : needsI l (i : Int) = needsP (l.take i).reverse [l[i]] [] := by
  unfold needsI
  rw [dif_pos ⟨by omega, by rw [Int.toNat_natCast]; exact h⟩]
  simp only [Int.toNat_natCast]
theorem needs_o {l : List Pk} {i : Int} (h : i < 0 ∨ (l.length : Int) ≤ i) : needsI l i = [] := by
  unfold needsI
  rw [dif_neg (by omega)]
/-- A row of steps, as it lies in a world. -/
def RowW (W : World) (A : Option Addr) (n c : Nat) (rs : List Pm) : Prop := RowB W W.heap.size A n c rs
theorem RowB.up {W : World} {B n c : Nat} {A : Option Addr} {rs : List Pm} (h : RowB W B A n c rs) (hB : B ≤ W.heap.size) : RowW W A n c rs := ⟨h.len, h.at_, h.room, fun r hr => (h.ok r hr).more hB⟩
theorem RowW.on {W W' : World} {n c : Nat} {A : Option Addr} {rs : List Pm} (h : RowW W A n c rs) (hb : Below W.heap.size W W') : RowW W' A n c rs := (RowB.on h (Nat.le_refl _) hb).up hb.size
theorem RowW.nil (W : World) : RowW W none 0 0 [] := RowB.nil W _
/-- Two rows and an error come back. -/
def RowsW (w : World) (res : Int × List Pk × List Pk) (e : Ending) (w' : World) : Prop :=
  ∃ (A : Option Addr) (n c : Nat) (rs : List Pm) (A2 : Option Addr) (n2 c2 : Nat) (ss : List Pm) (er : Int), e = .returned (.tuple #[.slice A n c, .slice A2 n2 c2, .int .i64 er]) ∧ Hid (RowW w' A n c rs ∧ RowW w' A2 n2 c2 ss ∧ res = (er, pkeys rs, pkeys ss)) ∧ Below w.heap.size w w'
/-- A row and an error come back. -/
def FrontW (w : World) (res : Int × List Pk) (e : Ending) (w' : World) : Prop :=
  ∃ (A : Option Addr) (n c : Nat) (rs : List Pm) (er : Int), e = .returned (.tuple #[.slice A n c, .int .i64 er]) ∧ Hid (RowW w' A n c rs ∧ res = (er, pkeys rs)) ∧ Below w.heap.size w w'
end Go.Proofs.YtalabahjfmcnbaaGreatDoor
namespace Go.Proofs.YtalabahjfmcnbaaGreatDoor
open Go.RowKit
set_option linter.unusedVariables false

/-- Where both hunks begin to lie over one another, and how far: in cells of a block each. -/
structure OverAt (w : World) (B : Nat) (b f : Int) : Prop where
  b : w.heap[B]? = some (.cells #[.int .i64 b] 3 (0, 0))
  f : w.heap[B + 1]? = some (.cells #[.int .i64 f] 3 (0, 0))
theorem OverAt.c0 {w : World} {B : Nat} {b f : Int} (h : OverAt w B b f) : w.cell? ⟨B, 0, none⟩ = some (.int .i64 b) := by simp [World.cell?, h.b]
theorem OverAt.c1 {w : World} {B : Nat} {b f : Int} (h : OverAt w B b f) : w.cell? ⟨B + 1, 0, none⟩ = some (.int .i64 f) := by simp [World.cell?, h.f]
theorem OverAt.on {w w' : World} {B : Nat} {b f : Int} (h : OverAt w B b f) (hb : Below w.heap.size w w') : OverAt w' B b f :=
  ⟨(hb.block B (Array.getElem?_eq_some_iff.1 h.b).1).trans h.b, (hb.block (B + 1) (Array.getElem?_eq_some_iff.1 h.f).1).trans h.f⟩
end Go.Proofs.YtalabahjfmcnbaaGreatDoor
namespace Go.Proofs.YtalabahjfmcnbaaGreatDoor
open Go.RowKit
set_option linter.unusedVariables false

/-- What the reference tells that a step touches. -/
def touchesR (p : Pk) : List (List UInt8) := if ckP p = 0 then touches p else []
end Go.Proofs.YtalabahjfmcnbaaGreatDoor
namespace Go.Proofs.YtalabahjfmcnbaaGreatDoor
open Go.RowKit
set_option linter.unusedVariables false

theorem step_append_strs {w : World} {ops : Array Oper} {o : Oper} {a : Act} {K : Act → World → Prop} {Q : Exit → Act → World → Prop} {E : Prop} (hgd : o.guard = none) (s x : Operand)
    (ho : o.op = .call { callee := .builtin .append, args := #[s, x], argTypes := #[31, 31] })
    (B : Nat) (v : Value) (ls tt : List (List UInt8)) (hs : a.eval s = v) (hown : OwnS w B v ls) (A : Option Addr) (cap n : Nat) (hx : a.eval x = .slice A n cap) (hn : n = tt.length) (hnil : A = none → cap = 0) (ht : Strs w w.heap.size A (toBs tt)) (hB : B ≤ w.heap.size) (hle : ls.length + tt.length ≤ 1000000)
    (h : ∀ v' w', OwnS w' B v' (ls ++ tt) → w.grownBy w' v.ownBlock → K (a.put o.dst v') w') : if Region.wanted o (yielded ops a.tmps) = true then Oper.wp Tryz.prog o a w K Q else E := by
  have hw : Region.wanted o (yielded ops a.tmps) = true := by simp [Region.wanted, hgd]
  rw [if_pos hw]
  subst hn
  obtain ⟨i0, hi, hz0, hz1, hz2⟩ := info_parts info_str
  cases A with
  | none =>
    have h0 : tt = [] := by
      cases tt with
      | nil => rfl
      | cons y r => exact absurd (ht (by simp [toBs])) (by rintro ⟨_, _, e, _⟩; cases e)
    subst h0
    rw [hnil rfl] at hx
    have hrun := run_append_owned_none (P := Tryz.prog) (w := w) B 31 o.type 9 i0 1 Tryz.underlying31 hi v _ _ hown
    have hk := h v w (by simpa using hown) ⟨rfl, rfl, rfl, Nat.le_refl _, fun _ _ _ => rfl⟩
    unfold Oper.wp
    simp [execOp, ho, resolve, invoke, builtin, hs, hx, hrun, Result.andThen]
    exact hk
  | some ad =>
    refine wp_append_own w s x 31 ho B 9 i0 (.string ByteArray.empty) 1 16 Tryz.underlying31 hi hz0 hz1 hz2 rfl (by decide) v ls.length (ls.map encStr) hs hown ad tt.length cap (tt.map encStr) hx (by simp) ?_ (oneCell_str tt) (by unfold maxLen; omega) (by omega) hB ?_
    · intro j u hu
      obtain ⟨hj, hju⟩ := List.getElem?_eq_some_iff.1 hu
      have hj2 : j < tt.length := by simpa using hj
      obtain ⟨b, off, e, hb, hc⟩ := ht (by rw [toBs_len]; omega)
      simp only [Option.some.injEq] at e
      subst e
      have hadd : (⟨b, off, none⟩ : Addr).add j = ⟨b, off + j, none⟩ := by unfold Addr.add; split <;> simp_all
      rw [hadd, hc j (by rw [toBs_len]; exact hj2), ← hju]
      simp [toBs, encStr_eq]
    · intro v' w' hown' hgrow _
      refine h v' w' ?_ hgrow
      unfold OwnS
      rw [List.length_append, List.map_append]
      exact hown'
end Go.Proofs.YtalabahjfmcnbaaGreatDoor
namespace Go.Proofs.YtalabahjfmcnbaaGreatDoor
open Go.RowKit
set_option linter.unusedVariables false

set_option maxHeartbeats 8000000 in
set_option maxRecDepth 100000 in
theorem ccopied_any (x : Pm) (w : World) (ok : x.Ok w w.heap.size) (m1 : x.old.length ≤ 1000000) (m2 : x.new.length ≤ 1000000) :
    Calls Tryz.prog 116 #[x.val] w (PrimLeft w x.key) := by
  obtain ⟨kind, p, q, at_, a1, c1, old, a2, c2, new⟩ := x
  unfold Pm.val
  simp only [] at m1 m2 ⊢
  obtain ⟨hal, hx, hp⟩ := boxes w ⟨kind, p, q, at_, a1, c1, old, a2, c2, new⟩
  have HX := Lib.hid hx
  have HP := Lib.hid hp
  have HO := Lib.hid (ok.on hal)
  have HA := Lib.hid hal
  have b0 : ((w.alloc (.cells #[.int .i64 kind, .string p, .string q, .int .i64 at_, .slice a1 old.length c1, .slice a2 new.length c2] 33)).alloc (.cells #[.int .i64 0, .string ⟨#[]⟩, .string ⟨#[]⟩, .int .i64 0, .slice none 0 0, .slice none 0 0] 33)).cell? ⟨w.heap.size, 4, none⟩ = some (.slice a1 old.length c1) := HX.out.c4
  have b1 : ((w.alloc (.cells #[.int .i64 kind, .string p, .string q, .int .i64 at_, .slice a1 old.length c1, .slice a2 new.length c2] 33)).alloc (.cells #[.int .i64 0, .string ⟨#[]⟩, .string ⟨#[]⟩, .int .i64 0, .slice none 0 0, .slice none 0 0] 33)).cell? ⟨w.heap.size, 5, none⟩ = some (.slice a2 new.length c2) := HX.out.c5
  clear hal hx hp ok
  go_enter Tryz.func116, Tryz.ntmps116
  go_wp2_with fail
  have e0 : ((w.alloc (.cells (Pm.cells ⟨kind, p, q, at_, a1, c1, old, a2, c2, new⟩).toArray 33)).alloc (.cells (Pm.cells ⟨0, ⟨#[]⟩, ⟨#[]⟩, 0, none, 0, [], none, 0, []⟩).toArray 33)) = ((w.alloc (.cells #[.int .i64 kind, .string p, .string q, .int .i64 at_, .slice a1 old.length c1, .slice a2 new.length c2] 33)).alloc (.cells #[.int .i64 0, .string ⟨#[]⟩, .string ⟨#[]⟩, .int .i64 0, .slice none 0 0, .slice none 0 0] 33)) := rfl
  rw [e0] at HX HP HO HA
  clear e0
  generalize ((w.alloc (.cells #[.int .i64 kind, .string p, .string q, .int .i64 at_, .slice a1 old.length c1, .slice a2 new.length c2] 33)).alloc (.cells #[.int .i64 0, .string ⟨#[]⟩, .string ⟨#[]⟩, .int .i64 0, .slice none 0 0, .slice none 0 0] 33)) = wa at *
  have hdr : Below wa.heap.size wa wa.drew := (Below.refl _ _).drew
  have HDR := Lib.hid hdr
  clear hdr
  go_region_law (first
    | (refine step_append_strs (by rfl) _ _ (by rfl) wa.heap.size (.slice none 0 0) [] old (by rfl) (OwnS.nil _ _) a1 c1 old.length (by rfl) rfl HO.out.h.r1.1 (HO.out.h.old.on HDR.out) (by simp) (by simp; omega) ?_
       intro v7 w7 ho7 hg7
       have hb7 : Below wa.heap.size wa w7 := HDR.out.grown hg7 (by simp) (fun k hk => by simp [Value.ownBlock] at hk)
       obtain ⟨A7, k7, rfl, s7, _, _⟩ := ho7.strs
       have z0 := (HX.out.on hb7).c5)
    | (refine step_append_strs (by rfl) _ _ (by rfl) wa.heap.size (.slice none 0 0) [] new (by rfl) (OwnS.nil _ _) a2 c2 new.length (by rfl) rfl HO.out.h.r2.1 (HO.out.h.new.on hb7) hb7.size (by simp; omega) ?_
       intro v8 w8 ho8 hg8
       have hb8 : Below wa.heap.size wa w8 := hb7.grown hg8 hb7.size (fun k hk => by simp [Value.ownBlock] at hk)
       have ho7' := ho7.kept ((Below.refl _ _).grown hg8 (Nat.le_refl _) (fun k hk => by simp [Value.ownBlock] at hk))
       obtain ⟨A8, k8, rfl, s8, _, _⟩ := ho8.strs
       have hx8 := HX.out.on hb8
       have x0 := hx8.c4
       have x1 := hx8.c5
       have y0 := hx8.fz 4
       have y1 := hx8.fz 5))
  all_goals
    have hS : Pm.Sep ⟨kind, p, q, at_, A7, k7, old, A8, k8, new⟩ w8 := by
      have ho7' := ho7.kept ((Below.refl w7.heap.size w7).grown hg8 (Nat.le_refl _) (fun k hk => by simp [Value.ownBlock] at hk))
      obtain ⟨B1, d1, e1, s1, _, _⟩ := ho7'.strs
      obtain ⟨B2, d2, e2, s2, _, _⟩ := ho8.strs
      simp only [Value.slice.injEq, List.nil_append] at e1 e2
      obtain ⟨rfl, _, rfl⟩ := e1
      obtain ⟨rfl, _, rfl⟩ := e2
      exact ⟨⟨⟨s1, s2, ho7'.at_.2.1, ho8.at_.2.1, HO.out.h.lo, HO.out.h.hi, HO.out.h.n1, HO.out.h.n2⟩, HO.out.p, HO.out.q, HO.out.lo, HO.out.hi⟩, ho7'.blk, ho8.blk⟩
    have hg9 := grown45 w8 w.heap.size (.slice A7 old.length k7) (.slice A8 new.length k8)
    have hQ : Hid (PrimAt ((w8.setCell ⟨w.heap.size, 4, none⟩ (.slice A7 old.length k7)).setCell ⟨w.heap.size, 5, none⟩ (.slice A8 new.length k8)) w.heap.size ⟨kind, p, q, at_, A7, k7, old, A8, k8, new⟩) := pm_at hx8 rfl rfl
    have hP : Hid (PrimAt ((w8.setCell ⟨w.heap.size, 4, none⟩ (.slice A7 old.length k7)).setCell ⟨w.heap.size, 5, none⟩ (.slice A8 new.length k8)) (w.heap.size + 1) ⟨0, ⟨#[]⟩, ⟨#[]⟩, 0, none, 0, [], none, 0, []⟩) := (HP.out.on hb8).grown hg9 (by simp)
    have hS9 : Hid (Pm.Sep ⟨kind, p, q, at_, A7, k7, old, A8, k8, new⟩ ((w8.setCell ⟨w.heap.size, 4, none⟩ (.slice A7 old.length k7)).setCell ⟨w.heap.size, 5, none⟩ (.slice A8 new.length k8))) := hS.grown hx8 (by decide) hg9
    have hB9 : Hid (Below w.heap.size w ((w8.setCell ⟨w.heap.size, 4, none⟩ (.slice A7 old.length k7)).setCell ⟨w.heap.size, 5, none⟩ (.slice A8 new.length k8))) := (HA.out.trans (hb8.mono HA.out.size)).grown hg9 (Nat.le_trans HA.out.size hb8.size) fun k hk => by simp only [Option.some.injEq] at hk; omega
    clear hS hg9 hx8 ho7 ho8 hg7 hg8 hb7 hb8 s7 s8 x0 x1 y0 y1 b0 b1 z0 ho7'
    generalize ((w8.setCell ⟨w.heap.size, 4, none⟩ (.slice A7 old.length k7)).setCell ⟨w.heap.size, 5, none⟩ (.slice A8 new.length k8)) = w9 at *
    have x0 := hQ.out.c0
    have x1 := hQ.out.c1
    have x2 := hQ.out.c2
    have x3 := hQ.out.c3
    have x4 := hQ.out.c4
    have x5 := hQ.out.c5
    have y0 := hP.out.c0
    have y1 := hP.out.c1
    have y2 := hP.out.c2
    have y3 := hP.out.c3
    have y4 := hP.out.c4
    have y5 := hP.out.c5
    have z0 := hP.out.fz 0
    have z1 := hP.out.fz 1
    have z2 := hP.out.fz 2
    have z3 := hP.out.fz 3
    have z4 := hP.out.fz 4
    have z5 := hP.out.fz 5
    have HF : Hid (PrimLeft w (Pm.key ⟨kind, p, q, at_, a1, c1, old, a2, c2, new⟩) (.returned (.agg #[.int .i64 kind, .string p, .string q, .int .i64 at_, .slice A7 old.length k7, .slice A8 new.length k8])) (setPrim w9 (w.heap.size + 1) ⟨kind, p, q, at_, A7, k7, old, A8, k8, new⟩)) := prim_set hB9.out (Nat.le_succ _) hP.out hS9.out rfl
    have HPS := Lib.hid (setPrim_at hP.out ⟨kind, p, q, at_, A7, k7, old, A8, k8, new⟩)
    go_wp2
    (try simp only [Exit.inBlock, Exit.then])
    refine bodyPost_ret (ret_prim rfl _ _ _ _ rfl HPS.out) rfl ?_
    exact HF.out
end Go.Proofs.YtalabahjfmcnbaaGreatDoor
