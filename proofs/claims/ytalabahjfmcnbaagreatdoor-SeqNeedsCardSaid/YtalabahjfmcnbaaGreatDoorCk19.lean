/- Package seq's brought, Rows, Front, Swap, Past. What the laws of layer 10 use: the reference's Same of rows that say the same, lengths, steps in boxes. -/
import Derived.BigQuiet
import Derived.Deep.QuietTactic
import Derived.Handy
import Derived.Laws.Cover1
import Derived.Sort.OwnSorted
import Derived.Deep.RegionHeld3
import Derived.Deep.DrawnRows
import Derived.Deep.RegionLaw
import Derived.Test.YtalabahjfmcnbaaGreatDoorShelf
import Derived.WalkKit
import Derived.Test.YtalabahjfmcnbaaGreatDoorCk17
import Derived.Test.YtalabahjfmcnbaaGreatDoorCk18
namespace Go.Proofs.YtalabahjfmcnbaaGreatDoor
open Go.RowKit
set_option linter.unusedVariables false

theorem turned_w (A : Option Addr) (l : List Pm) (n cap : Nat) (A0 : Option Addr) (m0 c0 : Nat) (l0 : List Pm) (w : World) (ha : RowW w A n cap l) (hb0 : RowW w A0 m0 c0 l0) (hl : ∀ y ∈ l, LtK y.key) (hl0 : ∀ y ∈ l0, LtK y.key) (hn : l.length ≤ 500) (hn0 : l0.length ≤ 500) (hT : Tabs w) :
    Calls Tryz.prog 28 #[.slice A n cap, .slice A0 m0 c0] w (RowsW w (rowsP (pkeys l) (pkeys l0))) := by
  have e := ha.len
  subst e
  exact (turned_any A l cap A0 m0 c0 l0 w ha hb0 hl hl0 hn hn0 hT).mono fun e w' ⟨A, n, c, rs, A2, n2, c2, ss, er, h1, h2, h3⟩ => ⟨A, n, c, rs, A2, n2, c2, ss, er, h1, ⟨h2.out.1, h2.out.2.1, h2.out.2.2.1⟩, h3⟩
theorem turned_s (A : Option Addr) (l : List Pm) (n cap : Nat) (A0 : Option Addr) (m0 c0 : Nat) (l0 : List Pm) (w : World) (ha : RowW w A n cap l) (hb0 : RowW w A0 m0 c0 l0) (hl : ∀ y ∈ l, LtK y.key) (hl0 : ∀ y ∈ l0, LtK y.key) (hn : l.length ≤ 500) (hn0 : l0.length ≤ 500) (hT : Tabs w) :
    Calls Tryz.prog 28 #[.slice A n cap, .slice A0 m0 c0] w (RowsT w l.length (rowsP (pkeys l) (pkeys l0))) := by
  have e := ha.len
  subst e
  exact turned_any A l cap A0 m0 c0 l0 w ha hb0 hl hl0 hn hn0 hT
/-- What Concat hands back. -/
def ConcP (w : World) (L : List Pm) (e : Ending) (w' : World) : Prop := ∃ A n c, e = .returned (.slice A n c) ∧ RowW w' A n c L ∧ Below w.heap.size w w'
theorem pconcat4 (q : Nat) (A1 A2 A3 A4 : Option Addr) (n1 n2 n3 n4 c1 c2 c3 c4 : Nat) (l1 l2 l3 l4 : List Pm) (w : World) (hq : w.heap[q]? = some (.cells #[.slice A1 n1 c1, .slice A2 n2 c2, .slice A3 n3 c3, .slice A4 n4 c4] 22 (0, 0))) (s1 : RowW w A1 n1 c1 l1) (s2 : RowW w A2 n2 c2 l2) (s3 : RowW w A3 n3 c3 l3) (s4 : RowW w A4 n4 c4 l4) (hl : (l1 ++ l2 ++ l3 ++ l4).length ≤ 5000) :
    Calls Tryz.prog 47 #[.slice (some ⟨q, 0, none⟩) 4 4] w (ConcP w (l1 ++ l2 ++ l3 ++ l4)) := by
  obtain ⟨e1, p1, r1, o1⟩ := s1
  obtain ⟨e2, p2, r2, o2⟩ := s2
  obtain ⟨e3, p3, r3, o3⟩ := s3
  obtain ⟨e4, p4, r4, o4⟩ := s4
  subst e1; subst e2; subst e3; subst e4
  have e : allRq [⟨A1, c1, l1⟩, ⟨A2, c2, l2⟩, ⟨A3, c3, l3⟩, ⟨A4, c4, l4⟩] = l1 ++ l2 ++ l3 ++ l4 := by simp [allRq]
  have h := pconcat_any q 4 [⟨A1, c1, l1⟩, ⟨A2, c2, l2⟩, ⟨A3, c3, l3⟩, ⟨A4, c4, l4⟩] w (Array.getElem?_eq_some_iff.1 hq).1 (fun j hj => by
    match j, hj with
    | 0, _ => simp [World.cell?, hq]
    | 1, _ => simp [World.cell?, hq]
    | 2, _ => simp [World.cell?, hq]
    | 3, _ => simp [World.cell?, hq]) (fun r hr => by
    simp only [List.mem_cons, List.not_mem_nil, or_false] at hr
    rcases hr with rfl | rfl | rfl | rfl
    · exact ⟨p1, r1⟩
    · exact ⟨p2, r2⟩
    · exact ⟨p3, r3⟩
    · exact ⟨p4, r4⟩) (by simp) (by rw [e]; omega)
  rw [e] at h
  refine h.mono fun e w' ⟨A, n, c, h1, h2, h3, h4⟩ => ⟨A, n, c, h1, RowB.of_own h3 (Nat.le_refl _) (fun z hz => ?_), h4⟩
  simp only [List.mem_append] at hz
  rcases hz with ((hz | hz) | hz) | hz
  · exact (o1 z hz).on h4
  · exact (o2 z hz).on h4
  · exact (o3 z hz).on h4
  · exact (o4 z hz).on h4
theorem ltk_len {x : Pm} (h : LtK x.key) : x.old.length ≤ 1000000 ∧ x.new.length ≤ 1000000 := ⟨Nat.le_trans h.old.1 (by decide), Nat.le_trans h.new.1 (by decide)⟩
theorem ltk_keys {rs : List Pm} {ks : List Pk} (e : pkeys rs = ks) (h : ∀ z ∈ ks, LtK z) : ∀ z ∈ rs, LtK z.key := fun z hz => h z.key (by rw [← e]; exact List.mem_map_of_mem hz)
theorem ltk_row {rs : List Pm} (h : ∀ z ∈ rs, LtK z.key) : ∀ z ∈ pkeys rs, LtK z := fun z hz => by
  unfold pkeys at hz
  obtain ⟨r, hr, rfl⟩ := List.mem_map.1 hz
  exact h r hr
theorem keys_part (l : List Pm) (i tp : Nat) : ((pkeys l).take i).drop tp = pkeys ((l.take i).drop tp) := by simp [pkeys, List.map_drop, List.map_take]
set_option maxHeartbeats 20000000 in
set_option maxRecDepth 100000 in
theorem brought_any (A : Option Addr) (l : List Pm) (n c i tp : Nat) (w : World) (ha : RowW w A n c l) (hl : ∀ y ∈ l, LtK y.key) (hn : l.length ≤ 500) (hi : i < l.length) (ht : tp ≤ i) (hT : Tabs w) :
    Calls Tryz.prog 30 #[.slice A n c, .int .i64 (i : Int), .int .i64 (tp : Int)] w (FrontW w (broughtP (pkeys l) i tp l[i].key)) := by
  obtain ⟨lb, lo, rfl, hlb, _⟩ := ha.at_.get hi
  have hln := ha.len
  obtain ⟨A1, hA1, hP1, hN1⟩ := run_slice_prims_part lb lo n c tp i ht (by omega) ha.room.2
  obtain ⟨A2, hA2, hP2, hN2⟩ := run_slice_prims_part lb lo n c i (i + 1) (by omega) (by omega) ha.room.2
  obtain ⟨A5, hA5, hP5, hN5⟩ := run_slice_prims_from lb lo n c (i + 1) (by omega) ha.room.2
  have hA6 : ∀ w, (Instr.slice 22 (.slice (some ⟨lb, lo, none⟩) n c) none (some (.int .i64 (tp : Int))) none).run Tryz.prog w = .ok (.slice (some ⟨lb, lo, none⟩) tp c) w := fun w => run_slice_prims (some ⟨lb, lo, none⟩) n c tp w (by omega) ha.room.2 (.inr ⟨lb, lo, rfl⟩)
  have hra : RowW w A1 (i - tp) (c - tp) ((l.take i).drop tp) := by
    have h := hP1 w w.heap.size l hln.symm ha.at_
    exact ⟨by rw [List.length_drop, List.length_take]; omega, h, ⟨hN1, by have := ha.room.2; omega⟩, fun z hz => h.ok z hz⟩
  have e1 : (l.take (i + 1)).drop i = [l[i]] := by
    rw [List.take_succ_eq_append_getElem hi, List.drop_append_of_le_length (by rw [List.length_take]; omega), List.drop_of_length_le (by rw [List.length_take]; omega)]
    rfl
  have one : i + 1 - i = 1 := by omega
  simp only [one] at hA2 hP2
  clear one
  have hrb : RowW w A2 1 (c - i) [l[i]] := by
    have h := hP2 w w.heap.size l hln.symm ha.at_
    rw [e1] at h
    exact ⟨by simp, h, ⟨hN2, by have := ha.room.2; omega⟩, fun z hz => h.ok z hz⟩
  have hlt1 : ∀ z ∈ (l.take i).drop tp, LtK z.key := fun z hz => hl z (List.mem_of_mem_take (List.mem_of_mem_drop hz))
  have hlt2 : ∀ z ∈ [l[i]], LtK z.key := fun z hz => by
    obtain rfl : z = l[i] := by simpa using hz
    exact hl _ (List.getElem_mem _)
  have CT := Lib.hid (turned_w A1 _ (i - tp) (c - tp) A2 1 (c - i) _ w.drew (hra.on (Below.refl _ w).drew) (hrb.on (Below.refl _ w).drew) hlt1 hlt2 (by rw [List.length_drop, List.length_take]; omega) (by simp) (Tabs.on hT (Below.refl _ w).drew))
  have HZ1 : Hid (∀ W, Below w.heap.size w W → RowW W (some ⟨lb, lo, none⟩) tp c (l.take tp)) := fun W hW => by
    refine RowW.on ⟨by rw [List.length_take]; omega, ⟨fun h0 => ?_, fun z hz => ha.at_.ok z (List.mem_of_mem_take hz)⟩, ⟨(fun e => by cases e), by have := ha.room.2; omega⟩, fun z hz => ha.ok z (List.mem_of_mem_take hz)⟩ hW
    obtain ⟨b, off, e, hb, hc⟩ := ha.at_.at_ (by omega)
    refine ⟨b, off, e, hb, fun j hj => ?_⟩
    rw [List.length_take] at hj
    rw [List.getElem_take]
    exact hc j (by omega)
  have HZ5 : Hid (∀ W, Below w.heap.size w W → RowW W A5 (n - (i + 1)) (c - (i + 1)) (l.drop (i + 1))) := fun W hW => by
    have h := hP5 w w.heap.size l hln.symm ha.at_
    exact RowW.on ⟨by rw [List.length_drop]; omega, h, ⟨hN5, by have := ha.room.2; omega⟩, fun z hz => h.ok z hz⟩ hW
  obtain ⟨er, ox, oy, hrows⟩ : ∃ er ox oy, rowsP (pkeys ((l.take i).drop tp)) (pkeys [l[i]]) = (er, ox, oy) := ⟨_, _, _, rfl⟩
  have hbr : broughtP (pkeys l) i tp l[i].key = if er ≠ 0 then (er, []) else (0, (pkeys l).take tp ++ ox ++ oy ++ (pkeys l).drop (i + 1)) := by
    unfold broughtP
    rw [keys_part, show [l[i].key] = pkeys [l[i]] from rfl, hrows]
  have hlts := rows_lt _ (ltk_row hlt1) (ltk_row hlt2) hrows
  have HLT := Lib.hid hlts
  have HRW := Lib.hid hrows
  have HBR := Lib.hid hbr
  have HLL := Lib.hid hl
  have u1 : (0 : Int) ≤ (i : Int) := by omega
  have u2 : (0 : Int) ≤ (tp : Int) := by omega
  have u3 : (i : Int) ≤ 500 := by omega
  have q2 : IntKind.i64.wrap ((i : Int) + 1) = (i : Int) + 1 := IntWalk.i64_in _ (by omega)
  have hA2' : ∀ w, (Instr.slice 22 (.slice (some ⟨lb, lo, none⟩) n c) (some (.int .i64 (i : Int))) (some (.int .i64 ((i : Int) + 1))) none).run Tryz.prog w = .ok (.slice A2 1 (c - i)) w := hA2
  have hA5' : ∀ w, (Instr.slice 22 (.slice (some ⟨lb, lo, none⟩) n c) (some (.int .i64 ((i : Int) + 1))) none none).run Tryz.prog w = .ok (.slice A5 (n - (i + 1)) (c - (i + 1))) w := hA5
  have HI9 : Hid (i < l.length ∧ l.length ≤ 500 ∧ tp ≤ i) := ⟨hi, hn, ht⟩
  clear hP1 hP2 hP5 hN1 hN2 hN5 hra hrb hlt1 hlt2 hrows hbr hlts ha hl hT e1 hA2 hA5 hln hlb
  go_enter Tryz.func30, Tryz.ntmps30
  go_upto_region 1 with (fail)
  refine wp_region_noPanic ?_
  refine wp_region_held_drew (S := (fun _ => True)) (by kernel_rfl) trivial (fun hHeld => ?_)
  refine wpAnyH_take (i := 0) (oi := { dst := some 12, op := _, type := _, pos := _, after := _, guard := _ }) (v := .slice (some ⟨lb, lo, none⟩) n c) rfl (by kernel_rfl) (by kernel_rfl) (by kernel_rfl) (fun _ _ _ h => h) (Or.inl ⟨by rfl, fun w' hSw => ?_⟩) (by assumption) ?_
  · ((try dsimp only at hSw); go_simp)
  try simp only [Act.put, List.setIfInBounds_toArray, List.set_cons_zero, List.set_cons_succ]
  refine wpAnyH_take (i := 1) (oi := { dst := some 13, op := _, type := _, pos := _, after := _, guard := _ }) (v := .int .i64 (tp : Int)) rfl (by kernel_rfl) (by kernel_rfl) (by kernel_rfl) (fun _ _ _ h => h) (Or.inl ⟨by rfl, fun w' hSw => ?_⟩) (by assumption) ?_
  · ((try dsimp only at hSw); go_simp)
  try simp only [Act.put, List.setIfInBounds_toArray, List.set_cons_zero, List.set_cons_succ]
  refine wpAnyH_take (i := 2) (oi := { dst := some 14, op := _, type := _, pos := _, after := _, guard := _ }) (v := .int .i64 (i : Int)) rfl (by kernel_rfl) (by kernel_rfl) (by kernel_rfl) (fun _ _ _ h => h) (Or.inl ⟨by rfl, fun w' hSw => ?_⟩) (by assumption) ?_
  · ((try dsimp only at hSw); go_simp)
  try simp only [Act.put, List.setIfInBounds_toArray, List.set_cons_zero, List.set_cons_succ]
  refine wpAnyH_take (i := 3) (oi := { dst := some 15, op := _, type := _, pos := _, after := _, guard := _ }) (v := .slice A1 (i - tp) (c - tp)) rfl (by kernel_rfl) (by kernel_rfl) (by kernel_rfl) (fun _ _ _ h => h) (Or.inl ⟨by rfl, fun w' hSw => ?_⟩) (by assumption) ?_
  · ((try dsimp only at hSw); go_simp)
  try simp only [Act.put, List.setIfInBounds_toArray, List.set_cons_zero, List.set_cons_succ]
  refine wpAnyH_take (i := 4) (oi := { dst := some 16, op := _, type := _, pos := _, after := _, guard := _ }) (v := .slice (some ⟨lb, lo, none⟩) n c) rfl (by kernel_rfl) (by kernel_rfl) (by kernel_rfl) (fun _ _ _ h => h) (Or.inl ⟨by rfl, fun w' hSw => ?_⟩) (by assumption) ?_
  · ((try dsimp only at hSw); go_simp)
  try simp only [Act.put, List.setIfInBounds_toArray, List.set_cons_zero, List.set_cons_succ]
  refine wpAnyH_take (i := 5) (oi := { dst := some 17, op := _, type := _, pos := _, after := _, guard := _ }) (v := .int .i64 (i : Int)) rfl (by kernel_rfl) (by kernel_rfl) (by kernel_rfl) (fun _ _ _ h => h) (Or.inl ⟨by rfl, fun w' hSw => ?_⟩) (by assumption) ?_
  · ((try dsimp only at hSw); go_simp)
  try simp only [Act.put, List.setIfInBounds_toArray, List.set_cons_zero, List.set_cons_succ]
  refine wpAnyH_take (i := 6) (oi := { dst := some 18, op := _, type := _, pos := _, after := _, guard := _ }) (v := .int .i64 (i : Int)) rfl (by kernel_rfl) (by kernel_rfl) (by kernel_rfl) (fun _ _ _ h => h) (Or.inl ⟨by rfl, fun w' hSw => ?_⟩) (by assumption) ?_
  · ((try dsimp only at hSw); go_simp)
  try simp only [Act.put, List.setIfInBounds_toArray, List.set_cons_zero, List.set_cons_succ]
  refine wpAnyH_take (i := 7) (oi := { dst := some 19, op := _, type := _, pos := _, after := _, guard := _ }) (v := .int .i64 ((i : Int) + 1)) rfl (by kernel_rfl) (by kernel_rfl) (by kernel_rfl) (fun _ _ _ h => h) (Or.inl ⟨by rfl, fun w' hSw => ?_⟩) (by assumption) ?_
  · ((try dsimp only at hSw); go_simp)
  try simp only [Act.put, List.setIfInBounds_toArray, List.set_cons_zero, List.set_cons_succ]
  refine wpAnyH_take (i := 8) (oi := { dst := some 20, op := _, type := _, pos := _, after := _, guard := _ }) (v := .slice A2 1 (c - i)) rfl (by kernel_rfl) (by kernel_rfl) (by kernel_rfl) (fun _ _ _ h => h) (Or.inl ⟨by rfl, fun w' hSw => ?_⟩) (by assumption) ?_
  · ((try dsimp only at hSw); go_simp)
  try simp only [Act.put, List.setIfInBounds_toArray, List.set_cons_zero, List.set_cons_succ]
  refine wpAnyH_ready (rs := [9]) (by kernel_rfl) (by simp) ?_
  refine AllReadyH.cons rfl (fun K hK => ?_) AllReadyH.nil
  go_simp
  go_at_call 28
  refine CT.out.mono ?_
  rintro e w1 ⟨A3, n3, c3, rs, A4, n4, c4, ss, er, rfl, hp, hb⟩
  refine hK.out _ _ trivial (fun hHeld9 => ?_)
  clear hK K hHeld
  try simp only [Act.put, List.setIfInBounds_toArray, List.set_cons_zero, List.set_cons_succ]
  refine wpAnyH_take (i := 10) (oi := { dst := some 11, op := _, type := _, pos := _, after := _, guard := _ }) (v := .tuple #[.slice A3 n3 c3, .slice A4 n4 c4, .int .i64 er]) rfl (by kernel_rfl) (by kernel_rfl) (by kernel_rfl) (fun _ _ _ h => h) (Or.inl ⟨by rfl, fun w' hSw => ?_⟩) (by assumption) ?_
  · ((try dsimp only at hSw); go_simp)
  try simp only [Act.put, List.setIfInBounds_toArray, List.set_cons_zero, List.set_cons_succ]
  refine wpAnyH_take (i := 11) (oi := { dst := some 22, op := _, type := _, pos := _, after := _, guard := _ }) (v := .slice A3 n3 c3) rfl (by kernel_rfl) (by kernel_rfl) (by kernel_rfl) (fun _ _ _ h => h) (Or.inl ⟨by rfl, fun w' hSw => ?_⟩) (by assumption) ?_
  · ((try dsimp only at hSw); go_simp)
  try simp only [Act.put, List.setIfInBounds_toArray, List.set_cons_zero, List.set_cons_succ]
  refine wpAnyH_take (i := 12) (oi := { dst := some 23, op := _, type := _, pos := _, after := _, guard := _ }) (v := .slice A4 n4 c4) rfl (by kernel_rfl) (by kernel_rfl) (by kernel_rfl) (fun _ _ _ h => h) (Or.inl ⟨by rfl, fun w' hSw => ?_⟩) (by assumption) ?_
  · ((try dsimp only at hSw); go_simp)
  try simp only [Act.put, List.setIfInBounds_toArray, List.set_cons_zero, List.set_cons_succ]
  refine wpAnyH_take (i := 13) (oi := { dst := some 24, op := _, type := _, pos := _, after := _, guard := _ }) (v := .int .i64 er) rfl (by kernel_rfl) (by kernel_rfl) (by kernel_rfl) (fun _ _ _ h => h) (Or.inl ⟨by rfl, fun w' hSw => ?_⟩) (by assumption) ?_
  · ((try dsimp only at hSw); go_simp)
  try simp only [Act.put, List.setIfInBounds_toArray, List.set_cons_zero, List.set_cons_succ]
  refine wpAnyH_take (i := 14) (oi := { dst := some 8, op := _, type := _, pos := _, after := _, guard := _ }) (v := .slice A3 n3 c3) rfl (by kernel_rfl) (by kernel_rfl) (by kernel_rfl) (fun _ _ _ h => h) (Or.inl ⟨by rfl, fun w' hSw => ?_⟩) (by assumption) ?_
  · ((try dsimp only at hSw); go_simp)
  try simp only [Act.put, List.setIfInBounds_toArray, List.set_cons_zero, List.set_cons_succ]
  refine wpAnyH_take (i := 15) (oi := { dst := some 9, op := _, type := _, pos := _, after := _, guard := _ }) (v := .slice A4 n4 c4) rfl (by kernel_rfl) (by kernel_rfl) (by kernel_rfl) (fun _ _ _ h => h) (Or.inl ⟨by rfl, fun w' hSw => ?_⟩) (by assumption) ?_
  · ((try dsimp only at hSw); go_simp)
  try simp only [Act.put, List.setIfInBounds_toArray, List.set_cons_zero, List.set_cons_succ]
  refine wpAnyH_take (i := 16) (oi := { dst := some 10, op := _, type := _, pos := _, after := _, guard := _ }) (v := .int .i64 er) rfl (by kernel_rfl) (by kernel_rfl) (by kernel_rfl) (fun _ _ _ h => h) (Or.inl ⟨by rfl, fun w' hSw => ?_⟩) (by assumption) ?_
  · ((try dsimp only at hSw); go_simp)
  try simp only [Act.put, List.setIfInBounds_toArray, List.set_cons_zero, List.set_cons_succ]
  refine wpAnyH_done (by kernel_rfl) ?_ _
  refine NoPanic.normal ?_
  have hp' := hp.out
  rw [HRW.out] at hp'
  obtain ⟨hr3, hr4, heq⟩ := hp'
  simp only [Prod.mk.injEq] at heq
  obtain ⟨rfl, rfl, rfl⟩ := heq
  have HRS := Lib.hid (⟨hr3, hr4⟩ : RowW w1 A3 n3 c3 rs ∧ RowW w1 A4 n4 c4 ss)
  have HB : Hid (Below w.heap.size w w1) := ((Below.refl _ w).drew).trans (hb.mono (Nat.le_refl _))
  clear hp hr3 hr4 hb CT hA1 hA2'
  (try simp only [Exit.then])
  by_cases he : er = 0
  · subst he
    have HDR : Hid (Below w1.heap.size w1 w1.drew) := (Below.refl _ _).drew
    have hlen : rs.length ≤ 1 ∧ ss.length ≤ 500 := by
      have h1 := HLT.out.2.2.1
      have h2 := HLT.out.2.2.2
      rw [pkeys_len, pkeys_len] at h1 h2
      rw [List.length_drop, List.length_take] at h2
      exact ⟨by simpa using h1, by omega⟩
    have HLN : Hid ((l.take tp ++ rs ++ ss ++ l.drop (i + 1)).length ≤ 5000) := by
      show _ ≤ _
      have h9 := HI9.out
      simp only [List.length_append, List.length_take, List.length_drop]
      omega
    have HLK : Hid (∀ z ∈ l.take tp ++ rs ++ ss ++ l.drop (i + 1), z.old.length ≤ 1000000 ∧ z.new.length ≤ 1000000) := fun z hz => by
      simp only [List.mem_append] at hz
      rcases hz with ((hz | hz) | hz) | hz
      · exact ltk_len (HLL.out z (List.mem_of_mem_take hz))
      · exact ltk_len (ltk_keys rfl HLT.out.1 z hz)
      · exact ltk_len (ltk_keys rfl HLT.out.2.1 z hz)
      · exact ltk_len (HLL.out z (List.mem_of_mem_drop hz))
    clear hlen HLT HLL
    go_upto_region 4 with (fail)
    refine wp_region_noPanic ?_
    refine wp_region_held_drew (S := (fun _ => True)) (by kernel_rfl) trivial (fun hHeld => ?_)
    refine wpAnyH_take (i := 0) (oi := { dst := some 28, op := _, type := _, pos := _, after := _, guard := _ }) (v := .slice (some ⟨lb, lo, none⟩) n c) rfl (by kernel_rfl) (by kernel_rfl) (by kernel_rfl) (fun _ _ _ h => h) (Or.inl ⟨by rfl, fun w' hSw => ?_⟩) (by assumption) ?_
    · ((try dsimp only at hSw); go_simp)
    try simp only [Act.put, List.setIfInBounds_toArray, List.set_cons_zero, List.set_cons_succ]
    refine wpAnyH_take (i := 1) (oi := { dst := some 29, op := _, type := _, pos := _, after := _, guard := _ }) (v := .int .i64 (tp : Int)) rfl (by kernel_rfl) (by kernel_rfl) (by kernel_rfl) (fun _ _ _ h => h) (Or.inl ⟨by rfl, fun w' hSw => ?_⟩) (by assumption) ?_
    · ((try dsimp only at hSw); go_simp)
    try simp only [Act.put, List.setIfInBounds_toArray, List.set_cons_zero, List.set_cons_succ]
    refine wpAnyH_take (i := 2) (oi := { dst := some 30, op := _, type := _, pos := _, after := _, guard := _ }) (v := .slice (some ⟨lb, lo, none⟩) tp c) rfl (by kernel_rfl) (by kernel_rfl) (by kernel_rfl) (fun _ _ _ h => h) (Or.inl ⟨by rfl, fun w' hSw => ?_⟩) (by assumption) ?_
    · ((try dsimp only at hSw); go_simp)
    try simp only [Act.put, List.setIfInBounds_toArray, List.set_cons_zero, List.set_cons_succ]
    refine wpAnyH_take (i := 3) (oi := { dst := some 31, op := _, type := _, pos := _, after := _, guard := _ }) (v := .slice A3 n3 c3) rfl (by kernel_rfl) (by kernel_rfl) (by kernel_rfl) (fun _ _ _ h => h) (Or.inl ⟨by rfl, fun w' hSw => ?_⟩) (by assumption) ?_
    · ((try dsimp only at hSw); go_simp)
    try simp only [Act.put, List.setIfInBounds_toArray, List.set_cons_zero, List.set_cons_succ]
    refine wpAnyH_take (i := 4) (oi := { dst := some 32, op := _, type := _, pos := _, after := _, guard := _ }) (v := .slice A4 n4 c4) rfl (by kernel_rfl) (by kernel_rfl) (by kernel_rfl) (fun _ _ _ h => h) (Or.inl ⟨by rfl, fun w' hSw => ?_⟩) (by assumption) ?_
    · ((try dsimp only at hSw); go_simp)
    try simp only [Act.put, List.setIfInBounds_toArray, List.set_cons_zero, List.set_cons_succ]
    refine wpAnyH_take (i := 5) (oi := { dst := some 33, op := _, type := _, pos := _, after := _, guard := _ }) (v := .slice (some ⟨lb, lo, none⟩) n c) rfl (by kernel_rfl) (by kernel_rfl) (by kernel_rfl) (fun _ _ _ h => h) (Or.inl ⟨by rfl, fun w' hSw => ?_⟩) (by assumption) ?_
    · ((try dsimp only at hSw); go_simp)
    try simp only [Act.put, List.setIfInBounds_toArray, List.set_cons_zero, List.set_cons_succ]
    refine wpAnyH_take (i := 6) (oi := { dst := some 34, op := _, type := _, pos := _, after := _, guard := _ }) (v := .int .i64 (i : Int)) rfl (by kernel_rfl) (by kernel_rfl) (by kernel_rfl) (fun _ _ _ h => h) (Or.inl ⟨by rfl, fun w' hSw => ?_⟩) (by assumption) ?_
    · ((try dsimp only at hSw); go_simp)
    try simp only [Act.put, List.setIfInBounds_toArray, List.set_cons_zero, List.set_cons_succ]
    refine wpAnyH_take (i := 7) (oi := { dst := some 35, op := _, type := _, pos := _, after := _, guard := _ }) (v := .int .i64 ((i : Int) + 1)) rfl (by kernel_rfl) (by kernel_rfl) (by kernel_rfl) (fun _ _ _ h => h) (Or.inl ⟨by rfl, fun w' hSw => ?_⟩) (by assumption) ?_
    · ((try dsimp only at hSw); go_simp)
    try simp only [Act.put, List.setIfInBounds_toArray, List.set_cons_zero, List.set_cons_succ]
    refine wpAnyH_take (i := 8) (oi := { dst := some 36, op := _, type := _, pos := _, after := _, guard := _ }) (v := .slice A5 (n - (i + 1)) (c - (i + 1))) rfl (by kernel_rfl) (by kernel_rfl) (by kernel_rfl) (fun _ _ _ h => h) (Or.inl ⟨by rfl, fun w' hSw => ?_⟩) (by assumption) ?_
    · ((try dsimp only at hSw); go_simp)
    try simp only [Act.put, List.setIfInBounds_toArray, List.set_cons_zero, List.set_cons_succ]
    have HB1 := Lib.hid (HB.out.drew)
    generalize hwd : w1.drew = wd at *
    clear hwd
    refine wpAnyH_ready (rs := [9]) (by kernel_rfl) (by simp) ?_
    refine AllReadyH.cons rfl (fun K hK => ?_) AllReadyH.nil
    go_simp
    refine hK.out _ _ trivial (fun hHeld9 => ?_)
    clear hK K hHeld
    try simp only [Act.put, List.setIfInBounds_toArray, List.set_cons_zero, List.set_cons_succ]
    have hal : Below wd.heap.size wd (wd.alloc (.cells #[.slice (some ⟨lb, lo, none⟩) tp c, .slice A3 n3 c3, .slice A4 n4 c4, .slice A5 (n - (i + 1)) (c - (i + 1))] 22)) := (Below.refl _ _).alloc (Nat.le_refl _) _
    have HCC := Lib.hid (pconcat4 wd.heap.size (some ⟨lb, lo, none⟩) A3 A4 A5 tp n3 n4 (n - (i + 1)) c c3 c4 (c - (i + 1)) (l.take tp) rs ss (l.drop (i + 1)) _ (heap_alloc_new wd _) (HZ1.out _ (HB1.out.trans (hal.mono HB1.out.size))) ((HRS.out.1.on HDR.out).on hal) ((HRS.out.2.on HDR.out).on hal) (HZ5.out _ (HB1.out.trans (hal.mono HB1.out.size))) HLN.out)
    have HAL := Lib.hid hal
    clear hal
    refine wpAnyH_ready (rs := [10]) (by kernel_rfl) (by simp) ?_
    refine AllReadyH.cons rfl (fun K hK => ?_) AllReadyH.nil
    go_simp
    go_at_call 47
    refine HCC.out.mono ?_
    rintro e w2 ⟨A6, n6, c6, rfl, hr6, hb6⟩
    have HCP := Lib.hid (qcopied_any A6 _ n6 c6 w2 hr6 (Nat.le_trans HLN.out (by decide)) HLK.out)
    have HB2 := Lib.hid (HB1.out.trans ((HAL.out.trans (hb6.mono HAL.out.size)).mono HB1.out.size))
    clear hr6 hb6 HCC HAL
    refine hK.out _ _ trivial (fun hHeld10 => ?_)
    clear hK K hHeld9
    try simp only [Act.put, List.setIfInBounds_toArray, List.set_cons_zero, List.set_cons_succ]
    refine wpAnyH_ready (rs := [11]) (by kernel_rfl) (by simp) ?_
    refine AllReadyH.cons rfl (fun K hK => ?_) AllReadyH.nil
    go_simp
    go_at_call 29
    refine HCP.out.mono ?_
    rintro e w3 ⟨A7, n7, c7, qs, rfl, hr7, hb7⟩
    have HR7 := Lib.hid hr7.out
    have HB3 := Lib.hid (HB2.out.trans (hb7.mono HB2.out.size))
    clear hr7 hb7 HCP HB2
    refine hK.out _ _ trivial (fun hHeld11 => ?_)
    clear hK K hHeld10
    try simp only [Act.put, List.setIfInBounds_toArray, List.set_cons_zero, List.set_cons_succ]
    refine wpAnyH_take (i := 12) (oi := { dst := some 6, op := _, type := _, pos := _, after := _, guard := _ }) (v := .slice A7 n7 c7) rfl (by kernel_rfl) (by kernel_rfl) (by kernel_rfl) (fun _ _ _ h => h) (Or.inl ⟨by rfl, fun w' hSw => ?_⟩) (by assumption) ?_
    · ((try dsimp only at hSw); go_simp)
    try simp only [Act.put, List.setIfInBounds_toArray, List.set_cons_zero, List.set_cons_succ]
    refine wpAnyH_take (i := 13) (oi := { dst := some 7, op := _, type := _, pos := _, after := _, guard := _ }) (v := .int .i64 0) rfl (by kernel_rfl) (by kernel_rfl) (by kernel_rfl) (fun _ _ _ h => h) (Or.inl ⟨by rfl, fun w' hSw => ?_⟩) (by assumption) ?_
    · ((try dsimp only at hSw); go_simp)
    try simp only [Act.put, List.setIfInBounds_toArray, List.set_cons_zero, List.set_cons_succ]
    refine wpAnyH_done (by kernel_rfl) ?_ _
    refine NoPanic.normal ?_
    (try simp only [Exit.then])
    have HF : Hid (FrontW w (broughtP (pkeys l) i tp l[i].key) (.returned (.tuple #[.slice A7 n7 c7, .int .i64 0])) w3) := by
      refine ⟨A7, n7, c7, qs, 0, rfl, ⟨HR7.out.1, ?_⟩, HB3.out⟩
      rw [HBR.out, HR7.out.2.1]
      simp [pkeys, List.map_take, List.map_drop]
    clear HR7 HB3 HBR
    go_wp2
    go_ret2
    exact HF.out
  · have ke : (er != 0) = true := by simpa using he
    have HF : Hid (FrontW w (broughtP (pkeys l) i tp l[i].key) (.returned (.tuple #[.slice none 0 0, .int .i64 er])) w1) := by
      refine ⟨none, 0, 0, [], er, rfl, ⟨RowW.nil _, ?_⟩, HB.out⟩
      rw [HBR.out, if_pos he]
      rfl
    clear HBR HLT HRS he
    go_wp2
    go_ret2
    exact HF.out
/-- Rows come back, in memory of their own. -/
def RowsC (w : World) (res : Int × List Pk × List Pk) (e : Ending) (w' : World) : Prop :=
  ∃ (A : Option Addr) (n c : Nat) (rs : List Pm) (A2 : Option Addr) (n2 c2 : Nat) (ss : List Pm) (er : Int), e = .returned (.tuple #[.slice A n c, .slice A2 n2 c2, .int .i64 er]) ∧ Hid (OwnP w' w.heap.size (.slice A n c) rs ∧ (∀ z ∈ rs, z.Sep w') ∧ OwnP w' w.heap.size (.slice A2 n2 c2) ss ∧ (∀ z ∈ ss, z.Sep w') ∧ res = (er, pkeys rs, pkeys ss)) ∧ Below w.heap.size w w'
theorem RowsC.w {w : World} {res : Int × List Pk × List Pk} {e : Ending} {w' : World} (h : RowsC w res e w') : RowsW w res e w' := by
  obtain ⟨A, n, c, rs, A2, n2, c2, ss, er, h1, h2, h3⟩ := h
  exact ⟨A, n, c, rs, A2, n2, c2, ss, er, h1, ⟨RowB.of_own h2.out.1 (Nat.le_refl _) fun z hz => (h2.out.2.1 z hz).1, RowB.of_own h2.out.2.2.1 (Nat.le_refl _) fun z hz => (h2.out.2.2.2.1 z hz).1, h2.out.2.2.2.2⟩, h3⟩
set_option maxHeartbeats 20000000 in
set_option maxRecDepth 100000 in
theorem seqfront_any (A : Option Addr) (l : List Pm) (n c : Nat) (i : Int) (w : World) (ha : RowW w A n c l) (hl : ∀ y ∈ l, LtK y.key) (hn : l.length ≤ 500) (hT : Tabs w) :
    Calls Tryz.prog 10 #[.slice A n c, .int .i64 i] w (FrontW w (frontI (pkeys l) i)) := by
  have hln := ha.len
  by_cases h : i < 0 ∨ (n : Int) ≤ i
  · rw [front_o (by rw [pkeys_len]; omega)]
    have HF : Hid (FrontW w (3, []) (.returned (.tuple #[.slice none 0 0, .int .i64 3])) w) := ⟨none, 0, 0, [], 3, rfl, ⟨RowW.nil _, rfl⟩, Below.refl _ _⟩
    clear ha hl hT hln
    by_cases h1 : i < 0
    · clear h
      go_enter Tryz.func10, Tryz.ntmps10
      go_wp2
      go_ret2
      exact HF.out
    · have h2 : (n : Int) ≤ i := by omega
      have h3 : 0 ≤ i := by omega
      clear h
      go_enter Tryz.func10, Tryz.ntmps10
      go_wp2
      go_ret2
      exact HF.out
  · obtain ⟨k, rfl⟩ : ∃ k : Nat, i = (k : Int) := ⟨i.toNat, by omega⟩
    have hk : k < l.length := by omega
    have CB := brought_any A l n c k 0 w ha hl hn hk (Nat.zero_le _) hT
    have e : broughtP (pkeys l) k 0 l[k].key = frontI (pkeys l) (k : Int) := by
      rw [front_i (by rw [pkeys_len]; exact hk), front_brought (by rw [pkeys_len]; exact hk)]
      simp [pkeys]
    rw [e] at CB
    have CB := Lib.hid CB
    have u1 : (0 : Int) ≤ (k : Int) := by omega
    have u2 : (k : Int) < (n : Int) := by omega
    clear ha hl hT hln h e
    go_enter Tryz.func10, Tryz.ntmps10
    go_wp2_with fail
    refine CB.out.mono ?_
    rintro e w1 ⟨A3, n3, c3, rs, er, rfl, hp, hb⟩
    have HF : Hid (FrontW w (frontI (pkeys l) (k : Int)) (.returned (.tuple #[.slice A3 n3 c3, .int .i64 er])) w1) := ⟨A3, n3, c3, rs, er, rfl, hp, hb⟩
    clear hp hb CB
    go_wp2
    go_ret2
    exact HF.out
end Go.Proofs.YtalabahjfmcnbaaGreatDoor
namespace Go.Proofs.YtalabahjfmcnbaaGreatDoor
open Go.RowKit
set_option linter.unusedVariables false

/-- A row that comes in. -/
theorem roww_in {w : World} {A : Option Addr} {l : List Pm} {c : Nat} (h : Ps w w.heap.size A l) (r : Room A l.length c) : RowW w A l.length c l := ⟨rfl, h, r, fun z hz => h.ok z hz⟩
theorem light7_lt {l : List Pm} (h : light7B l = true) : ∀ z ∈ l, LtK z.key := fun z hz => light_lt (light7_light ((light7_facts h).2 z hz))
end Go.Proofs.YtalabahjfmcnbaaGreatDoor
