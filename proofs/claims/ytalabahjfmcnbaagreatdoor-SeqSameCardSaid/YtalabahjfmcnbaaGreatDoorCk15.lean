/- The reference's Needs of layer 10. slices.Clone, Grow, Concat of rows of steps; copy within a row of steps; a part of a row. A step written over another one in a row of the call's own; steps copied into such a row. A row that passes a row, as its loop goes: step by step, by places. -/
import Derived.BigQuiet
import Derived.Deep.QuietTactic
import Derived.Handy
import Derived.Laws.Cover1
import Derived.Sort.OwnSorted
import Derived.Deep.RegionHeld3
import Derived.Deep.DrawnRows
import Derived.Deep.RegionLaw
import Derived.Test.YtalabahjfmcnbaaGreatDoorShelf
import Derived.WalkKit
import Derived.Lib.AppendZerosOnto
import Derived.Laws.CopyOwn
import Derived.Laws.OwnMore
import Derived.Test.YtalabahjfmcnbaaGreatDoorCk14
namespace Go.Proofs.YtalabahjfmcnbaaGreatDoor
open Go.RowKit
set_option linter.unusedVariables false

/-- Numbers lie at A. -/
def Is (W : World) (B : Nat) (A : Option Addr) (ns : List Nat) : Prop := 0 < ns.length → ∃ b off, A = some ⟨b, off, none⟩ ∧ b < B ∧ ∀ j (h : j < ns.length), W.cell? ⟨b, off + j, none⟩ = some (intV ns[j])
theorem Is.on {W W' : World} {A : Option Addr} {ns : List Nat} (h : Is W W.heap.size A ns) (hb : Below W.heap.size W W') : Is W' W'.heap.size A ns := fun hp => by
  obtain ⟨b, off, e, hlt, hc⟩ := h hp
  exact ⟨b, off, e, Nat.lt_of_lt_of_le hlt hb.size, fun j hj => cell_on (hc j hj) hb⟩
/-- A row of numbers. -/
structure RowN (W : World) (A : Option Addr) (n c : Nat) (ns : List Nat) : Prop where
  len : n = ns.length
  at_ : Is W W.heap.size A ns
  room : Room A n c
theorem RowN.on {W W' : World} {A : Option Addr} {n c : Nat} {ns : List Nat} (h : RowN W A n c ns) (hb : Below W.heap.size W W') : RowN W' A n c ns := ⟨h.len, h.at_.on hb, h.room⟩
theorem RowN.nil (W : World) : RowN W none 0 0 [] := ⟨rfl, fun h => by simp at h, ⟨fun _ => rfl, Nat.le_refl _⟩⟩
def OwnI (w : World) (B : Nat) (v : Value) (ns : List Nat) : Prop := w.ownsRow B 3 1 v ns.length (ns.map intV)
theorem OwnI.row {w : World} {B : Nat} {v : Value} {ns : List Nat} (h : OwnI w B v ns) : ∃ A c, v = .slice A ns.length c ∧ RowN w A ns.length c ns := by
  have h' := h
  rcases h.2 with ⟨rfl, h0⟩ | ⟨g, cap, cur, rfl, _, hg, hcap, _⟩
  · have e : ns = [] := List.length_eq_zero_iff.1 h0
    subst e
    exact ⟨none, 0, rfl, RowN.nil _⟩
  · refine ⟨_, cap, rfl, rfl, fun hp => ⟨g, 0, rfl, (Array.getElem?_eq_some_iff.1 hg).1, fun j hj => ?_⟩, ⟨(fun e => by cases e), hcap⟩⟩
    have k0 := h'.cells (g := g) rfl j (intV ns[j]) (by simp [hj])
    have e : ∀ i, (⟨g, 0, none⟩ : Addr).add i = ⟨g, i, none⟩ := fun i => by unfold Addr.add; split <;> simp_all
    rw [e] at k0
    rw [Nat.zero_add]
    exact k0
end Go.Proofs.YtalabahjfmcnbaaGreatDoor
namespace Go.Proofs.YtalabahjfmcnbaaGreatDoor
open Go.RowKit
set_option linter.unusedVariables false

set_option maxHeartbeats 1000000 in
set_option maxRecDepth 100000 in
theorem pclone_any (A : Option Addr) (ps : List Pm) (n cap : Nat) (w : World) (hn0 : n = ps.length) (hs : Ps w w.heap.size A ps) (hr : Room A n cap) (hn : ps.length ≤ 100000) :
    Calls Tryz.prog 46 #[.slice A n cap] w fun e w' => ∃ A' c', e = .returned (.slice A' n c') ∧ OwnP w' w.heap.size (.slice A' n c') ps ∧ Below w.heap.size w w' := by
  have HS := Lib.hid hs
  have HR := Lib.hid hr
  have HN := Lib.hid hn0
  clear hs hr
  have q : ∀ (W : World) (a : Option Addr) (n c n' c' : Nat), (binOp .eql 22 (.slice a n c) (.slice none n' c')).run Tryz.prog W = .ok (.bool a.isNone) W := fun W a n c n' c' => Lib.run_eql_slice_nil W _ _ a n c n' c' Tryz.underlying22
  cases A with
  | none =>
    have h0 : ps = [] := by
      have h1 := HR.out.1 rfl
      have h2 := HR.out.2
      exact List.length_eq_zero_iff.1 (by omega)
    subst h0
    subst hn0
    go_enter Tryz.func46, Tryz.ntmps46
    go_wp2
    go_ret
    exact ⟨_, _, rfl, OwnP.nil _ _, Below.refl _ _⟩
  | some a =>
    have hal : Below w.heap.size w (w.alloc (.cells #[] 33)) := (Below.refl _ _).alloc (Nat.le_refl _) _
    have HO := Lib.hid (own_madep w w.heap.size (Nat.le_refl _))
    have HC := Lib.hid (HS.out.on hal)
    have HA := Lib.hid hal
    have hx : (0 : Nat) + ps.length ≤ 100000 := by omega
    have hm : Hid (n = ([] : List Pm).length + ps.length) := by show _ = _; simpa using hn0
    clear hal hn0
    go_enter Tryz.func46, Tryz.ntmps46
    go_wp2_with (at_builtin; refine wpList_append_prims rfl _ _ rfl w.heap.size _ [] rfl HO.out ps (some a) n cap rfl HN.out HR.out.1 HC.out HA.out.size hx n hm.out ?_)
    intro A4 c4 w' ho hg
    have HB := Lib.hid (below_appendp HA.out HO.out hg (Nat.le_refl _))
    have HO2 := Lib.hid ho
    clear ho hg
    go_wp2
    go_ret
    exact ⟨A4, c4, rfl, HO2.out, HB.out⟩
theorem pgrow_none (n : Nat) (hn : 0 < n) (hn2 : n ≤ 1000000) (w : World) :
    Calls Tryz.prog 71 #[.slice none 0 0, .int .i64 (n : Int)] w fun e w' => ∃ A cap, e = .returned (.slice A 0 cap) ∧ OwnP w' w.heap.size (.slice A 0 cap) [] ∧ Below w.heap.size w w' := by
  obtain ⟨i0, hi, hz0, hz1, hz2⟩ := info_parts info_prim
  have h1 : ¬ ((n : Int) < 0) := by omega
  have h4 : (n : Int) > 0 := by omega
  have h := Lib.run_append_grow_zeros (P := Tryz.prog) w 22 3 22 33 i0 _ .i64 .i64 Tryz.underlying22 Tryz.underlying3 hi hz0 none 0 0 [] (run_firstCells_none w.drew i0.size 0 0 0) n hn (by rw [hz1]; decide) (by omega) (by omega) (by rw [hz2]; omega) (growslice_fits (by omega) (by rw [hz2]; omega))
  have hG := grownCap_ge w (0 + n) 0 33
  have hM := grownCap_le_maxLen w (0 + n) 0 33 (by unfold maxLen; omega)
  generalize grownCap w (0 + n) 0 33 = G at *
  rw [Nat.zero_add] at h hG
  have hcs : (Builtin.zeroCells (Value.agg #[.int .i64 0, .string ByteArray.empty, .string ByteArray.empty, .int .i64 0, .slice none 0 0, .slice none 0 0]).cells n ++ Builtin.zeroCells (Value.agg #[.int .i64 0, .string ByteArray.empty, .string ByteArray.empty, .int .i64 0, .slice none 0 0, .slice none 0 0]).cells (G - n)).size = G * 6 := by
    simp [Builtin.zeroCells, Value.cells]
    omega
  have hfin : Hid (OwnP (w.drew.alloc (.cells (([] : List Value).toArray ++ Builtin.zeroCells (Value.agg #[.int .i64 0, .string ByteArray.empty, .string ByteArray.empty, .int .i64 0, .slice none 0 0, .slice none 0 0]).cells n ++ Builtin.zeroCells (Value.agg #[.int .i64 0, .string ByteArray.empty, .string ByteArray.empty, .int .i64 0, .slice none 0 0, .slice none 0 0]).cells (G - n)) 33)) w.heap.size (.slice (some ⟨w.heap.size, 0, none⟩) 0 G) [] ∧
      Below w.heap.size w (w.drew.alloc (.cells (([] : List Value).toArray ++ Builtin.zeroCells (Value.agg #[.int .i64 0, .string ByteArray.empty, .string ByteArray.empty, .int .i64 0, .slice none 0 0, .slice none 0 0]).cells n ++ Builtin.zeroCells (Value.agg #[.int .i64 0, .string ByteArray.empty, .string ByteArray.empty, .int .i64 0, .slice none 0 0, .slice none 0 0]).cells (G - n)) 33))) :=
    ⟨w.drew.ownsRow_made _ G (Nat.le_refl _) hM (by simpa using hcs), (Below.refl _ w).drew.alloc (Nat.le_refl _) _⟩
  generalize (([] : List Value).toArray ++ Builtin.zeroCells (Value.agg #[.int .i64 0, .string ByteArray.empty, .string ByteArray.empty, .int .i64 0, .slice none 0 0, .slice none 0 0]).cells n ++ Builtin.zeroCells (Value.agg #[.int .i64 0, .string ByteArray.empty, .string ByteArray.empty, .int .i64 0, .slice none 0 0, .slice none 0 0]).cells (G - n)) = cs at *
  have hz0 : (0 : Int) ≤ (n : Int) := by omega
  have hg1 : (n : Int) ≤ (G : Int) := by omega
  have hg2 : G ≤ 9223372036854775807 := by unfold maxLen at hM; omega
  clear hi hz1 hz2 hcs hM
  go_enter Tryz.func71, Tryz.ntmps71
  go_wp2_with (at_builtin; refine Lib.wpList_append_run _ rfl _ _ _ _ rfl _ _ rfl rfl _ _ h ?_)
  go_wp2
  go_ret
  exact ⟨_, _, rfl, hfin.out.1, hfin.out.2⟩
theorem pgrow_zero (w : World) : Calls Tryz.prog 71 #[.slice none 0 0, .int .i64 0] w fun e w' => e = .returned (.slice none 0 0) ∧ w' = w := by
  go_enter Tryz.func71, Tryz.ntmps71
  go_wp2
  go_ret
  exact ⟨rfl, rfl⟩
theorem pgrow_any (n : Nat) (hn2 : n ≤ 1000000) (w : World) :
    Calls Tryz.prog 71 #[.slice none 0 0, .int .i64 (n : Int)] w fun e w' => ∃ A cap, e = .returned (.slice A 0 cap) ∧ OwnP w' w.heap.size (.slice A 0 cap) [] ∧ Below w.heap.size w w' := by
  rcases Nat.eq_zero_or_pos n with rfl | h
  · exact (pgrow_zero w).mono fun e w' ⟨h1, h2⟩ => ⟨none, 0, h1, OwnP.nil _ _, by rw [h2]; exact Below.refl _ _⟩
  · exact pgrow_none n h hn2 w
/-- A row of lines, as one of the rows that are joined. -/
structure RwP where
  a : Option Addr
  c : Nat
  ls : List Pm
def allRq (rows : List RwP) : List Pm := rows.flatMap RwP.ls
theorem allRq_take (rows : List RwP) (k : Nat) (h : k < rows.length) : allRq (rows.take (k + 1)) = allRq (rows.take k) ++ rows[k].ls := by
  unfold allRq
  rw [List.take_succ_eq_append_getElem h, List.flatMap_append]
  simp
theorem allRq_len (rows : List RwP) (k : Nat) : (allRq (rows.take k)).length ≤ (allRq rows).length := by
  unfold allRq
  have e := congrArg (fun l => (List.flatMap RwP.ls l).length) (List.take_append_drop k rows)
  simp only [List.flatMap_append, List.length_append] at e
  omega
set_option maxHeartbeats 2000000 in
set_option maxRecDepth 100000 in
theorem pconcat_any (q rc : Nat) (rows : List RwP) (w : World) (hq : q < w.heap.size) (hc : ∀ j (h : j < rows.length), w.cell? ⟨q, j, none⟩ = some (.slice rows[j].a (List.length (α := Pm) rows[j].ls) rows[j].c)) (hr : ∀ r ∈ rows, Ps w w.heap.size r.a r.ls ∧ Room r.a r.ls.length r.c) (hn : rows.length ≤ 100) (hl : (allRq rows).length ≤ 100000) :
    Calls Tryz.prog 47 #[.slice (some ⟨q, 0, none⟩) rows.length rc] w fun e w' => ∃ A n c, e = .returned (.slice A n c) ∧ n = (allRq rows).length ∧ OwnP w' w.heap.size (.slice A n c) (allRq rows) ∧ Below w.heap.size w w' := by
  have HC := Lib.hid hc
  have HR := Lib.hid hr
  clear hc hr
  go_enter Tryz.func47, Tryz.ntmps47
  go_wp2_with fail
  go_loopw [3, 11] (fun s3 s11 wr => ∃ (k m : Nat), k ≤ rows.length ∧ s3 = .int .i64 (m : Int) ∧ s11 = .int .i64 (k : Int) ∧ Hid (m = (allRq (rows.take k)).length) ∧ wr = w) (fun _ s11 _ => rows.length - (intOf s11).toNat)
  case atStart => exact ⟨0, 0, Nat.zero_le _, rfl, rfl, rfl, rfl⟩
  case round =>
    obtain ⟨k, m, hk, rfl, rfl, HM, hw0⟩ := hrel
    replace hw0 := hw0.symm
    subst hw0
    by_cases hlt : k < rows.length
    · have c0 := HC.out k hlt
      have hm2 : m + rows[k].ls.length ≤ 100000 := by
        have h1 := allRq_take rows k hlt
        have h2 := allRq_len rows (k + 1)
        have h3 := congrArg List.length h1
        rw [List.length_append] at h3
        have := HM.out
        omega
      have HM2 : Hid (m + rows[k].ls.length = (allRq (rows.take (k + 1))).length) := by
        show _ = _
        rw [allRq_take rows k hlt, List.length_append, HM.out]
      have hw : IntKind.i64.wrap ((m : Int) + (rows[k].ls.length : Int)) = (m : Int) + (rows[k].ls.length : Int) := IntWalk.i64_in _ (by omega)
      have hs : ¬ (m : Int) + (rows[k].ls.length : Int) < 0 := by omega
      generalize rows[k].ls.length = n2 at *
      generalize rows[k].a = a2 at *
      generalize rows[k].c = c2 at *
      go_wp2
      go_roundw
      case rel => exact ⟨k + 1, m + n2, by omega, by go_num, by go_num, HM2.out, True.intro⟩
      case measure => simp [intOf]; omega
    · have hke : k = rows.length := by omega
      subst hke
      have hm : Hid (m = (allRq rows).length) := by show _ = _; rw [HM.out, List.take_length]
      have hml : m ≤ 1000000 := by have := hm.out; omega
      have CG := Lib.hid (pgrow_any m hml w)
      clear hml HM
      go_wp2_with fail
      refine CG.out.mono ?_
      rintro e w1 ⟨A1, c1, rfl, ho1, hb1⟩
      have HO1 := Lib.hid ho1
      have HB1 := Lib.hid hb1
      clear ho1 hb1 CG
      go_wp2
      go_loopw [6, 27] (fun s6 s27 wr => ∃ (k : Nat) (A : Option Addr) (n c : Nat), k ≤ rows.length ∧ s6 = .slice A n c ∧ s27 = .int .i64 (k : Int) ∧ Hid (OwnP wr w.heap.size (.slice A n c) (allRq (rows.take k)) ∧ Below w.heap.size w wr)) (fun _ s27 _ => rows.length - (intOf s27).toNat)
      case atStart => exact ⟨0, A1, 0, c1, Nat.zero_le _, rfl, rfl, HO1.out, HB1.out⟩
      case round =>
        obtain ⟨k, A, n, c, hk, rfl, rfl, HI⟩ := hrel
        by_cases hlt : k < rows.length
        · have c0 := (HI.out.2.cell (p := ⟨q, k, none⟩) hq).trans (HC.out k hlt)
          have hrr := HR.out _ (List.getElem_mem hlt)
          have hfc := Lib.hid (hrr.1.on HI.out.2)
          have hroom := Lib.hid hrr.2
          have hle : (allRq (rows.take k)).length + (rows[k]'hlt).ls.length ≤ 100000 := by
            have h1 := allRq_take rows k hlt
            have h2 := allRq_len rows (k + 1)
            have h3 := congrArg List.length h1
            rw [List.length_append] at h3
            omega
          have HL := Lib.hid hle
          have HT := Lib.hid (allRq_take rows k hlt)
          obtain ⟨n2, hn2⟩ : ∃ n2, n2 = (rows[k]'hlt).ls.length := ⟨_, rfl⟩
          rw [← hn2] at c0
          have HN2 := Lib.hid hn2
          obtain ⟨n3, hn3⟩ : ∃ n3, n3 = (allRq (rows.take k)).length + (rows[k]'hlt).ls.length := ⟨_, rfl⟩
          have HN3 := Lib.hid hn3
          clear hrr hle hn2 hn3
          generalize rows[k] = r at *
          go_wp2_with (at_builtin; refine wpList_append_prims rfl _ _ rfl w.heap.size (.slice A n c) (allRq (rows.take k)) rfl HI.out.1 r.ls r.a n2 r.c rfl HN2.out hroom.out.1 hfc.out HI.out.2.size HL.out n3 HN3.out ?_)
          intro A2 c2 w2 ho2 hg2
          have HB2 := Lib.hid (below_appendp HI.out.2 HI.out.1 hg2 (Nat.le_refl _))
          have HO2 : Hid (OwnP w2 w.heap.size (.slice A2 n3 c2) (allRq (rows.take (k + 1)))) := by show OwnP _ _ _ _; rw [HT.out]; exact ho2
          clear ho2 hg2
          go_wp2
          go_roundw
          case rel => exact ⟨k + 1, A2, n3, c2, by omega, rfl, by go_num, HO2.out, HB2.out⟩
          case measure => simp [intOf]; omega
        · have hke : k = rows.length := by omega
          subst hke
          have hfin : Hid (OwnP wr w.heap.size (.slice A n c) (allRq rows) ∧ Below w.heap.size w wr) := by
            have h := HI.out
            rw [List.take_length] at h
            exact h
          go_wp2
          go_ret
          obtain rfl : n = (allRq rows).length := by
            exact (OwnP.flat hfin.out.1).1
          exact ⟨_, _, _, rfl, rfl, hfin.out.1, hfin.out.2⟩
/-- The steps of a part of a row: from place i on, to place j. -/
theorem run_slice_prims_part (b off n cap i j : Nat) (hi : i ≤ j) (hj : j ≤ n) (hn : n ≤ cap) : ∃ A', (∀ w, (Instr.slice 22 (.slice (some ⟨b, off, none⟩) n cap) (some (.int .i64 (i : Int))) (some (.int .i64 (j : Int))) none).run Tryz.prog w = .ok (.slice A' (j - i) (cap - i)) w) ∧ (∀ W B (ps : List Pm), ps.length = n → Ps W B (some ⟨b, off, none⟩) ps → Ps W B A' ((ps.take j).drop i)) ∧ (A' = none → cap - i = 0) := by
  refine ⟨if cap = i then some ⟨b, off, none⟩ else some ⟨b, off + i * 6, none⟩, fun w => ?_, fun W B ps hp k => ?_, fun e => by split at e <;> cases e⟩
  · have hb : ∀ w, (Instr.sliceBounds true n cap (some (.int .i64 (i : Int))) (some (.int .i64 (j : Int))) none).run Tryz.prog w = .ok (i, j, cap) w := by
      intro w
      have h1 : (i : Int) ≤ (j : Int) := by omega
      have h2 : (j : Int) ≤ (cap : Int) := by omega
      simp [Instr.sliceBounds, Instr.sliceBound, asIntOf, go_sem, show i ≤ j by omega, show j ≤ cap by omega] <;> intros <;> omega
    obtain ⟨d, hd, hs⟩ : ∃ d, Tryz.prog.info? 33 = some d ∧ d.size = 6 := by
      have := size_prim
      cases h : Tryz.prog.info? 33 with
      | none => rw [h] at this; cases this
      | some d => rw [h] at this; exact ⟨d, rfl, by simpa using this⟩
    unfold Instr.slice
    rw [Sem.run_bind, run_underlying Tryz.underlying22, Result.andThen_ok]
    simp only []
    rw [Sem.run_bind, hb, Result.andThen_ok]
    simp [sizeOf, typeInfo, hd, hs, Sem.run_bind, add_row]
  · refine ⟨fun h0 => ?_, fun z hz => k.ok z (List.mem_of_mem_take (List.mem_of_mem_drop hz))⟩
    rw [List.length_drop, List.length_take] at h0
    obtain ⟨b', off', e, hb, hc⟩ := k.at_ (by omega)
    cases e
    rw [if_neg (by omega)]
    refine ⟨b, off + i * 6, rfl, hb, fun m hm => ?_⟩
    rw [List.length_drop, List.length_take] at hm
    rw [List.getElem_drop, List.getElem_take]
    have := hc (i + m) (by omega)
    rw [show off + (i + m) * 6 = off + i * 6 + m * 6 by omega] at this
    exact this
end Go.Proofs.YtalabahjfmcnbaaGreatDoor
namespace Go.Proofs.YtalabahjfmcnbaaGreatDoor
open Go.RowKit
set_option linter.unusedVariables false

theorem below_grown1 {w w' : World} (hb : Below w.heap.size w w') (row : Option Nat) : w.grownBy w' row := ⟨hb.os, hb.tape, hb.output, hb.size, fun i hi _ => hb.block i hi⟩
/-- A step written over place i of a row in block g. -/
def putPrim (w : World) (g i : Nat) (z : Pm) : World := (((((w.setCell ⟨g, i * 6, none⟩ (.int .i64 z.kind)).setCell ⟨g, i * 6 + 1, none⟩ (.string z.p)).setCell ⟨g, i * 6 + 2, none⟩ (.string z.dst)).setCell ⟨g, i * 6 + 3, none⟩ (.int .i64 z.at_)).setCell ⟨g, i * 6 + 4, none⟩ (.slice z.a1 z.old.length z.c1)).setCell ⟨g, i * 6 + 5, none⟩ (.slice z.a2 z.new.length z.c2)
theorem pcells_set : ∀ (d : List Pm) (i : Nat) (z : Pm), i < d.length → pcells (d.set i z) = ((((((pcells d).set (i * 6) (.int .i64 z.kind)).set (i * 6 + 1) (.string z.p)).set (i * 6 + 2) (.string z.dst)).set (i * 6 + 3) (.int .i64 z.at_)).set (i * 6 + 4) (.slice z.a1 z.old.length z.c1)).set (i * 6 + 5) (.slice z.a2 z.new.length z.c2)
  | h :: d, 0, z, _ => rfl
  | h :: d, i + 1, z, hi => by
    have ih := pcells_set d i z (by simpa using hi)
    have e : pcells (h :: d) = Value.int .i64 h.kind :: Value.string h.p :: Value.string h.dst :: Value.int .i64 h.at_ :: Value.slice h.a1 h.old.length h.c1 :: Value.slice h.a2 h.new.length h.c2 :: pcells d := rfl
    have e2 : pcells ((h :: d).set (i + 1) z) = Value.int .i64 h.kind :: Value.string h.p :: Value.string h.dst :: Value.int .i64 h.at_ :: Value.slice h.a1 h.old.length h.c1 :: Value.slice h.a2 h.new.length h.c2 :: pcells (d.set i z) := rfl
    rw [e2, ih, e, show (i + 1) * 6 = i * 6 + 6 by omega, show i * 6 + 6 + 1 = i * 6 + 1 + 6 by omega, show i * 6 + 6 + 2 = i * 6 + 2 + 6 by omega, show i * 6 + 6 + 3 = i * 6 + 3 + 6 by omega, show i * 6 + 6 + 4 = i * 6 + 4 + 6 by omega, show i * 6 + 6 + 5 = i * 6 + 5 + 6 by omega]
    rfl
theorem pcells_set45 : ∀ (d : List Pm) (i : Nat) (hi : i < d.length) (A B : Option Addr) (m k : Nat) (old new : List (List UInt8)), pcells (d.set i ⟨d[i].kind, d[i].p, d[i].dst, d[i].at_, A, m, old, B, k, new⟩) = ((pcells d).set (i * 6 + 4) (.slice A old.length m)).set (i * 6 + 5) (.slice B new.length k)
  | h :: d, 0, _, A, B, m, k, old, new => rfl
  | h :: d, i + 1, hi, A, B, m, k, old, new => by
    have hi' : i < d.length := by simpa using hi
    have ih := pcells_set45 d i hi' A B m k old new
    have e : pcells (h :: d) = Value.int .i64 h.kind :: Value.string h.p :: Value.string h.dst :: Value.int .i64 h.at_ :: Value.slice h.a1 h.old.length h.c1 :: Value.slice h.a2 h.new.length h.c2 :: pcells d := rfl
    have e2 : pcells ((h :: d).set (i + 1) ⟨(h :: d)[i + 1].kind, (h :: d)[i + 1].p, (h :: d)[i + 1].dst, (h :: d)[i + 1].at_, A, m, old, B, k, new⟩) = Value.int .i64 h.kind :: Value.string h.p :: Value.string h.dst :: Value.int .i64 h.at_ :: Value.slice h.a1 h.old.length h.c1 :: Value.slice h.a2 h.new.length h.c2 :: pcells (d.set i ⟨d[i].kind, d[i].p, d[i].dst, d[i].at_, A, m, old, B, k, new⟩) := rfl
    rw [e2, ih, e, show (i + 1) * 6 + 4 = i * 6 + 4 + 6 by omega, show (i + 1) * 6 + 5 = i * 6 + 5 + 6 by omega]
    rfl
theorem OwnP.put {w : World} {B g n c : Nat} {ps : List Pm} (h : OwnP w B (.slice (some ⟨g, 0, none⟩) n c) ps) {i : Nat} (hi : i < ps.length) (z : Pm) : OwnP (putPrim w g i z) B (.slice (some ⟨g, 0, none⟩) n c) (ps.set i z) ∧ w.grownBy (putPrim w g i z) (some g) := by
  have hn := h.flat.1
  subst hn
  unfold OwnP at h ⊢
  obtain ⟨s0, g0⟩ := h.stored (i * 6) (.int .i64 z.kind)
  obtain ⟨s1, g1⟩ := s0.stored (i * 6 + 1) (.string z.p)
  obtain ⟨s2, g2⟩ := s1.stored (i * 6 + 2) (.string z.dst)
  obtain ⟨s3, g3⟩ := s2.stored (i * 6 + 3) (.int .i64 z.at_)
  obtain ⟨s4, g4⟩ := s3.stored (i * 6 + 4) (.slice z.a1 z.old.length z.c1)
  obtain ⟨s5, g5⟩ := s4.stored (i * 6 + 5) (.slice z.a2 z.new.length z.c2)
  rw [← pcells_set ps i z hi] at s5
  rw [List.length_set]
  exact ⟨s5, grown_on (grown_on (grown_on (grown_on (grown_on g0 g1) g2) g3) g4) g5⟩
theorem OwnP.put45 {w : World} {B g n c : Nat} {ps : List Pm} (h : OwnP w B (.slice (some ⟨g, 0, none⟩) n c) ps) {i : Nat} (hi : i < ps.length) (A1 A2 : Option Addr) (m1 m2 : Nat) (old new : List (List UInt8)) :
    OwnP ((w.setCell ⟨g, i * 6 + 4, none⟩ (.slice A1 old.length m1)).setCell ⟨g, i * 6 + 5, none⟩ (.slice A2 new.length m2)) B (.slice (some ⟨g, 0, none⟩) n c) (ps.set i ⟨ps[i].kind, ps[i].p, ps[i].dst, ps[i].at_, A1, m1, old, A2, m2, new⟩) ∧
      w.grownBy ((w.setCell ⟨g, i * 6 + 4, none⟩ (.slice A1 old.length m1)).setCell ⟨g, i * 6 + 5, none⟩ (.slice A2 new.length m2)) (some g) := by
  have hn := h.flat.1
  subst hn
  unfold OwnP at h ⊢
  obtain ⟨s4, g4⟩ := h.stored (i * 6 + 4) (.slice A1 old.length m1)
  obtain ⟨s5, g5⟩ := s4.stored (i * 6 + 5) (.slice A2 new.length m2)
  rw [← pcells_set45 ps i hi A1 A2 m1 m2 old new] at s5
  rw [List.length_set]
  exact ⟨s5, grown_on g4 g5⟩
theorem OwnP.at0 {w : World} {B g n c : Nat} {ps : List Pm} (h : OwnP w B (.slice (some ⟨g, 0, none⟩) n c) ps) (j : Nat) : w.frozen? ⟨g, j, none⟩ = false := by
  have hn := h.flat.1
  subst hn
  exact World.ownsRow.frozenAt h j

theorem run_copy_prims (w : World) (ty : TypeId) (g o dLen dCap : Nat) (a : Addr) (sLen sCap : Nat) (cur : Array Value) (t : TypeId) (cs : List Value)
    (hg : w.heap[g]? = some (.cells cur t (0, 0))) (hn : cs.length = Nat.min sLen dLen * 6)
    (hsrc : ∀ j v, cs[j]? = some v → w.cell? (a.add j) = some v) (hfit : o + cs.length ≤ cur.size) (h1 : ∀ v ∈ cs, v.oneCell' = true) :
    (Builtin.copy_ #[22, 22] ty #[.slice (some ⟨g, o, none⟩) dLen dCap, .slice (some a) sLen sCap]).run Tryz.prog w =
      .ok (goInt (Nat.min sLen dLen)) (w.setRow g (cur.toList.take o ++ cs ++ cur.toList.drop (o + cs.length)).toArray) := by
  have hl := run_loadCells_list (P := Tryz.prog) w a cs hsrc
  have hst := run_storeCells_at Tryz.prog g o t cs 0 cur w hg (by simpa using hfit) h1
  obtain ⟨i, hq, hi⟩ : ∃ d, Tryz.prog.info? 33 = some d ∧ d.size = 6 := by
    have := size_prim
    cases h : Tryz.prog.info? 33 with
    | none => rw [h] at this; cases this
    | some d => rw [h] at this; exact ⟨d, rfl, by simpa using this⟩
  have hu := Tryz.underlying22
  simp [Builtin.copy_, run_underlying hu, Builtin.lenOf, Builtin.firstCells, sizeOf, typeInfo, hq, hi, ← hn, hl, hst]
/-- Steps copied over the last ones of a row. -/
theorem copy_own {w : World} {B g n c : Nat} {ps qs : List Pm} {A : Option Addr} (hown : OwnP w B (.slice (some ⟨g, 0, none⟩) n c) ps) (k : Nat) (hk : k + qs.length = ps.length) (hq : Ps w w.heap.size A qs) (h0 : 0 < qs.length) (ty : TypeId) (dc sc : Nat) :
    ∃ w', (Builtin.copy_ #[22, 22] ty #[.slice (some ⟨g, k * 6, none⟩) qs.length dc, .slice A qs.length sc]).run Tryz.prog w = .ok (goInt qs.length) w' ∧ OwnP w' B (.slice (some ⟨g, 0, none⟩) n c) (ps.take k ++ qs) ∧ w.grownBy w' (some g) := by
  have hn := hown.flat.1
  subst hn
  obtain ⟨b, off, rfl, hnews⟩ := hq.news h0
  have hl6 := hown.1
  rcases hown.2 with ⟨he, h00⟩ | ⟨g', cap, cur, he, hB, hg, hnc, hm, hs, ht⟩
  · omega
  · simp only [Value.slice.injEq, Option.some.injEq, Addr.mk.injEq, and_true, true_and] at he
    obtain ⟨rfl, rfl⟩ := he
    have hrun := run_copy_prims w ty g (k * 6) qs.length dc ⟨b, off, none⟩ qs.length sc cur 33 (pcells qs) hg (by rw [pcells_len]; simp) (fun j v hj => hnews j v hj) (by rw [pcells_len]; omega) (pcells_one qs)
    rw [show Nat.min qs.length qs.length = qs.length from Nat.min_self _] at hrun
    have hcl : cur.toList.length = c * 6 := by rw [Array.length_toList, hs]
    have htk : cur.toList.take (k * 6) = pcells (ps.take k) := by
      have e : pcells ps = pcells (ps.take k) ++ pcells (ps.drop k) := by rw [← pcells_app, List.take_append_drop]
      have hlen : (pcells (ps.take k)).length = k * 6 := by rw [pcells_len, List.length_take]; omega
      have h1 : (cur.toList.take (ps.length * 6)).take (k * 6) = (pcells ps).take (k * 6) := by rw [ht]
      rw [List.take_take, Nat.min_eq_left (by omega), e, ← hlen, List.take_left] at h1
      rw [← hlen]
      exact h1
    refine ⟨_, hrun, ?_, ⟨rfl, rfl, rfl, by simp [World.setRow], fun i _ hne => setRow_other w g i _ (fun e => hne (by rw [e]))⟩⟩
    have hlen2 : (ps.take k ++ qs).length = ps.length := by rw [List.length_append, List.length_take]; omega
    unfold OwnP World.ownsRow
    rw [hlen2]
    refine ⟨by rw [pcells_len, hlen2], .inr ⟨g, c, _, rfl, hB, setRow_heap w g cur _ _ _ hg, hnc, hm, ?_, ?_⟩⟩
    · rw [List.size_toArray, List.length_append, List.length_append, List.length_take, List.length_drop, hcl, pcells_len]
      omega
    · rw [pcells_app, ← htk]
      have h2 : (cur.toList.take (k * 6) ++ pcells qs).length = ps.length * 6 := by rw [List.length_append, List.length_take, hcl, pcells_len]; omega
      rw [← h2]
      exact List.take_left
end Go.Proofs.YtalabahjfmcnbaaGreatDoor
namespace Go.Proofs.YtalabahjfmcnbaaGreatDoor
open Go.RowKit
set_option linter.unusedVariables false

/-- Step i passes what is ahead; it is behind, then. -/
def stepI (ks : List Pk) (s : Int × List Pk × List Pk) (i : Nat) : Int × List Pk × List Pk := if s.1 ≠ 0 then (s.1, [], []) else match ks[i]? with
  | none => s
  | some p => match pastP p s.2.1 with
    | (m, x, q) => if m ≠ 0 then (m, [], []) else (0, x, s.2.2.set i q)
def foldI (ks b : List Pk) (pre : List Nat) : Int × List Pk × List Pk := pre.foldl (stepI ks) (0, b, List.replicate ks.length zeroP)
theorem fold_snoc (ks b : List Pk) (pre : List Nat) (i : Nat) : foldI ks b (pre ++ [i]) = stepI ks (foldI ks b pre) i := by
  unfold foldI
  rw [List.foldl_append]
  rfl
theorem step_bad {ks : List Pk} {n : Int} (hn : n ≠ 0) (u v : List Pk) (i : Nat) : stepI ks (n, u, v) i = (n, [], []) := by
  unfold stepI
  rw [if_pos hn]
theorem step_ok {ks u v x : List Pk} {i : Nat} (hi : i < ks.length) {q : Pk} (h : pastP ks[i] u = (0, x, q)) : stepI ks (0, u, v) i = (0, x, v.set i q) := by
  unfold stepI
  simp only [ne_eq, not_true_eq_false, if_false, List.getElem?_eq_getElem hi, h]
theorem step_er {ks u v x : List Pk} {i : Nat} (hi : i < ks.length) {q : Pk} {m : Int} (hm : m ≠ 0) (h : pastP ks[i] u = (m, x, q)) : stepI ks (0, u, v) i = (m, [], []) := by
  unfold stepI
  simp only [ne_eq, not_true_eq_false, if_false, List.getElem?_eq_getElem hi, h]
  rw [if_pos hm]
/-- The steps from place k on, the last one first. -/
theorem fold_rows (ks b : List Pk) : ∀ (m k : Nat), k + m = ks.length → foldI ks b ((List.range ks.length).drop k).reverse = (if (rowsP (ks.drop k) b).1 ≠ 0 then ((rowsP (ks.drop k) b).1, [], []) else (0, (rowsP (ks.drop k) b).2.1, List.replicate k zeroP ++ (rowsP (ks.drop k) b).2.2))
  | 0, k, h => by
    have hk : k = ks.length := by omega
    subst hk
    rw [List.drop_length, List.drop_of_length_le (by simp)]
    simp [foldI, rowsP]
  | m + 1, k, h => by
    have hk : k < ks.length := by omega
    have ih := fold_rows ks b m (k + 1) (by omega)
    have e1 : ((List.range ks.length).drop k).reverse = ((List.range ks.length).drop (k + 1)).reverse ++ [k] := by
      rw [List.drop_eq_getElem_cons (by simpa using hk), List.reverse_cons]
      simp
    rw [e1, fold_snoc, ih]
    have e2 : ks.drop k = ks[k] :: ks.drop (k + 1) := List.drop_eq_getElem_cons hk
    have e3 : rowsP (ks.drop k) b = (match rowsP (ks.drop (k + 1)) b with
      | (n, x, y) => if n ≠ 0 then (n, [], []) else match pastP ks[k] x with
        | (m, x', q) => if m ≠ 0 then (m, [], []) else (0, x', q :: y)) := by
      rw [e2]
      conv => lhs; unfold rowsP
    rw [e3]
    obtain ⟨n, x, y, e4⟩ : ∃ n x y, rowsP (ks.drop (k + 1)) b = (n, x, y) := ⟨_, _, _, rfl⟩
    rw [e4]
    simp only
    by_cases hn : n = 0
    · subst hn
      simp only [ne_eq, not_true_eq_false, if_false]
      obtain ⟨m2, x', q, e5⟩ : ∃ m2 x' q, pastP ks[k] x = (m2, x', q) := ⟨_, _, _, rfl⟩
      rw [e5]
      by_cases hm : m2 = 0
      · subst hm
        rw [step_ok hk e5]
        simp only [not_true_eq_false, if_false]
        have e6 : (List.replicate (k + 1) zeroP ++ y).set k q = List.replicate k zeroP ++ q :: y := by
          rw [List.replicate_succ', List.append_assoc, List.set_append_right _ _ (by simp)]
          simp
        rw [e6]
      · rw [step_er hk hm e5]
        simp [hm]
    · rw [if_pos hn, step_bad hn]
      simp [hn]
theorem rows_drop (ks b : List Pk) : ∀ (k : Nat), (rowsP (ks.drop k) b).1 ≠ 0 → rowsP ks b = ((rowsP (ks.drop k) b).1, [], []) := by
  have h1 : ∀ (p : Pk) (l : List Pk) (n : Int), n ≠ 0 → (rowsP l b).1 = n → rowsP (p :: l) b = (n, [], []) := by
    intro p l n hn h
    unfold rowsP
    obtain ⟨m, x, y, e⟩ : ∃ m x y, rowsP l b = (m, x, y) := ⟨_, _, _, rfl⟩
    rw [e] at h ⊢
    simp only at h ⊢
    subst h
    rw [if_pos hn]
  have h3 : ∀ (l : List Pk) (n : Int), n ≠ 0 → (rowsP l b).1 = n → rowsP l b = (n, [], []) := by
    intro l n hn h
    cases l with
    | nil => exact absurd h.symm hn
    | cons p l =>
      unfold rowsP at h ⊢
      obtain ⟨m, x, y, e⟩ : ∃ m x y, rowsP l b = (m, x, y) := ⟨_, _, _, rfl⟩
      rw [e] at h ⊢
      simp only at h ⊢
      by_cases hm : m = 0
      · subst hm
        simp only [ne_eq, not_true_eq_false, if_false] at h ⊢
        obtain ⟨m2, x', q, e5⟩ : ∃ m2 x' q, pastP p x = (m2, x', q) := ⟨_, _, _, rfl⟩
        rw [e5] at h ⊢
        simp only at h ⊢
        by_cases hm2 : m2 = 0
        · subst hm2
          simp only [not_true_eq_false, if_false] at h
          exact absurd h.symm hn
        · simp only [if_pos hm2] at h ⊢
          rw [h]
      · simp only [ne_eq, hm, not_false_eq_true, if_true] at h ⊢
        rw [h]
  intro k
  induction ks generalizing k with
  | nil =>
    intro h
    simp [rowsP] at h
  | cons p l ih =>
    cases k with
    | zero => intro h; rw [List.drop_zero] at h ⊢; exact h3 _ _ h rfl
    | succ k =>
      intro h
      rw [List.drop_succ_cons] at h ⊢
      exact h1 p l _ h (by rw [ih k h])
theorem fold_all {ks b u v : List Pk} {er : Int} (h : foldI ks b ((List.range ks.length).drop 0).reverse = (er, u, v)) (h0 : er = 0) : rowsP ks b = (0, u, v) := by
  subst h0
  have h2 := fold_rows ks b ks.length 0 (by omega)
  rw [h, List.drop_zero] at h2
  obtain ⟨n, x, y, e⟩ : ∃ n x y, rowsP ks b = (n, x, y) := ⟨_, _, _, rfl⟩
  rw [e] at h2 ⊢
  simp only at h2
  by_cases hn : n = 0
  · subst hn
    simp only [ne_eq, not_true_eq_false, if_false, List.replicate_zero, List.nil_append, Prod.mk.injEq, true_and] at h2
    obtain ⟨rfl, rfl⟩ := h2
    rfl
  · simp only [ne_eq, hn, not_false_eq_true, if_true, Prod.mk.injEq] at h2
    exact absurd h2.1.symm hn
theorem fold_stop {ks b u v : List Pk} {er : Int} {k : Nat} (hk : k ≤ ks.length) (h : foldI ks b ((List.range ks.length).drop k).reverse = (er, u, v)) (h0 : er ≠ 0) : rowsP ks b = (er, [], []) := by
  have h2 := fold_rows ks b (ks.length - k) k (by omega)
  rw [h] at h2
  by_cases hn : (rowsP (ks.drop k) b).1 = 0
  · simp only [ne_eq, hn, not_true_eq_false, if_false, Prod.mk.injEq] at h2
    exact absurd h2.1 h0
  · rw [if_pos hn] at h2
    simp only [Prod.mk.injEq] at h2
    rw [rows_drop ks b k hn, h2.1]
end Go.Proofs.YtalabahjfmcnbaaGreatDoor
