/- slices.Grow, slices.Concat of rows of strings. -/
import Derived.Test.YtempamboacbgiaaDoorCk01
import Derived.Lib.AppendZerosOnto
import Derived.WalkKit
namespace Go.Proofs.YtempamboacbgiaaDoor
open Go.RowKit
set_option linter.unusedVariables false

/-- A row's length is its slice's. -/
theorem own_len {w : World} {B : Nat} {A : Option Addr} {n c : Nat} {ls : List (List UInt8)} (h : OwnS w B (.slice A n c) ls) : n = ls.length := by
  obtain ⟨B2, d, e, _, _, _⟩ := h.strs
  simp only [Value.slice.injEq] at e
  exact e.2.1
theorem sgrow_none (n : Nat) (hn : 0 < n) (hn2 : n ≤ 1000000) (w : World) :
    Calls Tryd.prog 44 #[.slice none 0 0, .int .i64 (n : Int)] w fun e w' => ∃ A cap, e = .returned (.slice A 0 cap) ∧ OwnS w' w.heap.size (.slice A 0 cap) [] ∧ Below w.heap.size w w' := by
  obtain ⟨i0, hi, hz0, hz1, hz2⟩ := info_parts info_str
  have h1 : ¬ ((n : Int) < 0) := by omega
  have h4 : (n : Int) > 0 := by omega
  have h := Lib.run_append_grow_zeros (P := Tryd.prog) w 22 3 22 9 i0 _ .i64 .i64 Tryd.underlying22 Tryd.underlying3 hi hz0 none 0 0 [] (run_firstCells_none w.drew i0.size 0 0 0) n hn (by rw [hz1]; decide) (by omega) (by omega) (by rw [hz2]; omega) (growslice_fits (by omega) (by rw [hz2]; omega))
  have hG := grownCap_ge w (0 + n) 0 9
  have hM := grownCap_le_maxLen w (0 + n) 0 9 (by unfold maxLen; omega)
  generalize grownCap w (0 + n) 0 9 = G at *
  rw [Nat.zero_add] at h hG
  have hcs : (Builtin.zeroCells (Value.string ByteArray.empty).cells n ++ Builtin.zeroCells (Value.string ByteArray.empty).cells (G - n)).size = G * 1 := by
    simp [Builtin.zeroCells, Value.cells]
    omega
  have hfin : Hid (OwnS (w.drew.alloc (.cells (([] : List Value).toArray ++ Builtin.zeroCells (Value.string ByteArray.empty).cells n ++ Builtin.zeroCells (Value.string ByteArray.empty).cells (G - n)) 9)) w.heap.size (.slice (some ⟨w.heap.size, 0, none⟩) 0 G) [] ∧
      Below w.heap.size w (w.drew.alloc (.cells (([] : List Value).toArray ++ Builtin.zeroCells (Value.string ByteArray.empty).cells n ++ Builtin.zeroCells (Value.string ByteArray.empty).cells (G - n)) 9))) :=
    ⟨w.drew.ownsRow_made _ G (Nat.le_refl _) hM (by simpa using hcs), (Below.refl _ w).drew.alloc (Nat.le_refl _) _⟩
  generalize (([] : List Value).toArray ++ Builtin.zeroCells (Value.string ByteArray.empty).cells n ++ Builtin.zeroCells (Value.string ByteArray.empty).cells (G - n)) = cs at *
  have hz0 : (0 : Int) ≤ (n : Int) := by omega
  have hg1 : (n : Int) ≤ (G : Int) := by omega
  have hg2 : G ≤ 9223372036854775807 := by unfold maxLen at hM; omega
  clear hi hz1 hz2 hcs hM
  go_enter Tryd.func44, Tryd.ntmps44
  go_wp2_with (at_builtin; refine Lib.wpList_append_run _ rfl _ _ _ _ rfl _ _ rfl rfl _ _ h ?_)
  go_wp2
  go_ret
  exact ⟨_, _, rfl, hfin.out.1, hfin.out.2⟩
theorem sgrow_zero (w : World) : Calls Tryd.prog 44 #[.slice none 0 0, .int .i64 0] w fun e w' => e = .returned (.slice none 0 0) ∧ w' = w := by
  go_enter Tryd.func44, Tryd.ntmps44
  go_wp2
  go_ret
  exact ⟨rfl, rfl⟩
theorem sgrow_any (n : Nat) (hn2 : n ≤ 1000000) (w : World) :
    Calls Tryd.prog 44 #[.slice none 0 0, .int .i64 (n : Int)] w fun e w' => ∃ A cap, e = .returned (.slice A 0 cap) ∧ OwnS w' w.heap.size (.slice A 0 cap) [] ∧ Below w.heap.size w w' := by
  rcases Nat.eq_zero_or_pos n with rfl | h
  · exact (sgrow_zero w).mono fun e w' ⟨h1, h2⟩ => ⟨none, 0, h1, OwnS.nil _ _, by rw [h2]; exact Below.refl _ _⟩
  · exact sgrow_none n h hn2 w
/-- A row of lines, as one of the rows that are joined. -/
structure RwS where
  a : Option Addr
  c : Nat
  ls : List (List UInt8)
def allRs (rows : List RwS) : List (List UInt8) := rows.flatMap RwS.ls
theorem allRs_take (rows : List RwS) (k : Nat) (h : k < rows.length) : allRs (rows.take (k + 1)) = allRs (rows.take k) ++ rows[k].ls := by
  unfold allRs
  rw [List.take_succ_eq_append_getElem h, List.flatMap_append]
  simp
theorem allRs_len (rows : List RwS) (k : Nat) : (allRs (rows.take k)).length ≤ (allRs rows).length := by
  unfold allRs
  have e := congrArg (fun l => (List.flatMap RwS.ls l).length) (List.take_append_drop k rows)
  simp only [List.flatMap_append, List.length_append] at e
  omega
set_option maxHeartbeats 2000000 in
set_option maxRecDepth 100000 in
theorem sconcat_any (q rc : Nat) (rows : List RwS) (w : World) (hq : q < w.heap.size) (hc : ∀ j (h : j < rows.length), w.cell? ⟨q, j, none⟩ = some (.slice rows[j].a rows[j].ls.length rows[j].c)) (hr : ∀ r ∈ rows, Strs w w.heap.size r.a (toBs r.ls) ∧ Room r.a r.ls.length r.c) (hn : rows.length ≤ 100) (hl : (allRs rows).length ≤ 100000) :
    Calls Tryd.prog 35 #[.slice (some ⟨q, 0, none⟩) rows.length rc] w fun e w' => ∃ A n c, e = .returned (.slice A n c) ∧ n = (allRs rows).length ∧ OwnS w' w.heap.size (.slice A n c) (allRs rows) ∧ Below w.heap.size w w' := by
  have HC := Lib.hid hc
  have HR := Lib.hid hr
  clear hc hr
  go_enter Tryd.func35, Tryd.ntmps35
  go_wp2_with fail
  go_loopw [3, 11] (fun s3 s11 wr => ∃ (k m : Nat), k ≤ rows.length ∧ s3 = .int .i64 (m : Int) ∧ s11 = .int .i64 (k : Int) ∧ Hid (m = (allRs (rows.take k)).length) ∧ wr = w) (fun _ s11 _ => rows.length - (intOf s11).toNat)
  case atStart => exact ⟨0, 0, Nat.zero_le _, rfl, rfl, rfl, rfl⟩
  case round =>
    obtain ⟨k, m, hk, rfl, rfl, HM, hw0⟩ := hrel
    replace hw0 := hw0.symm
    subst hw0
    by_cases hlt : k < rows.length
    · have c0 := HC.out k hlt
      have hm2 : m + rows[k].ls.length ≤ 100000 := by
        have h1 := allRs_take rows k hlt
        have h2 := allRs_len rows (k + 1)
        have h3 := congrArg List.length h1
        rw [List.length_append] at h3
        have := HM.out
        omega
      have HM2 : Hid (m + rows[k].ls.length = (allRs (rows.take (k + 1))).length) := by
        show _ = _
        rw [allRs_take rows k hlt, List.length_append, HM.out]
      have hw : IntKind.i64.wrap ((m : Int) + (rows[k].ls.length : Int)) = (m : Int) + (rows[k].ls.length : Int) := IntWalk.i64_in _ (by omega)
      have hs : ¬ (m : Int) + (rows[k].ls.length : Int) < 0 := by omega
      generalize rows[k].ls.length = n2 at *
      generalize rows[k].a = a2 at *
      generalize rows[k].c = c2 at *
      go_wp2
      go_roundw
      case rel => exact ⟨k + 1, m + n2, by omega, by go_num, by go_num, HM2.out, True.intro⟩
      case measure => simp [intOf]; omega
    · have hke : k = rows.length := by omega
      subst hke
      have hm : Hid (m = (allRs rows).length) := by show _ = _; rw [HM.out, List.take_length]
      have hml : m ≤ 1000000 := by have := hm.out; omega
      have CG := Lib.hid (sgrow_any m hml w)
      clear hml HM
      go_wp2_with fail
      refine CG.out.mono ?_
      rintro e w1 ⟨A1, c1, rfl, ho1, hb1⟩
      have HO1 := Lib.hid ho1
      have HB1 := Lib.hid hb1
      clear ho1 hb1 CG
      go_wp2
      go_loopw [6, 27] (fun s6 s27 wr => ∃ (k : Nat) (A : Option Addr) (n c : Nat), k ≤ rows.length ∧ s6 = .slice A n c ∧ s27 = .int .i64 (k : Int) ∧ Hid (OwnS wr w.heap.size (.slice A n c) (allRs (rows.take k)) ∧ Below w.heap.size w wr)) (fun _ s27 _ => rows.length - (intOf s27).toNat)
      case atStart => exact ⟨0, A1, 0, c1, Nat.zero_le _, rfl, rfl, HO1.out, HB1.out⟩
      case round =>
        obtain ⟨k, A, n, c, hk, rfl, rfl, HI⟩ := hrel
        by_cases hlt : k < rows.length
        · have c0 := (HI.out.2.cell (p := ⟨q, k, none⟩) hq).trans (HC.out k hlt)
          have hrr := HR.out _ (List.getElem_mem hlt)
          have hfc := Lib.hid (hrr.1.on HI.out.2)
          have hroom := Lib.hid hrr.2
          have hle : (allRs (rows.take k)).length + (rows[k]'hlt).ls.length ≤ 1000000 := by
            have h1 := allRs_take rows k hlt
            have h2 := allRs_len rows (k + 1)
            have h3 := congrArg List.length h1
            rw [List.length_append] at h3
            omega
          have HL := Lib.hid hle
          have HT := Lib.hid (allRs_take rows k hlt)
          obtain ⟨n2, hn2⟩ : ∃ n2, n2 = (rows[k]'hlt).ls.length := ⟨_, rfl⟩
          rw [← hn2] at c0
          have HN2 := Lib.hid hn2
          obtain ⟨n3, hn3⟩ : ∃ n3, n3 = (allRs (rows.take k)).length + (rows[k]'hlt).ls.length := ⟨_, rfl⟩
          have HN3 := Lib.hid hn3
          clear hrr hle hn2 hn3
          generalize rows[k] = r at *
          go_wp2_with (at_builtin; refine wpList_append_row rfl _ _ rfl w.heap.size (.slice A n c) (allRs (rows.take k)) r.ls rfl HI.out.1 r.a r.c n2 rfl HN2.out hroom.out.1 hfc.out HI.out.2.size HL.out n3 HN3.out ?_)
          intro A2 c2 w2 ho2 _ hg2
          have HB2 := Lib.hid (below_append HI.out.2 HI.out.1 hg2 (Nat.le_refl _))
          have HO2 : Hid (OwnS w2 w.heap.size (.slice A2 n3 c2) (allRs (rows.take (k + 1)))) := by show OwnS _ _ _ _; rw [HT.out]; exact ho2
          clear ho2 hg2
          go_wp2
          go_roundw
          case rel => exact ⟨k + 1, A2, n3, c2, by omega, rfl, by go_num, HO2.out, HB2.out⟩
          case measure => simp [intOf]; omega
        · have hke : k = rows.length := by omega
          subst hke
          have hfin : Hid (OwnS wr w.heap.size (.slice A n c) (allRs rows) ∧ Below w.heap.size w wr) := by
            have h := HI.out
            rw [List.take_length] at h
            exact h
          go_wp2
          go_ret
          obtain rfl : n = (allRs rows).length := by
            exact own_len hfin.out.1
          exact ⟨_, _, _, rfl, rfl, hfin.out.1, hfin.out.2⟩
/-- What Concat hands back. -/
def ConcLeft (w : World) (L : List (List UInt8)) (e : Ending) (w' : World) : Prop := ∃ A c, e = .returned (.slice A (List.length (α := List UInt8) L) c) ∧ OwnS w' w.heap.size (.slice A L.length c) L ∧ Below w.heap.size w w'
theorem sconcat3 (q : Nat) (A1 A2 A3 : Option Addr) (c1 c2 c3 : Nat) (l1 l2 l3 L : List (List UInt8)) (w : World) (hq : w.heap[q]? = some (.cells #[.slice A1 l1.length c1, .slice A2 l2.length c2, .slice A3 l3.length c3] 22 (0, 0))) (s1 : Strs w w.heap.size A1 (toBs l1)) (s2 : Strs w w.heap.size A2 (toBs l2)) (s3 : Strs w w.heap.size A3 (toBs l3)) (r1 : Room A1 l1.length c1) (r2 : Room A2 l2.length c2) (r3 : Room A3 l3.length c3) (hL : l1 ++ l2 ++ l3 = L) (hl : L.length ≤ 100000) :
    Calls Tryd.prog 35 #[.slice (some ⟨q, 0, none⟩) 3 3] w (ConcLeft w L) := by
  have e : allRs [⟨A1, c1, l1⟩, ⟨A2, c2, l2⟩, ⟨A3, c3, l3⟩] = L := by rw [← hL]; simp [allRs]
  have h := sconcat_any q 3 [⟨A1, c1, l1⟩, ⟨A2, c2, l2⟩, ⟨A3, c3, l3⟩] w (Array.getElem?_eq_some_iff.1 hq).1 (fun j hj => by
    match j, hj with
    | 0, _ => simp [World.cell?, hq]
    | 1, _ => simp [World.cell?, hq]
    | 2, _ => simp [World.cell?, hq]) (fun r hr => by
    simp only [List.mem_cons, List.not_mem_nil, or_false] at hr
    rcases hr with rfl | rfl | rfl
    · exact ⟨s1, r1⟩
    · exact ⟨s2, r2⟩
    · exact ⟨s3, r3⟩) (by simp) (by rw [e]; exact hl)
  rw [e] at h
  exact h.mono fun e w' ⟨A, n, c, h1, h2, h3, h4⟩ => by
    subst h2
    exact ⟨A, c, h1, h3, h4⟩
end Go.Proofs.YtempamboacbgiaaDoor
