/- The reference's Alike of layer 4: the table of how much is alike. -/
import Derived.Test.YtaepfahpbnpeiaaGreatDoorCk22
import Derived.IntWalk
namespace Go.Proofs.YtaepfahpbnpeiaaGreatDoor
open Go.RowKit
set_option linter.unusedVariables false

theorem high_any (a b : Nat) (w : World) :
    Calls Tryz.prog 68 #[.int .i64 (a : Int), .int .i64 (b : Int)] w fun e w' => e = .returned (.int .i64 ((max a b : Nat) : Int)) ∧ w' = w := by
  by_cases h : b < a
  · have e : max a b = a := by omega
    rw [e]
    have q : ((b : Int) < (a : Int)) := by omega
    go_enter Tryz.func68, Tryz.ntmps68
    go_wp2
    go_ret
    exact ⟨rfl, rfl⟩
  · have e : max a b = b := by omega
    rw [e]
    have q : ¬ ((b : Int) < (a : Int)) := by omega
    go_enter Tryz.func68, Tryz.ntmps68
    go_wp2
    go_ret
    exact ⟨rfl, rfl⟩

/-- The first c rows of the table: of what is left from the end on. -/
def tabOf (la lc : List (List UInt8)) (c : Nat) : List (List Nat) := (List.range c).map fun r => rowOf (la.drop (la.length - r)) lc
theorem tabOf_len (la lc : List (List UInt8)) (c : Nat) : (tabOf la lc c).length = c := by simp [tabOf]
theorem tabOf_succ (la lc : List (List UInt8)) (c : Nat) : tabOf la lc (c + 1) = tabOf la lc c ++ [rowOf (la.drop (la.length - c)) lc] := by
  simp [tabOf, List.range_succ]
theorem OwnRows.on {w w' : World} {B n : Nat} {v : Value} {rows : List (List Nat)} (h : OwnRows w B v n rows) (hb : Below w.heap.size w w') : OwnRows w' B v n rows := by
  obtain ⟨gs, h1, h2, h3⟩ := h
  exact ⟨gs, h1, World.ownsRow.kept h2 (row := none) ⟨hb.os, hb.tape, hb.output, hb.size, fun i hi _ => hb.block i hi⟩ (by cases v.ownBlock <;> simp), fun j hj hj2 => ⟨(h3 j hj hj2).1.on hb, (h3 j hj hj2).2⟩⟩

theorem info_int : (Tryz.prog.info? 3).map (fun i => (i.zero, i.size, i.bytes)) = some (some (.int .i64 0), 1, 8) := by kernel_rfl
theorem make_ints (n : Nat) (hn : n ≤ 10000) (w : World) : (Instr.makeSlice 81 (.int .i64 ((n : Int) + 1)) (.int .i64 ((n : Int) + 1))).run Tryz.prog w = .ok (.slice (some ⟨w.heap.size, 0, none⟩) (n + 1) (n + 1)) (w.alloc (.cells (Array.replicate (n + 1) (intV 0)) 3)) := by
  obtain ⟨i0, hi, hz0, hz1, hz2⟩ := info_parts info_int
  have h := run_make (w := w) 81 3 i0 _ Tryz.underlying81 hi hz0 .i64 .i64 ((n : Int) + 1) ((n : Int) + 1) (by omega) (by omega) (by rw [hz2]; omega) (by omega)
  rw [h, hz1]
  have e1 : ((n : Int) + 1).toNat = n + 1 := by omega
  have e2 : madeCells (Value.int .i64 0).cells (((n : Int) + 1).toNat * 1) = Array.replicate (n + 1) (intV 0) := by
    rw [e1, Nat.mul_one]
    apply Array.ext
    · simp [madeCells]
    · intro i h1 h2
      simp [madeCells, Value.cells, intV, Nat.mod_one]
  rw [e1] at *
  rw [e2]
theorem ints_new (w : World) (n : Nat) : IntsAt (w.alloc (.cells (Array.replicate n (intV 0)) 3)) w.heap.size (List.replicate n 0) := by
  unfold IntsAt
  rw [heap_alloc_new]
  simp

theorem info_ints : (Tryz.prog.info? 81).map (fun i => (i.zero, i.size, i.bytes)) = some (some (.slice none 0 0), 1, 24) := by kernel_rfl
theorem OwnRows.ne {w : World} {B n g : Nat} {v : Value} {rows : List (List Nat)} {row : List Nat} (h : OwnRows w B v n rows) (hr : IntsAt w g row) : v.ownBlock ≠ some g := by
  obtain ⟨gs, _, h2, _⟩ := h
  rcases h2.2 with ⟨rfl, _⟩ | ⟨k, cap, cur, rfl, _, hk, _⟩
  · simp [Value.ownBlock]
  · intro e
    simp only [Value.ownBlock, Option.some.injEq] at e
    subst e
    rw [show w.heap[k]? = _ from hr] at hk
    simp only [Option.some.injEq, Obj.cells.injEq] at hk
    exact absurd hk.2.1 (by decide)
theorem wpList_append_ints {w : World} {ops : Array Oper} {rest : List Oper} {o : Oper} {a : Act} {Q : Exit → Act → World → Prop} (hgd : o.guard = none) (s x : Operand)
    (ho : o.op = .call { callee := .builtin .append, args := #[s, x], argTypes := #[79, 79] })
    (B : Nat) (v : Value) (n : Nat) (rows : List (List Nat)) (hs : a.eval s = v) (hown : OwnRows w B v n rows) (g : Nat) (row : List Nat) (hrow : IntsAt w g row) (hlen : row.length = n) (b : Nat) (hx : a.eval x = .slice (some ⟨b, 0, none⟩) 1 1)
    (hc : w.cell? ⟨b, 0, none⟩ = some (rowVal n g)) (hB : B ≤ w.heap.size) (hle : rows.length ≤ 100000)
    (h : ∀ v' w', OwnRows w' B v' n (rows ++ [row]) → w.grownBy w' v.ownBlock → wpList Tryz.prog ops Q rest (a.put o.dst v') w') : wpList Tryz.prog ops Q (o :: rest) a w := by
  obtain ⟨i0, hi, hz0, hz1, hz2⟩ := info_parts info_ints
  have hne0 := hown.ne hrow
  have hown0 := hown
  obtain ⟨gs, h1, h2, h3⟩ := hown
  refine wpList_append_own w hgd s x 79 ho B 81 i0 (.slice none 0 0) 1 24 Tryz.underlying79 hi hz0 hz1 hz2 rfl (by decide) v rows.length (gs.map (rowVal n)) hs h2 ⟨b, 0, none⟩ 1 1 [rowVal n g] hx rfl ?_ ?_ (by unfold maxLen; omega) (by omega) hB ?_
  · intro j u hu
    match j, hu with
    | 0, hu =>
      simp only [List.getElem?_cons_zero, Option.some.injEq] at hu
      rw [← hu, ← hc]
      rfl
  · intro u hu
    simp only [List.mem_singleton] at hu
    subst hu
    rfl
  · intro v' w' hown' hgrow _
    refine h v' w' ⟨gs ++ [g], by simp [h1], ?_, fun j hj hj2 => ?_⟩ hgrow
    · rw [List.length_append, List.map_append]
      exact hown'
    · by_cases hjl : j < gs.length
      · rw [List.getElem_append_left hjl, List.getElem_append_left (by omega)]
        have := h3 j hjl (by omega)
        exact ⟨this.1.grown hgrow (hown0.ne this.1), this.2⟩
      · have e : j = gs.length := by simp at hj; omega
        subst e
        rw [List.getElem_append_right (Nat.le_refl _), List.getElem_append_right (by omega)]
        simp only [h1, Nat.sub_self, List.getElem_cons_zero]
        exact ⟨hrow.grown hgrow hne0, hlen⟩

set_option maxHeartbeats 2000000 in
set_option maxRecDepth 100000 in
theorem refalike_any (A A2 : Option Addr) (la lc : List (List UInt8)) (cap cap2 : Nat) (w : World) (hA : Strs w w.heap.size A (toBs la)) (hC : Strs w w.heap.size A2 (toBs lc)) (hn : la.length ≤ 10000) (hn2 : lc.length ≤ 10000) :
    Calls Tryz.prog 42 #[.slice A la.length cap, .slice A2 lc.length cap2] w fun e w' => ∃ v, e = .returned v ∧ OwnRows w' w.heap.size v (lc.length + 1) (tabOf la lc (la.length + 1)) ∧ Below w.heap.size w w' := by
  have HA := Lib.hid hA
  have HC := Lib.hid hC
  clear hA hC
  go_enter Tryz.func42, Tryz.ntmps42
  have hmk := make_ints lc.length hn2
  have h0 := ints_new w (lc.length + 1)
  have hb0 : Below w.heap.size w (w.alloc (.cells (Array.replicate (lc.length + 1) (intV 0)) 3)) := (Below.refl _ w).alloc (Nat.le_refl _) _
  have H0 := Lib.hid h0
  clear h0
  go_wp2
  go_loopw [5, 6, 7] (fun v r i wr => ∃ (c g : Nat), c ≤ la.length ∧ i = .int .i64 ((la.length : Int) - 1 - c) ∧ r = .slice (some ⟨g, 0, none⟩) (lc.length + 1) (lc.length + 1) ∧ Hid (IntsAt wr g (rowOf (la.drop (la.length - c)) lc)) ∧
      Hid (OwnRows wr w.heap.size v (lc.length + 1) (tabOf la lc c)) ∧ Below w.heap.size w wr) (fun _ _ i _ => (intOf i + 1).toNat)
  case atStart =>
    refine ⟨0, w.heap.size, Nat.zero_le _, by simp, rfl, ?_, ⟨[], rfl, World.ownsRow_nil _ _ _ _, fun j hj => absurd hj (by simp)⟩, hb0⟩
    show IntsAt _ _ _
    rw [Nat.sub_zero, List.drop_length, rowOf_nil]
    exact H0.out
  case round =>
    obtain ⟨c, g, hc, rfl, rfl, hrow, hrows, hb⟩ := hrel
    clear H0 hb0
    by_cases hlt : c < la.length
    · obtain ⟨i, hi⟩ : ∃ i : Nat, i + c + 1 = la.length := ⟨la.length - c - 1, by omega⟩
      have hi1 : (la.length : Int) - 1 - (c : Int) = (i : Int) := by omega
      have hi2 : la.length - c = i + 1 := by omega
      rw [hi1]
      rw [hi2] at hrow
      obtain ⟨wo, rfl⟩ : ∃ wo : World, wo = wr := ⟨_, rfl⟩
      have h0 := ints_new wo (lc.length + 1)
      have hb0 : Below wo.heap.size wo (wo.alloc (.cells (Array.replicate (lc.length + 1) (intV 0)) 3)) := (Below.refl _ wo).alloc (Nat.le_refl _) _
      have H0 := Lib.hid h0
      have HI := Lib.hid hi
      clear h0 hi hi1 hi2
      go_wp2
      go_loopw [9] (fun kk wi => ∃ d : Nat, d ≤ lc.length ∧ kk = .int .i64 ((d : Int) - 1) ∧ Hid (IntsAt wi wo.heap.size (fillOf (la.drop i) lc d)) ∧ Below wo.heap.size wo wi) (fun kk _ => (intOf kk + 1).toNat)
      case atStart =>
        refine ⟨lc.length, Nat.le_refl _, rfl, ?_, hb0⟩
        show IntsAt _ _ _
        rw [fillOf_end]
        exact H0.out
      case round =>
        obtain ⟨d, hd, rfl, hfill, hbi⟩ := hrel
        clear H0 hb0
        by_cases hdp : 0 < d
        · obtain ⟨e, rfl⟩ : ∃ e, d = e + 1 := ⟨d - 1, by omega⟩
          have he1 : ((e + 1 : Nat) : Int) - 1 = (e : Int) := by omega
          rw [he1]
          clear he1
          have hbw := hb.trans (hbi.mono hb.size)
          have hil : i < la.length := by have := HI.out; omega
          obtain ⟨b1, o1, hA1, _, k1⟩ := (HA.out.on hbw).at_ (k := i) (by rw [toBs_len]; exact hil)
          obtain ⟨b2, o2, hA2, _, k2⟩ := (HC.out.on hbw).at_ (k := e) (by rw [toBs_len]; omega)
          subst hA1 hA2
          have e1 : (toBs la)[i]'(by rw [toBs_len]; exact hil) = toB la[i] := by simp [toBs]
          have e2 : (toBs lc)[e]'(by rw [toBs_len]; omega) = toB (lc[e]'(by omega)) := by simp [toBs]
          rw [e1] at k1
          rw [e2] at k2
          have hr := hrow.out.on hbi
          have hee : e < lc.length := by omega
          have hl1 := rowOf_len (la.drop (i + 1)) lc
          have hl2 := fillOf_len (la.drop i) lc (e + 1)
          have f1 := hr.c (i := e + 1) (by omega)
          have f2 := hr.c (i := e) (by omega)
          have f3 := hfill.out.c (i := e + 1) (by omega)
          have f4 := hfill.out.f e
          obtain ⟨p5, f5⟩ : ∃ p5 : Nat, wr.cell? ⟨wo.heap.size, e, none⟩ = some (.int .i64 (p5 : Int)) := ⟨_, hfill.out.c (i := e) (by omega)⟩
          rw [rowOf_get] at f1 f2
          rw [fillOf_get _ _ _ _ _ (Nat.le_refl _)] at f3
          have m1 := (lcs_le (la.drop (i + 1)) (lc.drop (e + 1))).2
          have m2 := (lcs_le (la.drop (i + 1)) (lc.drop e)).2
          have m3 := (lcs_le (la.drop i) (lc.drop (e + 1))).2
          rw [List.length_drop] at m1 m2 m3
          have hlcs := lcs_drop la lc i e hil (by omega)
          have hstep := fillOf_step (la.drop i) lc e (by omega)
          clear hl1 hl2 e1 e2 hr
          by_cases heq : la[i] = lc[e]'(by omega)
          · rw [if_pos heq] at hlcs
            rw [hlcs] at hstep
            have HST := Lib.hid hstep
            rw [heq] at k1
            clear hstep hlcs heq
            generalize lcs (la.drop (i + 1)) (lc.drop (e + 1)) = p1 at *
            generalize lcs (la.drop (i + 1)) (lc.drop e) = p2 at *
            generalize lcs (la.drop i) (lc.drop (e + 1)) = p3 at *
            generalize toB (lc[e]'(by omega)) = str at *
            go_wp2
            go_quiet (fail)
            go_wp2
            go_roundw
            case rel =>
              refine ⟨e, by omega, by rfl, ?_, ?_⟩
              · have := hfill.out.set e (p1 + 1)
                rw [← HST.out] at this
                exact this
              · exact below_drewN hbi _ |>.setCell (by simp) _
            case measure => simp [intOf]
          · rw [if_neg heq] at hlcs
            rw [hlcs] at hstep
            have HST := Lib.hid hstep
            have hne : ((toB la[i]).toList == (toB (lc[e]'(by omega))).toList) = false := by
              rw [beq_eq_false_iff_ne, toList_eq, toList_eq, of_toB, of_toB]
              exact heq
            clear hstep hlcs heq
            generalize lcs (la.drop (i + 1)) (lc.drop (e + 1)) = p1 at *
            generalize lcs (la.drop (i + 1)) (lc.drop e) = p2 at *
            generalize lcs (la.drop i) (lc.drop (e + 1)) = p3 at *
            generalize toB (lc[e]'(by omega)) = str at *
            generalize toB la[i] = str2 at *
            have HHI := Lib.hid (high_any p2 p3)
            go_wp2
            go_quiet (fail)
            go_wp2_with fail
            have i1 : IntKind.i64.wrap ((e : Int) + 1) = (e : Int) + 1 := IntWalk.i64_in _ (by omega)
            have i2 : 0 ≤ (e : Int) + 1 := by omega
            have i3 : ((e : Int) + 1).toNat = e + 1 := by omega
            go_region_with (go_at_call 68; refine (HHI.out _).mono ?_; rintro e w1 ⟨rfl, rfl⟩)
            all_goals
              clear i1 i2 i3 HHI
              go_wp2
              go_roundw
              case rel =>
                refine ⟨e, by omega, by rfl, ?_, ?_⟩
                · have := hfill.out.set e (max p2 p3)
                  rw [← HST.out] at this
                  exact this
                · exact below_drewN hbi _ |>.setCell (by simp) _
              case measure => simp [intOf]
        · obtain rfl : d = 0 := by omega
          rw [fillOf_zero] at hfill
          have hbw := hb.trans (hbi.mono hb.size)
          have hbA : Below wr.heap.size wr (wr.alloc (.cells #[rowVal (lc.length + 1) g] 81)) := (Below.refl _ wr).alloc (Nat.le_refl _) _
          have hcell : Hid ((wr.alloc (.cells #[rowVal (lc.length + 1) g] 81)).cell? ⟨wr.heap.size, 0, none⟩ = some (rowVal (lc.length + 1) g)) := by
            show _ = _
            rw [World.cell?_alloc_new]; rfl
          have hB := hbw.size
          have hi := HI.out
          have hib : i ≤ 10000 := by omega
          have htab : Hid (tabOf la lc (c + 1) = tabOf la lc c ++ [rowOf (la.drop (i + 1)) lc]) := by
            show _ = _
            rw [tabOf_succ, show la.length - c = i + 1 by omega]
          have hnext : Hid (la.drop (la.length - (c + 1)) = la.drop i) := by show _ = _; rw [show la.length - (c + 1) = i by omega]
          have hcc : Hid ((la.length : Int) - 1 - ((c + 1 : Nat) : Int) = (i : Int) - 1) := by show _ = _; omega
          have hl := Lib.hid (rowOf_len (la.drop (i + 1)) lc)
          have hle := Lib.hid (show (tabOf la lc c).length ≤ 100000 by rw [tabOf_len]; omega)
          have HR2 := Lib.hid ((hrows.out.on hbi).on hbA)
          have HW2 := Lib.hid ((hrow.out.on hbi).on hbA)
          have HF2 := Lib.hid (hfill.out.on hbA)
          have hnG := Lib.hid (HR2.out.ne HF2.out)
          have hbw2 := hbw.alloc hB (.cells #[rowVal (lc.length + 1) g] 81)
          clear hbA hi hrows hrow hfill hbi
          go_wp2_with (at_builtin; refine wpList_append_ints rfl _ _ rfl w.heap.size _ (lc.length + 1) (tabOf la lc c) rfl HR2.out g (rowOf (la.drop (i + 1)) lc) HW2.out hl.out wr.heap.size rfl hcell.out (by simp; omega) hle.out ?_)
          intro v4 w4 ho4 hg4
          have hb4 : Below w.heap.size w w4 := hbw2.grown hg4 (by simp; omega) fun k hk => by
            obtain ⟨gs, _, h2, _⟩ := HR2.out
            exact (World.ownsRow.lt h2 k hk).1
          have HF4 := Lib.hid (HF2.out.grown hg4 hnG.out)
          rw [← htab.out] at ho4
          have HO4 := Lib.hid ho4
          clear ho4 hg4 HR2 HW2 HF2 hcell htab
          go_wp2
          go_roundw
          case rel => exact ⟨c + 1, wo.heap.size, by omega, by rw [hcc.out], rfl, by rw [hnext.out]; exact HF4, HO4.out, hb4⟩
          case measure => simp [intOf]
    · obtain rfl : c = la.length := by omega
      rw [Nat.sub_self, List.drop_zero] at hrow
      have hbA : Below wr.heap.size wr (wr.alloc (.cells #[rowVal (lc.length + 1) g] 81)) := (Below.refl _ wr).alloc (Nat.le_refl _) _
      have hcell : Hid ((wr.alloc (.cells #[rowVal (lc.length + 1) g] 81)).cell? ⟨wr.heap.size, 0, none⟩ = some (rowVal (lc.length + 1) g)) := by
        show _ = _
        rw [World.cell?_alloc_new]; rfl
      have hB := hb.size
      have hfin : Hid (tabOf la lc (la.length + 1) = tabOf la lc la.length ++ [rowOf la lc]) := by
        show _ = _
        rw [tabOf_succ, Nat.sub_self, List.drop_zero]
      have hl := Lib.hid (rowOf_len la lc)
      have hle := Lib.hid (show (tabOf la lc la.length).length ≤ 100000 by rw [tabOf_len]; omega)
      have HBA := Lib.hid hbA
      clear hbA
      go_wp2_with (at_builtin; refine wpList_append_ints rfl _ _ rfl w.heap.size _ (lc.length + 1) (tabOf la lc la.length) rfl (hrows.out.on HBA.out) g (rowOf la lc) (hrow.out.on HBA.out) hl.out wr.heap.size rfl hcell.out (by simp; omega) hle.out ?_)
      intro v4 w4 ho4 hg4
      have hb4 : Below w.heap.size w w4 := (hb.alloc hB _).grown hg4 (by simp; omega) fun k hk => by
        obtain ⟨gs, _, h2, _⟩ := hrows.out
        exact (World.ownsRow.lt h2 k hk).1
      rw [← hfin.out] at ho4
      have HO4 := Lib.hid ho4
      clear ho4 hg4
      go_wp2
      go_ret
      exact ⟨_, rfl, HO4.out, hb4⟩
theorem tabOf_get (la lc : List (List UInt8)) (c j : Nat) (h : j < (tabOf la lc c).length) : (tabOf la lc c)[j] = rowOf (la.drop (la.length - j)) lc := by simp [tabOf]
theorem OwnRows.get {w : World} {B n : Nat} {v : Value} {rows : List (List Nat)} (h : OwnRows w B v n rows) (hp : 0 < rows.length) : ∃ gt cap, v = .slice (some ⟨gt, 0, none⟩) rows.length cap ∧ ∀ j (hj : j < rows.length), ∃ g, w.cell? ⟨gt, j, none⟩ = some (.slice (some ⟨g, 0, none⟩) n n) ∧ IntsAt w g rows[j] := by
  obtain ⟨gs, h1, h2, h3⟩ := h
  have h2' := h2
  rcases h2.2 with ⟨_, h0⟩ | ⟨gt, cap, cur, rfl, _⟩
  · omega
  · refine ⟨gt, cap, rfl, fun j hj => ⟨gs[j], ?_, (h3 j (by omega) hj).1⟩⟩
    have := h2'.cells (g := gt) rfl j (rowVal n gs[j]) (by simp [List.getElem?_eq_getElem (show j < gs.length by omega)])
    have e : (⟨gt, 0, none⟩ : Addr).add j = ⟨gt, j, none⟩ := by unfold Addr.add; split <;> simp_all
    rw [e] at this
    exact this
end Go.Proofs.YtaepfahpbnpeiaaGreatDoor
