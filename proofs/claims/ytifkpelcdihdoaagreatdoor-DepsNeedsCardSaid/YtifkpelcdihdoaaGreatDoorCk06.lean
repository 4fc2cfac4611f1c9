/- Package ident's Row. The reference's Made of layer 13. Package ident's Root, Begin, End; Has: the library's Index, Contains of ids. The reference's made, or, none of ids. Package op: which ids are made, which places are right. Package lines' Same: the library's Equal of texts. -/
import Derived.Deep.CutRange
import Derived.Deep.RegionHeld3
import Derived.Deep.MidRow
import Derived.BigQuiet
import Derived.Deep.QuietTactic
import Derived.Lib.QuietBelow
import Derived.Test.YtifkpelcdihdoaaGreatDoorShelf
import Derived.Test.YtifkpelcdihdoaaGreatDoorCk05
namespace Go.Proofs.YtifkpelcdihdoaaGreatDoor
open Go.RowKit
set_option linter.unusedVariables false

/-- A row of ids as far as it is made: the first k. -/
def partI (p : ByteArray) (first : Int) (n k : Nat) : List Im := (List.range n).map fun (i : Nat) => if i < k then ⟨p, IntKind.i64.wrap (first + (i : Int))⟩ else ⟨⟨#[]⟩, 0⟩
theorem partI_len (p : ByteArray) (first : Int) (n k : Nat) : (partI p first n k).length = n := by simp [partI]
theorem partI_zero (p : ByteArray) (first : Int) (n : Nat) : partI p first n 0 = List.replicate n ⟨⟨#[]⟩, 0⟩ := by
  refine List.ext_getElem (by simp [partI]) fun i h1 h2 => ?_
  simp [partI]
theorem partI_step (p : ByteArray) (first : Int) (n k : Nat) (hk : k < n) : (partI p first n k).set k ⟨p, IntKind.i64.wrap (first + (k : Int))⟩ = partI p first n (k + 1) := by
  refine List.ext_getElem (by simp [partI]) fun i h1 h2 => ?_
  rw [List.getElem_set]
  simp only [partI, List.getElem_map, List.getElem_range]
  by_cases e : k = i
  · subst e
    rw [if_pos rfl, if_pos (by omega)]
  · rw [if_neg e]
    by_cases h : i < k
    · rw [if_pos h, if_pos (by omega)]
    · rw [if_neg h, if_neg (by omega)]
theorem partI_end (p : ByteArray) (first : Int) (n : Nat) (h0 : 0 ≤ first) (h1 : first ≤ 1099511627776) (hn : 1 ≤ n) (hn2 : n ≤ 2000) : ikeys (partI p first n n) = rowI p.data.toList first (n : Int) := by
  unfold rowI ikeys
  rw [if_pos ⟨h0, by omega, by omega⟩, Int.toNat_natCast]
  refine List.ext_getElem (by simp [partI]) fun i h2 h3 => ?_
  have hi : i < n := by simpa [partI] using h2
  simp only [partI, List.getElem_map, List.getElem_range, if_pos hi, Im.key]
  rw [IntWalk.i64_in _ (by omega)]
set_option maxHeartbeats 2000000 in
set_option maxRecDepth 100000 in
theorem idrow_none (p : ByteArray) (first n : Int) (w : World) (h : ¬ (0 ≤ first ∧ 1 ≤ n ∧ n ≤ 2000)) :
    Calls Tryz.prog 125 #[.string p, .int .i64 first, .int .i64 n] w (IdsLeft w (rowI p.data.toList first n)) := by
  have hr : rowI p.data.toList first n = [] := by unfold rowI; rw [if_neg h]
  rw [hr]
  have HF : Hid (∀ k, IdsLeft w [] (.returned (.slice none 0 0)) (w.drewN k)) := fun k => ⟨none, 0, 0, [], rfl, rfl, Rk.Own.nil _ _, below_drewN (Below.refl _ _) k⟩
  have HF0 : Hid (IdsLeft w [] (.returned (.slice none 0 0)) w) := ⟨none, 0, 0, [], rfl, rfl, Rk.Own.nil _ _, Below.refl _ _⟩
  clear hr
  by_cases h1 : first < 0
  · go_enter Tryz.func125, Tryz.ntmps125
    clear h
    go_wp2
    go_ret
    exact HF0.out
  by_cases h2 : n < 1
  · go_enter Tryz.func125, Tryz.ntmps125
    clear h
    go_wp2
    go_ret
    exact HF0.out
  have h3 : n > 2000 := by omega
  clear h
  go_enter Tryz.func125, Tryz.ntmps125
  go_wp2
  go_ret
  exact HF0.out
set_option maxHeartbeats 2000000 in
set_option maxRecDepth 100000 in
theorem idrow_any (p : ByteArray) (first n : Int) (w : World) (hf : first ≤ 1099511627776) :
    Calls Tryz.prog 125 #[.string p, .int .i64 first, .int .i64 n] w (IdsLeft w (rowI p.data.toList first n)) := by
  by_cases h : ¬ (0 ≤ first ∧ 1 ≤ n ∧ n ≤ 2000)
  · exact idrow_none p first n w h
  obtain ⟨h0, h1, h2⟩ := Decidable.not_not.1 h
  obtain ⟨m, rfl⟩ : ∃ m : Nat, n = (m : Int) := ⟨n.toNat, by omega⟩
  have hm : m ≤ 2000 := by omega
  have hm1 : 1 ≤ m := by omega
  have HE := Lib.hid (partI_end p first m h0 hf hm1 hm)
  have HST := Lib.hid (fun k hk => partI_step p first m k hk)
  have q1 : ¬ first < 0 := by omega
  have q2 : ¬ (m : Int) < 1 := by omega
  have q3 : ¬ (m : Int) > 2000 := by omega
  have q4 : ¬ (2000 : Int) < (m : Int) := by omega
  obtain ⟨cs, hmk, hblk⟩ := idR.make_ ⟨⟨#[]⟩, 0⟩ rfl w m (by omega)
  have hmk2 : (Instr.makeSlice 82 (.int .i64 (m : Int)) (.int .i64 (m : Int))).run Tryz.prog w = .ok (.slice (some ⟨w.heap.size, 0, none⟩) m m) (w.alloc (.cells cs 81)) := hmk
  rw [← partI_zero p first m] at hblk
  have HB : Hid (idR.Blk (w.alloc (.cells cs 81)) w.heap.size m (partI p first m 0)) := hblk
  have HG : Hid (Below w.heap.size w (w.alloc (.cells cs 81))) := (Below.refl _ _).alloc (Nat.le_refl _) _
  clear h hblk hmk h1 h2
  go_enter Tryz.func125, Tryz.ntmps125
  go_wp2
  generalize (w.alloc (.cells cs 81)) = wa at *
  go_loopw [23] (fun i wr => ∃ k : Nat, k ≤ m ∧ i = .int .i64 (k : Int) ∧ Hid (idR.Blk wr w.heap.size m (partI p first m k)) ∧ Hid (Below w.heap.size w wr)) (fun i _ => m - (intOf i).toNat)
  case atStart => exact ⟨0, Nat.zero_le _, rfl, HB.out, HG.out⟩
  case round =>
    clear HB HG
    obtain ⟨k, hk, rfl, hB, hG⟩ := hrel
    by_cases hlt : k < m
    · have hkl : k < (partI p first m k).length := by rw [partI_len]; exact hlt
      have e0 : (partI p first m k)[k] = ⟨⟨#[]⟩, 0⟩ := by simp [partI]
      have c0 : wr.cell? ⟨w.heap.size, k * 2, none⟩ = some (.string ⟨#[]⟩) := hB.out.cell hkl (r := 0) (by rw [e0]; rfl)
      have c1 : wr.cell? ⟨w.heap.size, k * 2 + 1, none⟩ = some (.int .i64 0) := hB.out.cell hkl (r := 1) (by rw [e0]; rfl)
      have f0 := hB.out.fz (k * 2)
      have f1 := hB.out.fz (k * 2 + 1)
      have hput : idR.Blk ((wr.setCell ⟨w.heap.size, k * 2, none⟩ (.string p)).setCell ⟨w.heap.size, k * 2 + 1, none⟩ (.int .i64 (IntKind.i64.wrap (first + (k : Int))))) w.heap.size m (partI p first m (k + 1)) := by
        rw [← HST.out k hlt]
        exact hB.out.put hkl ⟨p, IntKind.i64.wrap (first + (k : Int))⟩
      have HP := Lib.hid hput
      have HB2 : Hid (Below w.heap.size w ((wr.setCell ⟨w.heap.size, k * 2, none⟩ (.string p)).setCell ⟨w.heap.size, k * 2 + 1, none⟩ (.int .i64 (IntKind.i64.wrap (first + (k : Int)))))) :=
        hG.out.grown (Rk.setCells_grown wr w.heap.size (k * 2) [.string p, .int .i64 (IntKind.i64.wrap (first + (k : Int)))]) hG.out.size fun j hj => by simp only [Option.some.injEq] at hj; omega
      have u0 : (0 : Int) ≤ (k : Int) := by omega
      have u1 : (k : Int) < (m : Int) := by omega
      clear hput e0 hkl hB hG
      generalize hv : IntKind.i64.wrap (first + (k : Int)) = v at *
      go_wp2
      go_roundw
      case rel => exact ⟨k + 1, by omega, by go_num, HP.out, HB2.out⟩
      case measure => simp [intOf]; omega
    · obtain rfl : k = m := by omega
      have HF : Hid (IdsLeft w (rowI p.data.toList first (k : Int)) (.returned (.slice (some ⟨w.heap.size, 0, none⟩) k k)) wr) := by
        have h := hB.out.own (Nat.le_refl _)
        rw [partI_len] at h
        exact ⟨_, _, _, _, rfl, HE.out, h, hG.out⟩
      clear hB hG HE
      go_wp2
      go_ret
      exact HF.out
end Go.Proofs.YtifkpelcdihdoaaGreatDoor
namespace Go.Proofs.YtifkpelcdihdoaaGreatDoor
open Go.RowKit
set_option linter.unusedVariables false

theorem made_take (p : List UInt8) (l : List Om) (k : Nat) (hk : k < l.length) : madeP p (okeys (l.take (k + 1))) = madeP p (okeys (l.take k)) ++ comesO p l[k].key := by
  unfold madeP okeys
  rw [List.take_succ_eq_append_getElem hk, List.map_append, List.flatMap_append]
  simp
theorem op_rng {w : World} {b o k : Nat} {x : Om} (h : ∀ (r : Nat) (u : Value), (opR.enc x)[r]? = some u → w.cell? ⟨b, o + k * opR.k + r, none⟩ = some u) :
    w.rangeAt b (o + k * 16) [.int .i64 x.kind, .string x.self.p, .int .i64 x.self.n, .string x.parent.p, .int .i64 x.parent.n, .string x.dst.p, .int .i64 x.dst.n, .string x.name, .string x.dname, .string x.left.p, .int .i64 x.left.n, .string x.right.p, .int .i64 x.right.n, .slice x.a1 x.dels.length x.c1, .int .i64 x.first, .slice x.a2 x.lines.length x.c2] := fun j v hv => h j v hv
end Go.Proofs.YtifkpelcdihdoaaGreatDoor
namespace Go.Proofs.YtifkpelcdihdoaaGreatDoor
open Go.RowKit
set_option linter.unusedVariables false

theorem root_any (w : World) : Calls Tryz.prog 161 #[] w fun e w' => e = .returned (Im.val ⟨⟨#[]⟩, 0⟩) ∧ Below w.heap.size w w' := by
  obtain ⟨hb, hx⟩ := id_box w ⟨⟨#[]⟩, 0⟩
  have HX := Lib.hid hx
  have HB := Lib.hid hb
  clear hb hx
  go_enter Tryz.func161, Tryz.ntmps161
  go_wp2
  (try simp only [Exit.inBlock, Exit.then])
  refine bodyPost_ret (ret_id rfl _ _ _ ⟨⟨#[]⟩, 0⟩ rfl HX.out) rfl ?_
  exact ⟨rfl, HB.out⟩
theorem begin_any (w : World) : Calls Tryz.prog 162 #[] w fun e w' => e = .returned (Im.val ⟨⟨#[]⟩, 1⟩) ∧ Below w.heap.size w w' := by
  obtain ⟨hb, hx⟩ := id_box w ⟨⟨#[]⟩, 1⟩
  have HX := Lib.hid hx
  have HB := Lib.hid hb
  clear hb hx
  go_enter Tryz.func162, Tryz.ntmps162
  go_wp2
  (try simp only [Exit.inBlock, Exit.then])
  refine bodyPost_ret (ret_id rfl _ _ _ ⟨⟨#[]⟩, 1⟩ rfl HX.out) rfl ?_
  exact ⟨rfl, HB.out⟩
theorem end_any (w : World) : Calls Tryz.prog 163 #[] w fun e w' => e = .returned (Im.val ⟨⟨#[]⟩, 2⟩) ∧ Below w.heap.size w w' := by
  obtain ⟨hb, hx⟩ := id_box w ⟨⟨#[]⟩, 2⟩
  have HX := Lib.hid hx
  have HB := Lib.hid hb
  clear hb hx
  go_enter Tryz.func163, Tryz.ntmps163
  go_wp2
  (try simp only [Exit.inBlock, Exit.then])
  refine bodyPost_ret (ret_id rfl _ _ _ ⟨⟨#[]⟩, 2⟩ rfl HX.out) rfl ?_
  exact ⟨rfl, HB.out⟩
end Go.Proofs.YtifkpelcdihdoaaGreatDoor
namespace Go.Proofs.YtifkpelcdihdoaaGreatDoor
open Go.RowKit
set_option linter.unusedVariables false

theorem none_iff (x : Im) : decide (x = ⟨⟨#[]⟩, 0⟩) = noneI x.key := by
  unfold noneI
  exact decide_eq_decide.2 ⟨fun h => by rw [h]; rfl, fun h => Im.key_inj h⟩
end Go.Proofs.YtifkpelcdihdoaaGreatDoor
namespace Go.Proofs.YtifkpelcdihdoaaGreatDoor
open Go.RowKit
open Go.Sort
set_option linter.unusedVariables false

/-- A callee's contract that ends in 'Below', met in the class of worlds of a region that is walked once. -/
theorem q_of {P : Program} {f : FuncId} {args : Array Value} {w : World} {v : Value} (h : ∀ W, Below w.heap.size w W → Calls P f args W fun e w' => e = .returned v ∧ Below W.heap.size W w') (d : Nat) (os : Array Obj) :
    Calls P f args (grow (redrawn w d) os) fun e w'' => e = .returned v ∧ ∃ p : Regrown, w'' = grow (redrawn w p.d) p.os := Calls.regrown_of (h _ (below_regrown w d os))
theorem nobody_iff (x : Im) : decide (x.p = ⟨#[]⟩) = decide (x.key.1 = []) := decide_eq_decide.2 ⟨fun e => by show x.p.data.toList = []; rw [e], fun e => bytes_inj (t := ⟨#[]⟩) (show x.p.data.toList = [] from e)⟩
set_option maxHeartbeats 1000000 in
set_option maxRecDepth 100000 in
theorem opnobody_any (x : Im) (w : World) (r : Bool) (hr : decide (x.key.1 = []) = r) :
    Calls Tryz.prog 129 #[.agg #[.string x.p, .int .i64 x.n]] w fun e w' => e = .returned (.bool r) ∧ Below w.heap.size w w' := by
  obtain ⟨hb, hx⟩ := id_box w x
  have HB := Lib.hid hb
  have x0 := id_c0 hx
  have x1 := id_c1 hx
  rw [← nobody_iff] at hr
  clear hb hx
  by_cases hp : x.p = ⟨#[]⟩
  · rw [decide_eq_true hp] at hr
    obtain rfl : r = true := hr.symm
    have n1 : (x.p.toList == []) = true := by rw [hp, toList_eq]; rfl
    clear hr hp
    go_enter Tryz.func129, Tryz.ntmps129
    go_wp2
    go_ret
    exact ⟨rfl, HB.out⟩
  · rw [decide_eq_false hp] at hr
    obtain rfl : r = false := hr.symm
    have n1 := str_ne_empty hp
    clear hr hp
    go_enter Tryz.func129, Tryz.ntmps129
    go_wp2
    go_ret
    exact ⟨rfl, HB.out⟩
theorem opright_any (x : Im) (w : World) (ox : x.p.size ≤ 9223372036854775807) (r : Bool) (hr : okK x.key = r) :
    Calls Tryz.prog 120 #[.agg #[.string x.p, .int .i64 x.n]] w fun e w' => e = .returned (.bool r) ∧ Below w.heap.size w w' := by
  subst hr
  exact idright_any x w ox
set_option maxHeartbeats 1000000 in
set_option maxRecDepth 100000 in
theorem opmade_any (x : Im) (w : World) (ox : x.p.size ≤ 9223372036854775807) (r : Bool) (hr : madeI x.key = r) :
    Calls Tryz.prog 147 #[.agg #[.string x.p, .int .i64 x.n]] w fun e w' => e = .returned (.bool r) ∧ Below w.heap.size w w' := by
  obtain ⟨hb, hx⟩ := id_box w x
  have HB := Lib.hid hb
  have HX := Lib.hid hx
  have hm : madeI x.key = (okK x.key && !decide (x.key.1 = [])) := by unfold madeI; rw [← decide_not]
  rw [hm] at hr
  obtain ⟨b1, hb1⟩ : ∃ b, okK x.key = b := ⟨_, rfl⟩
  obtain ⟨b2, hb2⟩ : ∃ b, decide (x.key.1 = []) = b := ⟨_, rfl⟩
  have CR := Lib.hid (opright_any x (w.alloc (.cells #[.string x.p, .int .i64 x.n] 81)) ox b1 hb1)
  have CN := Lib.hid (fun W => opnobody_any x W b2 hb2)
  rw [hb1, hb2] at hr
  subst hr
  clear hb hx hm hb1 hb2
  have x0 := id_c0 HX.out
  have x1 := id_c1 HX.out
  go_enter Tryz.func147, Tryz.ntmps147
  go_wp2_with fail
  refine CR.out.mono ?_
  rintro e w1 ⟨rfl, hb1⟩
  have HF := Lib.hid (HB.out.trans (hb1.mono HB.out.size))
  have x0 := id_c0 (HX.out.on hb1)
  have x1 := id_c1 (HX.out.on hb1)
  clear hb1 CR
  cases b1
  · go_wp2
    go_ret
    exact ⟨rfl, HF.out⟩
  · go_wp2_with fail
    refine (CN.out _).mono ?_
    rintro e w2 ⟨rfl, hb2⟩
    have HF2 := Lib.hid (HF.out.trans (hb2.mono HF.out.size))
    clear hb2 CN x0 x1
    cases b2
    · go_wp2
      go_ret
      exact ⟨rfl, HF2.out⟩
    · go_wp2
      go_ret
      exact ⟨rfl, HF2.out⟩
theorem opname_any (p : ByteArray) (w : World) (hp : p.size ≤ 9223372036854775807) (r : Bool) (hr : nameK p.data.toList = r) :
    Calls Tryz.prog 82 #[.string p] w fun e w' => e = .returned (.bool r) ∧ Below w.heap.size w w' := by
  have h : rightB p = r := by rw [← hr]; unfold nameK; rw [toB_of]
  subst h
  exact right_any p w hp
theorem oproot_any (w : World) : Calls Tryz.prog 161 #[] w fun e w' => e = .returned (.agg #[.string ⟨#[]⟩, .int .i64 0]) ∧ Below w.heap.size w w' := root_any w
theorem opbegin_any (w : World) : Calls Tryz.prog 162 #[] w fun e w' => e = .returned (.agg #[.string ⟨#[]⟩, .int .i64 1]) ∧ Below w.heap.size w w' := begin_any w
theorem opend_any (w : World) : Calls Tryz.prog 163 #[] w fun e w' => e = .returned (.agg #[.string ⟨#[]⟩, .int .i64 2]) ∧ Below w.heap.size w w' := end_any w
theorem placed_key (d : Ik) (n : List UInt8) : placedO d n = ((noneI d || madeI d) && nameK n) := rfl
set_option maxHeartbeats 4000000 in
set_option maxRecDepth 100000 in
theorem opplaced_any (x : Im) (s : ByteArray) (w : World) (ox : x.p.size ≤ 9223372036854775807) (os : s.size ≤ 9223372036854775807) (r : Bool) (hr : placedO x.key s.data.toList = r) :
    Calls Tryz.prog 148 #[.agg #[.string x.p, .int .i64 x.n], .string s] w fun e w' => e = .returned (.bool r) ∧ Below w.heap.size w w' := by
  obtain ⟨hb, hx⟩ := id_box w x
  have HF := Lib.hid hb
  have HX := Lib.hid hx
  obtain ⟨q, hq⟩ : ∃ q, nameK s.data.toList = q := ⟨_, rfl⟩
  clear hb hx
  go_enter Tryz.func148, Tryz.ntmps148
  go_upto_region 1 with (fail)
  generalize (w.alloc (.cells #[.string x.p, .int .i64 x.n] 81)) = wb at *
  cases h1 : noneI x.key
  · cases h2 : madeI x.key
    · have EQ : ∀ W, (binOp .eql 81 (.agg #[.string x.p, .int .i64 x.n]) (.agg #[.string ⟨#[]⟩, .int .i64 0])).run Tryz.prog W = .ok (.bool false) W := fun W => by rw [show (⟨#[]⟩ : ByteArray) = (⟨⟨#[]⟩, 0⟩ : Im).p from rfl]; exact (eql_id x ⟨⟨#[]⟩, 0⟩ W).trans (by rw [none_iff, h1])
      have y0 := fun d os => cell_regrown (id_c0 HX.out) d os
      have y1 := fun d os => cell_regrown (id_c1 HX.out) d os
      have n1_0 := q_of (fun W (hW : Below wb.heap.size wb W) => oproot_any W)
      have n1_1 := q_of (fun W (hW : Below wb.heap.size wb W) => opmade_any x W ox false h2)
      refine wp_region_quiet_below (by kernel_rfl) (by kernel_rfl) ?_
      repeat (go_big_quiet_step (first | with_reducible exact n1_0 _ _ | with_reducible exact n1_1 _ _))
      refine wpQuiet_nil ?_
      intro _ hw'
      obtain ⟨⟨dq, osq⟩, hw''⟩ := hw'
      subst hw''
      have HBR := Lib.hid (below_regrown wb dq osq)
      generalize grow (redrawn wb dq) osq = w1 at *
      have HF2 := Lib.hid (HF.out.trans (HBR.out.mono HF.out.size))
      clear HBR HX y0 y1
      go_wp2
      go_ret
      exact ⟨by rw [← hr, placed_key, h1, h2]; rfl, HF2.out⟩
    · have EQ : ∀ W, (binOp .eql 81 (.agg #[.string x.p, .int .i64 x.n]) (.agg #[.string ⟨#[]⟩, .int .i64 0])).run Tryz.prog W = .ok (.bool false) W := fun W => by rw [show (⟨#[]⟩ : ByteArray) = (⟨⟨#[]⟩, 0⟩ : Im).p from rfl]; exact (eql_id x ⟨⟨#[]⟩, 0⟩ W).trans (by rw [none_iff, h1])
      have y0 := fun d os => cell_regrown (id_c0 HX.out) d os
      have y1 := fun d os => cell_regrown (id_c1 HX.out) d os
      have n2_0 := q_of (fun W (hW : Below wb.heap.size wb W) => oproot_any W)
      have n2_1 := q_of (fun W (hW : Below wb.heap.size wb W) => opmade_any x W ox true h2)
      have n2_2 := q_of (fun W (hW : Below wb.heap.size wb W) => opname_any s W os q hq)
      refine wp_region_quiet_below (by kernel_rfl) (by kernel_rfl) ?_
      repeat (go_big_quiet_step (first | with_reducible exact n2_0 _ _ | with_reducible exact n2_1 _ _ | with_reducible exact n2_2 _ _))
      refine wpQuiet_nil ?_
      intro _ hw'
      obtain ⟨⟨dq, osq⟩, hw''⟩ := hw'
      subst hw''
      have HBR := Lib.hid (below_regrown wb dq osq)
      generalize grow (redrawn wb dq) osq = w1 at *
      have HF2 := Lib.hid (HF.out.trans (HBR.out.mono HF.out.size))
      clear HBR HX y0 y1
      go_wp2
      go_ret
      exact ⟨by rw [← hr, placed_key, h1, h2, hq]; rfl, HF2.out⟩
  · have EQ : ∀ W, (binOp .eql 81 (.agg #[.string x.p, .int .i64 x.n]) (.agg #[.string ⟨#[]⟩, .int .i64 0])).run Tryz.prog W = .ok (.bool true) W := fun W => by rw [show (⟨#[]⟩ : ByteArray) = (⟨⟨#[]⟩, 0⟩ : Im).p from rfl]; exact (eql_id x ⟨⟨#[]⟩, 0⟩ W).trans (by rw [none_iff, h1])
    have y0 := fun d os => cell_regrown (id_c0 HX.out) d os
    have y1 := fun d os => cell_regrown (id_c1 HX.out) d os
    have n3_0 := q_of (fun W (hW : Below wb.heap.size wb W) => oproot_any W)
    have n3_1 := q_of (fun W (hW : Below wb.heap.size wb W) => opname_any s W os q hq)
    refine wp_region_quiet_below (by kernel_rfl) (by kernel_rfl) ?_
    repeat (go_big_quiet_step (first | with_reducible exact n3_0 _ _ | with_reducible exact n3_1 _ _))
    refine wpQuiet_nil ?_
    intro _ hw'
    obtain ⟨⟨dq, osq⟩, hw''⟩ := hw'
    subst hw''
    have HBR := Lib.hid (below_regrown wb dq osq)
    generalize grow (redrawn wb dq) osq = w1 at *
    have HF2 := Lib.hid (HF.out.trans (HBR.out.mono HF.out.size))
    clear HBR HX y0 y1
    go_wp2
    go_ret
    exact ⟨by rw [← hr, placed_key, h1, hq]; rfl, HF2.out⟩
end Go.Proofs.YtifkpelcdihdoaaGreatDoor
namespace Go.Proofs.YtifkpelcdihdoaaGreatDoor
open Go.RowKit
set_option linter.unusedVariables false

theorem sequal_q (A A2 : Option Addr) (ss tt : List ByteArray) (cap cap2 : Nat) (w : World) (hs : Strs w w.heap.size A ss) (ht : Strs w w.heap.size A2 tt)
    (hn : ss.length ≤ 140737488351232) (hn2 : tt.length ≤ 140737488351232) :
    Calls Tryz.prog 83 #[.slice A ss.length cap, .slice A2 tt.length cap2] w fun e w' => e = .returned (.bool (decide (ss = tt))) ∧ ∃ q, w' = w.drewN q := by
  by_cases hl : ss.length = tt.length
  · by_cases h0 : ss.length = 0
    · have e1 : ss = [] := List.length_eq_zero_iff.1 h0
      have e2 : tt = [] := List.length_eq_zero_iff.1 (by omega)
      subst e1 e2
      exact (Tryz.slices_Equal_string_empty A A2 cap 0 cap2 w (by decide)).mono fun e w' ⟨h1, h2⟩ => ⟨h1, 0, h2⟩
    · obtain ⟨b, off, rfl, _, h1⟩ := hs (by omega)
      obtain ⟨b2, off2, rfl, _, h2⟩ := ht (by omega)
      have h := Tryz.slices_Equal_string b off ss.length cap b2 off2 tt.length cap2 ss tt w (Nat.le_refl _) (Nat.le_refl _) (by omega) (by omega) (fun j hj => by rw [h1 j hj]; simp [List.getD, hj]) (fun j hj => by rw [h2 j hj]; simp [List.getD, hj])
      rwa [List.take_length, List.take_length] at h
  · have hd : decide (ss = tt) = false := by
      rw [decide_eq_false_iff_not]
      exact fun e => hl (by rw [e])
    rw [hd]
    exact (Tryz.slices_Equal_string_lens A A2 ss.length cap tt.length cap2 w hl).mono fun e w' ⟨h1, h2⟩ => ⟨h1, 0, h2⟩
theorem lsame_q (A A2 : Option Addr) (la lc : List (List UInt8)) (cap cap2 : Nat) (w : World) (d : Bool) (hd : decide (la = lc) = d) (hs : Strs w w.heap.size A (toBs la)) (ht : Strs w w.heap.size A2 (toBs lc)) (hn : la.length ≤ 1000000) (hn2 : lc.length ≤ 1000000) :
    Calls Tryz.prog 146 #[.slice A la.length cap, .slice A2 lc.length cap2] w fun e w' => e = .returned (.bool d) ∧ ∃ q, w' = w.drewN q := by
  have h := sequal_q A A2 (toBs la) (toBs lc) cap cap2 w hs ht (by rw [toBs_len]; omega) (by rw [toBs_len]; omega)
  rw [toBs_len, toBs_len, show decide (toBs la = toBs lc) = d from by
    rw [← hd]
    congr 1
    refine propext ⟨fun h => ?_, fun h => by rw [h]⟩
    have := congrArg lists h
    rwa [lists_toBs, lists_toBs] at this] at h
  have HH := Lib.hid h
  clear h hs ht hd
  go_enter Tryz.func146, Tryz.ntmps146
  go_wp2_with fail
  refine HH.out.mono ?_
  rintro e w' ⟨rfl, q, rfl⟩
  go_wp2
  go_ret
  exact ⟨rfl, q, rfl⟩
end Go.Proofs.YtifkpelcdihdoaaGreatDoor
