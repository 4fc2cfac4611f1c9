/- Package seq's needsIn, the function that it makes, Needs. -/
import Derived.BigQuiet
import Derived.Deep.QuietTactic
import Derived.Handy
import Derived.Laws.Cover1
import Derived.Sort.OwnSorted
import Derived.Deep.RegionHeld3
import Derived.Deep.DrawnRows
import Derived.Deep.RegionLaw
import Derived.Test.YtalabahjfmcnbaaGreatDoorShelf
import Derived.WalkKit
import Derived.Test.YtalabahjfmcnbaaGreatDoorCk19
namespace Go.Proofs.YtalabahjfmcnbaaGreatDoor
open Go.RowKit
set_option linter.unusedVariables false

theorem run_slice_prims_own (g n cap i : Nat) (hi : i < n) (hn : n ≤ cap) (w : World) : (Instr.slice 22 (.slice (some ⟨g, 0, none⟩) n cap) (some (.int .i64 (i : Int))) none none).run Tryz.prog w = .ok (.slice (some ⟨g, i * 6, none⟩) (n - i) (cap - i)) w := by
  have hb : ∀ w, (Instr.sliceBounds true n cap (some (.int .i64 (i : Int))) none none).run Tryz.prog w = .ok (i, n, cap) w := by
    intro w
    have h1 : (i : Int) ≤ (n : Int) := by omega
    simp [Instr.sliceBounds, Instr.sliceBound, asIntOf, go_sem] <;> intros <;> omega
  obtain ⟨d, hd, hs⟩ : ∃ d, Tryz.prog.info? 33 = some d ∧ d.size = 6 := by
    have := sized_prim
    cases h : Tryz.prog.info? 33 with
    | none => rw [h] at this; cases this
    | some d => rw [h] at this; exact ⟨d, rfl, by simpa using this⟩
  unfold Instr.slice
  rw [Sem.run_bind, run_underlying Tryz.underlying22, Result.andThen_ok]
  simp only []
  rw [Sem.run_bind, hb, Result.andThen_ok]
  have hc : ¬ cap = i := by omega
  simp [sizeOf, typeInfo, hd, hs, Sem.run_bind, add_row, hc]
theorem wpList_append_oi {w : World} {ops : Array Oper} {rest : List Oper} {o : Oper} {a : Act} {Q : Exit → Act → World → Prop} (hgd : o.guard = none) (s x : Operand)
    (ho : o.op = .call { callee := .builtin .append, args := #[s, x], argTypes := #[49, 49] })
    (B : Nat) (v : Value) (hs : List Nat) (hv : a.eval s = v) (hown : OwnI w B v hs) (k0 b : Nat) (hx : a.eval x = .slice (some ⟨b, 0, none⟩) 1 1) (hc : w.cell? ⟨b, 0, none⟩ = some (intV k0)) (hB : B ≤ w.heap.size) (hle : hs.length ≤ 90000)
    (m : Nat) (hm : m = hs.length + 1)
    (k : ∀ A' c' w', OwnI w' B (.slice A' m c') (hs ++ [k0]) → w.grownBy w' v.ownBlock → wpList Tryz.prog ops Q rest (a.put o.dst (.slice A' m c')) w') : wpList Tryz.prog ops Q (o :: rest) a w := by
  obtain ⟨i0, hi, hz0, hz1, hz2⟩ := info_parts info_int
  have k' : ∀ v' w', OwnI w' B v' (hs ++ [k0]) → w.grownBy w' v.ownBlock → wpList Tryz.prog ops Q rest (a.put o.dst v') w' := by
    intro v' w' ho' hg
    obtain ⟨A', c', rfl, hrow⟩ := ho'.row
    have e : (hs ++ [k0]).length = m := by rw [List.length_append, hm]; rfl
    rw [e] at hrow ho' ⊢
    exact k A' c' w' ho' hg
  refine wpList_append_own w hgd s x 49 ho B 3 i0 _ 1 8 Tryz.underlying49 hi hz0 hz1 hz2 rfl (by decide) v hs.length (hs.map intV) hv hown ⟨b, 0, none⟩ 1 1 [intV k0] hx rfl ?_ (fun u hu => by
    obtain rfl : u = intV k0 := by simpa using hu
    rfl) (by unfold maxLen; omega) (by omega) hB ?_
  · intro j u hu
    obtain ⟨hj, hju⟩ := List.getElem?_eq_some_iff.1 hu
    obtain rfl : j = 0 := by simpa using hj
    rw [← hju]
    exact hc
  · intro v' w' hown' hgrow _
    refine k' v' w' ?_ hgrow
    unfold OwnI
    rw [List.length_append, List.map_append]
    exact hown'
/-- What the loop over the steps ahead holds. -/
structure NdI (w wr : World) (g c5 i f k : Nat) (l : List Pk) (ps : List Pm) (R9 : List Nat) (A2 : Option Addr) (n2 c2 : Nat) (os : List Nat) : Prop where
  own : OwnP wr w.heap.size (.slice (some ⟨g, 0, none⟩) (i + 1) c5) ps
  len : ps.length = i + 1
  good : ∀ z ∈ ps, z.Good w.heap.size wr
  lt : ∀ z ∈ ps, LtK z.key
  nd : needsP (l.take k).reverse (pkeys (ps.drop f)) os.reverse = R9
  oi : OwnI wr w.heap.size (.slice A2 n2 c2) os
  ol : os.length + k ≤ i
  below : Below w.heap.size w wr
theorem NdI.part {w wr : World} {g c5 i f k : Nat} {l : List Pk} {ps : List Pm} {R9 : List Nat} {A2 : Option Addr} {n2 c2 : Nat} {os : List Nat} (h : NdI w wr g c5 i f k l ps R9 A2 n2 c2 os) (hf : f ≤ i) : RowW wr (some ⟨g, f * 6, none⟩) (i + 1 - f) (c5 - f) (ps.drop f) := by
  have hok : ∀ z ∈ ps, z.Ok wr wr.heap.size := fun z hz => (h.good z hz).ok h.below.size
  have hfl := h.own.flat
  obtain ⟨A', c', e, hps, hr⟩ := h.own.ps hok
  simp only [Value.slice.injEq] at e
  obtain ⟨rfl, _, rfl⟩ := e
  refine ⟨by rw [List.length_drop, h.len], ⟨fun h0 => ?_, fun z hz => hok z (List.mem_of_mem_drop hz)⟩, ⟨(fun e => by cases e), by omega⟩, fun z hz => hok z (List.mem_of_mem_drop hz)⟩
  obtain ⟨b, off, e, hb, hc⟩ := hps.at_ (by rw [h.len]; omega)
  cases e
  refine ⟨g, f * 6, rfl, hb, fun m hm => ?_⟩
  rw [List.length_drop] at hm
  rw [List.getElem_drop]
  have := hc (f + m) (by omega)
  rw [show 0 + (f + m) * 6 = f * 6 + m * 6 by omega] at this
  exact this
theorem needs_yes {p : Pk} {rs g x : List Pk} {q : Pk} {out : List Nat} (h : pastP p g = (0, x, q)) : needsP (p :: rs) g out = needsP rs x out := by
  conv => lhs; unfold needsP
  simp only [h, if_true]
theorem needs_no {p : Pk} {rs g x : List Pk} {q : Pk} {n : Int} {out : List Nat} (h : pastP p g = (n, x, q)) (hn : n ≠ 0) : needsP (p :: rs) g out = needsP rs (p :: g) (rs.length :: out) := by
  conv => lhs; unfold needsP
  simp only [h, if_neg hn]
theorem chg_prim {n₀ g : Nat} {W V : World} {B : Nat} {v : Value} {rs : List Pm} (ho : OwnP W B v rs) (he : v.ownBlock = some g) (hn : n₀ ≤ g) (hg : W.grownBy V (some g)) : Chg n₀ W V := Chg.of_grown hg fun k e => by
  cases e
  obtain ⟨cur, fz, h2⟩ := ho.type_of he
  refine ⟨hn, fun cur2 fz2 h3 => ?_⟩
  rw [h2] at h3
  simp only [Option.some.injEq, Obj.cells.injEq] at h3
  exact absurd h3.2.1 (by decide)
theorem chg_ints {n₀ : Nat} {W V : World} {B : Nat} {v : Value} {ns : List Nat} (ho : OwnI W B v ns) (hn : n₀ ≤ B) (hg : W.grownBy V v.ownBlock) : Chg n₀ W V := Chg.of_grown hg fun k e => by
  have h1 := (World.ownsRow.lt ho k e).1
  refine ⟨Nat.le_trans hn h1, fun cur2 fz2 h3 => ?_⟩
  rcases ho.2 with ⟨rfl, _⟩ | ⟨g2, cap, cur, rfl, _, h2, _⟩
  · cases e
  · obtain rfl : g2 = k := by simpa [Value.ownBlock] using e
    rw [h2] at h3
    simp only [Option.some.injEq, Obj.cells.injEq] at h3
    exact absurd h3.2.1 (by decide)
theorem reverse_ints (v : Value) (ns : List Nat) (w0 w : World) (B : Nat) (hb : Below B w0 w) (ho : OwnI w B v ns) (hn : ns.length ≤ 1000000) :
    Calls Tryz.prog 62 #[v] w fun e w' => e = .returned (.tuple #[]) ∧ OwnI w' B v ns.reverse ∧ Below B w0 w' := by
  have ho' : w.ownsRow B 3 1 v (ns.map fun n : Nat => (n : Int)).length ((ns.map fun n : Nat => (n : Int)).map (Value.int .i64)) := by
    rw [List.map_map, List.length_map]
    exact ho
  by_cases hnil : v = .slice none 0 0
  · subst hnil
    have h0 : ns = [] := by
      rcases ho.2 with ⟨_, h⟩ | ⟨_, _, _, e, _⟩
      · exact List.length_eq_zero_iff.1 h
      · cases e
    subst h0
    refine (Tryz.slices_Reverse_int_empty none 0 w).mono ?_
    rintro e w' ⟨rfl, rfl⟩
    exact ⟨rfl, ho, hb⟩
  · obtain ⟨blk, cap, rfl, hbg, hgl, hncap, hcm, hlen, hH⟩ := Lib.holds_of_ownsRow ho' hnil
    have h := Tryz.slices_Reverse_int blk 0 cap (ns.map fun n : Nat => (n : Int)) w hH (by rw [List.length_map]; omega)
    refine h.mono ?_
    rintro e w' ⟨rfl, q, rfl⟩
    refine ⟨rfl, ?_, Lib.below_putRow hb hbg⟩
    have hc := Lib.ownsRow_putRow (q := q) (k := (ns.map fun n : Nat => (n : Int)).length) (ys := (ns.map fun n : Nat => (n : Int)).reverse) ho' (by simp) (by omega)
    rw [List.take_of_length_le (by simp), ← List.map_reverse, List.map_map, List.length_map] at hc
    unfold OwnI
    rw [List.length_reverse, List.length_map, ← List.map_reverse]
    exact hc
/-- What Needs hands back. -/
def NdLeft (w : World) (ns : List Nat) (e : Ending) (w' : World) : Prop := ∃ (A : Option Addr) (n c : Nat), e = .returned (.slice A n c) ∧ Hid (RowN w' A n c ns) ∧ Below w.heap.size w w'
set_option maxHeartbeats 20000000 in
set_option maxRecDepth 100000 in
theorem needs1_any (gl : Nat) (A : Option Addr) (l : List Pm) (n c i : Nat) (w : World) (hbx : Boxed w gl 22 (.slice A n c)) (ha : RowW w A n c l) (hl : ∀ y ∈ l, LtK y.key) (hn : l.length ≤ 500) (hi : i < l.length) (hT : Tabs w) :
    Calls Tryz.prog 61 #[.int .i64 (i : Int), .pointer (some ⟨gl, 0, none⟩)] w (NdLeft w (needsP ((pkeys l).take i).reverse [l[i].key] [])) := by
  obtain ⟨lb, lo, rfl, hlb, _⟩ := ha.at_.get hi
  have hln := ha.len
  have hn5 : n ≤ 500 := by omega
  have hin : i < n := by omega
  obtain ⟨R9, hR9⟩ : ∃ r, needsP ((pkeys l).take i).reverse [l[i].key] [] = r := ⟨_, rfl⟩
  rw [hR9]
  have hsl : ∀ w, (Instr.slice 22 (.slice (some ⟨lb, lo, none⟩) n c) none (some (.int .i64 ((i : Int) + 1))) none).run Tryz.prog w = .ok (.slice (some ⟨lb, lo, none⟩) (i + 1) c) w := fun w => run_slice_prims (some ⟨lb, lo, none⟩) n c (i + 1) w (by omega) ha.room.2 (.inr ⟨lb, lo, rfl⟩)
  have hti : RowW w (some ⟨lb, lo, none⟩) (i + 1) c (l.take (i + 1)) := by
    refine ⟨by rw [List.length_take]; omega, ⟨fun h0 => ?_, fun z hz => ha.at_.ok z (List.mem_of_mem_take hz)⟩, ⟨(fun e => by cases e), by have := ha.room.2; omega⟩, fun z hz => ha.ok z (List.mem_of_mem_take hz)⟩
    obtain ⟨b, off, e, hb, hc⟩ := ha.at_.at_ (by omega)
    refine ⟨b, off, e, hb, fun j hj => ?_⟩
    rw [List.length_take] at hj
    rw [List.getElem_take]
    exact hc j (by omega)
  have CC := Lib.hid (pclone_any (some ⟨lb, lo, none⟩) (l.take (i + 1)) (i + 1) c w hti.len hti.at_ hti.room (by have := hti.len; omega))
  have hc0 := hbx.cell
  have q1 : IntKind.i64.wrap ((i : Int) + 1) = (i : Int) + 1 := IntWalk.i64_in _ (by omega)
  have q2 : IntKind.i64.wrap ((i : Int) - 1) = (i : Int) - 1 := IntWalk.i64_in _ (by omega)
  have u0 : (0 : Int) ≤ (i : Int) := by omega
  have HS := Lib.hid ha
  have HL := Lib.hid hl
  have HT := Lib.hid hT
  have HBX := Lib.hid hbx
  have HTI := Lib.hid hti
  have HR9 := Lib.hid hR9
  have HLN : Hid (n = l.length) := hln
  clear ha hl hT hbx hti hR9 hln
  go_enter Tryz.func61, Tryz.ntmps61
  go_wp2_with fail
  refine CC.out.mono ?_
  rintro e w1 ⟨A1, c5, rfl, ho, hb⟩
  obtain ⟨g, rfl, hgB, hgl, hgc⟩ := own_addr ho (by rw [List.length_take]; omega)
  have HI0 : Hid (NdI w w1 g c5 i i i (pkeys l) (l.take (i + 1)) R9 none 0 0 []) := by
    refine ⟨ho, by rw [List.length_take]; omega, fun z hz => .inl ((HTI.out.ok z hz).below hb), fun z hz => HL.out z (List.mem_of_mem_take hz), ?_, ⟨by simp, .inl ⟨rfl, rfl⟩⟩, by simp, hb⟩
    have e1 : (l.take (i + 1)).drop i = [l[i]] := by
      rw [List.take_succ_eq_append_getElem hi, List.drop_append_of_le_length (by rw [List.length_take]; omega), List.drop_of_length_le (by rw [List.length_take]; omega)]
      rfl
    rw [e1]
    exact HR9.out
  have hcl5 : i + 1 ≤ c5 := ho.flat.2.1
  clear ho hb CC hc0 hsl HTI HR9 hgl hgc
  go_wp2
  go_loopw [4, 6, 7] (fun ov fv kv wr => ∃ (k f : Nat) (A2 : Option Addr) (n2 c2 : Nat) (os : List Nat) (ps : List Pm), ov = .slice A2 n2 c2 ∧ fv = .int .i64 (f : Int) ∧ kv = .int .i64 ((k : Int) - 1) ∧ k ≤ f ∧ f ≤ i ∧ Hid (NdI w wr g c5 i f k (pkeys l) ps R9 A2 n2 c2 os)) (fun _ _ kv _ => (intOf kv + 1).toNat)
  case atStart => exact ⟨i, i, none, 0, 0, [], _, rfl, rfl, rfl, Nat.le_refl _, Nat.le_refl _, HI0.out⟩
  case round =>
    clear HI0 q1 q2
    obtain ⟨k, f, A2, n2, c2, os, ps, rfl, rfl, rfl, hkf, hfi, HI⟩ := hrel
    rcases Nat.eq_zero_or_pos k with h0 | h0
    · subst h0
      have hR : os.reverse = R9 := HI.out.nd
      have CR := Lib.hid (reverse_ints _ os w wr w.heap.size HI.out.below HI.out.oi (by have := HI.out.ol; omega))
      rw [hR] at CR
      have HLR : Hid (R9.length = os.length) := by show _ = _; rw [← hR, List.length_reverse]
      clear hR
      go_wp2_with fail
      refine CR.out.mono ?_
      rintro e w2 ⟨rfl, ho2, hb2⟩
      obtain ⟨A3, c3, he3, hr3⟩ := ho2.row
      simp only [Value.slice.injEq] at he3
      obtain ⟨rfl, rfl, rfl⟩ := he3
      have HF : Hid (NdLeft w R9 (.returned (.slice A2 R9.length c2)) w2) := ⟨_, _, _, rfl, hr3, hb2⟩
      clear CR ho2 hb2 hr3 HI HLR
      go_wp2
      go_ret
      exact HF.out
    · obtain ⟨j, rfl⟩ : ∃ j, k = j + 1 := ⟨k - 1, by omega⟩
      have hjl : j < l.length := by omega
      have hpart := HI.out.part hfi
      obtain ⟨A6, hA6, hP6, hN6⟩ := run_slice_prims_part lb lo n c j (j + 1) (by omega) (by omega) HS.out.room.2
      have hlw := HS.out.on HI.out.below
      have e1 : (l.take (j + 1)).drop j = [l[j]] := by
        rw [List.take_succ_eq_append_getElem hjl, List.drop_append_of_le_length (by rw [List.length_take]; omega), List.drop_of_length_le (by rw [List.length_take]; omega)]
        rfl
      have one : j + 1 - j = 1 := by omega
      simp only [one] at hA6 hP6
      clear one
      have hone : RowW wr A6 1 (c - j) [l[j]] := by
        have h := hP6 wr wr.heap.size l HLN.out.symm hlw.at_
        rw [e1] at h
        exact ⟨by simp, h, ⟨hN6, by have := HS.out.room.2; omega⟩, fun z hz => h.ok z hz⟩
      have hljk : ∀ z ∈ [l[j]], LtK z.key := fun z hz => by
        obtain rfl : z = l[j] := by simpa using hz
        exact HL.out _ (List.getElem_mem _)
      have hdk : ∀ z ∈ ps.drop f, LtK z.key := fun z hz => HI.out.lt z (List.mem_of_mem_drop hz)
      have hdr : Below wr.heap.size wr wr.drew := (Below.refl _ _).drew
      have CT := Lib.hid (turned_s A6 [l[j]] 1 (c - j) (some ⟨g, f * 6, none⟩) (i + 1 - f) (c5 - f) (ps.drop f) wr.drew (hone.on hdr) (hpart.on hdr) hljk hdk (by simp) (by rw [List.length_drop, HI.out.len]; omega) (Tabs.on HT.out (HI.out.below.trans (hdr.mono HI.out.below.size))))
      obtain ⟨er, px, pq, hpast⟩ : ∃ er px pq, pastP l[j].key (pkeys (ps.drop f)) = (er, px, pq) := ⟨_, _, _, rfl⟩
      have hrow := rows_one l[j].key (pkeys (ps.drop f))
      rw [hpast] at hrow
      simp only at hrow
      have hpl := past_lt _ (hljk _ (by simp)) (ltk_row hdk) hpast
      have htk : ((pkeys l).take (j + 1)).reverse = l[j].key :: ((pkeys l).take j).reverse := by
        have h1 : j < (pkeys l).length := by rw [pkeys_len]; exact hjl
        rw [List.take_succ_eq_append_getElem h1, List.reverse_append]
        simp [pkeys]
      have htl : ((pkeys l).take j).reverse.length = j := by rw [List.length_reverse, List.length_take, pkeys_len]; omega
      have hslf : ∀ w, (Instr.slice 22 (.slice (some ⟨g, 0, none⟩) (i + 1) c5) (some (.int .i64 (f : Int))) none none).run Tryz.prog w = .ok (.slice (some ⟨g, f * 6, none⟩) (i + 1 - f) (c5 - f)) w := fun w => run_slice_prims_own g (i + 1) c5 f (by omega) hcl5 w
      have hA6' : ∀ w, (Instr.slice 22 (.slice (some ⟨lb, lo, none⟩) n c) (some (.int .i64 (j : Int))) (some (.int .i64 ((j : Int) + 1))) none).run Tryz.prog w = .ok (.slice A6 1 (c - j)) w := hA6
      have HCD : Hid (wr.drew.cell? ⟨gl, 0, none⟩ = some (.slice (some ⟨lb, lo, none⟩) n c)) := Boxed.cell (show Boxed wr gl 22 (.slice (some ⟨lb, lo, none⟩) n c) from (HI.out.below.block _ HBX.out.lt).trans HBX.out)
      have HROW := Lib.hid hrow
      have HPL := Lib.hid hpl
      have HND : Hid (needsP (l[j].key :: ((pkeys l).take j).reverse) (pkeys (ps.drop f)) os.reverse = R9) := by show _ = _; rw [← htk]; exact HI.out.nd
      have HTL := Lib.hid htl
      have HPA := Lib.hid hpast
      have hje : (((j + 1 : Nat) : Int)) - 1 = (j : Int) := by omega
      have q3 : IntKind.i64.wrap ((j : Int) + 1) = (j : Int) + 1 := IntWalk.i64_in _ (by omega)
      have q4 : IntKind.i64.wrap ((j : Int) - 1) = (j : Int) - 1 := IntWalk.i64_in _ (by omega)
      have u1 : (0 : Int) ≤ (j : Int) := by omega
      have u2 : (j : Int) < (n : Int) := by omega
      rw [hje]
      clear hpart hP6 hN6 hlw e1 hone hljk hdk hdr hpast hrow hpl htk htl hA6 hje
      go_upto_region 6 with (fail)
      refine wp_region_noPanic ?_
      refine wp_region_held_drew (S := (fun w' => w'.cell? ⟨gl, 0, none⟩ = some (.slice (some ⟨lb, lo, none⟩) n c))) (by kernel_rfl) HCD.out (fun hHeld => ?_)
      refine wpAnyH_take (i := 0) (oi := { dst := some 24, op := _, type := _, pos := _, after := _, guard := _ }) (v := .slice (some ⟨lb, lo, none⟩) n c) rfl (by kernel_rfl) (by kernel_rfl) (by kernel_rfl) (fun _ _ _ h => h) (Or.inl ⟨by rfl, fun w' hSw => ?_⟩) (by assumption) ?_
      · ((try dsimp only at hSw); go_simp)
      try simp only [Act.put, List.setIfInBounds_toArray, List.set_cons_zero, List.set_cons_succ]
      refine wpAnyH_take (i := 1) (oi := { dst := some 25, op := _, type := _, pos := _, after := _, guard := _ }) (v := .int .i64 (j : Int)) rfl (by kernel_rfl) (by kernel_rfl) (by kernel_rfl) (fun _ _ _ h => h) (Or.inl ⟨by rfl, fun w' hSw => ?_⟩) (by assumption) ?_
      · ((try dsimp only at hSw); go_simp)
      try simp only [Act.put, List.setIfInBounds_toArray, List.set_cons_zero, List.set_cons_succ]
      refine wpAnyH_take (i := 2) (oi := { dst := some 26, op := _, type := _, pos := _, after := _, guard := _ }) (v := .int .i64 (j : Int)) rfl (by kernel_rfl) (by kernel_rfl) (by kernel_rfl) (fun _ _ _ h => h) (Or.inl ⟨by rfl, fun w' hSw => ?_⟩) (by assumption) ?_
      · ((try dsimp only at hSw); go_simp)
      try simp only [Act.put, List.setIfInBounds_toArray, List.set_cons_zero, List.set_cons_succ]
      refine wpAnyH_take (i := 3) (oi := { dst := some 27, op := _, type := _, pos := _, after := _, guard := _ }) (v := .int .i64 ((j : Int) + 1)) rfl (by kernel_rfl) (by kernel_rfl) (by kernel_rfl) (fun _ _ _ h => h) (Or.inl ⟨by rfl, fun w' hSw => ?_⟩) (by assumption) ?_
      · ((try dsimp only at hSw); go_simp)
      try simp only [Act.put, List.setIfInBounds_toArray, List.set_cons_zero, List.set_cons_succ]
      refine wpAnyH_take (i := 4) (oi := { dst := some 28, op := _, type := _, pos := _, after := _, guard := _ }) (v := .slice A6 1 (c - j)) rfl (by kernel_rfl) (by kernel_rfl) (by kernel_rfl) (fun _ _ _ h => h) (Or.inl ⟨by rfl, fun w' hSw => ?_⟩) (by assumption) ?_
      · ((try dsimp only at hSw); go_simp)
      try simp only [Act.put, List.setIfInBounds_toArray, List.set_cons_zero, List.set_cons_succ]
      refine wpAnyH_take (i := 5) (oi := { dst := some 29, op := _, type := _, pos := _, after := _, guard := _ }) (v := .slice (some ⟨g, 0, none⟩) (i + 1) c5) rfl (by kernel_rfl) (by kernel_rfl) (by kernel_rfl) (fun _ _ _ h => h) (Or.inl ⟨by rfl, fun w' hSw => ?_⟩) (by assumption) ?_
      · ((try dsimp only at hSw); go_simp)
      try simp only [Act.put, List.setIfInBounds_toArray, List.set_cons_zero, List.set_cons_succ]
      refine wpAnyH_take (i := 6) (oi := { dst := some 30, op := _, type := _, pos := _, after := _, guard := _ }) (v := .int .i64 (f : Int)) rfl (by kernel_rfl) (by kernel_rfl) (by kernel_rfl) (fun _ _ _ h => h) (Or.inl ⟨by rfl, fun w' hSw => ?_⟩) (by assumption) ?_
      · ((try dsimp only at hSw); go_simp)
      try simp only [Act.put, List.setIfInBounds_toArray, List.set_cons_zero, List.set_cons_succ]
      refine wpAnyH_take (i := 7) (oi := { dst := some 31, op := _, type := _, pos := _, after := _, guard := _ }) (v := .slice (some ⟨g, f * 6, none⟩) (i + 1 - f) (c5 - f)) rfl (by kernel_rfl) (by kernel_rfl) (by kernel_rfl) (fun _ _ _ h => h) (Or.inl ⟨by rfl, fun w' hSw => ?_⟩) (by assumption) ?_
      · ((try dsimp only at hSw); go_simp)
      try simp only [Act.put, List.setIfInBounds_toArray, List.set_cons_zero, List.set_cons_succ]
      refine wpAnyH_ready (rs := [8]) (by kernel_rfl) (by simp) ?_
      refine AllReadyH.cons rfl (fun K hK => ?_) AllReadyH.nil
      go_simp
      go_at_call 28
      refine CT.out.mono ?_
      rintro e w7 ⟨A3, n3, c3, rs, A4, n4, c4, ss, er2, rfl, hp, hb⟩
      have hcb : w7.cell? ⟨gl, 0, none⟩ = some (.slice (some ⟨lb, lo, none⟩) n c) := cell_on HCD.out hb
      refine hK.out _ _ hcb (fun hHeld8 => ?_)
      clear hK K hHeld hcb
      try simp only [Act.put, List.setIfInBounds_toArray, List.set_cons_zero, List.set_cons_succ]
      refine wpAnyH_take (i := 9) (oi := { dst := some 23, op := _, type := _, pos := _, after := _, guard := _ }) (v := .tuple #[.slice A3 n3 c3, .slice A4 n4 c4, .int .i64 er2]) rfl (by kernel_rfl) (by kernel_rfl) (by kernel_rfl) (fun _ _ _ h => h) (Or.inl ⟨by rfl, fun w' hSw => ?_⟩) (by assumption) ?_
      · ((try dsimp only at hSw); go_simp)
      try simp only [Act.put, List.setIfInBounds_toArray, List.set_cons_zero, List.set_cons_succ]
      refine wpAnyH_take (i := 10) (oi := { dst := some 33, op := _, type := _, pos := _, after := _, guard := _ }) (v := .slice A3 n3 c3) rfl (by kernel_rfl) (by kernel_rfl) (by kernel_rfl) (fun _ _ _ h => h) (Or.inl ⟨by rfl, fun w' hSw => ?_⟩) (by assumption) ?_
      · ((try dsimp only at hSw); go_simp)
      try simp only [Act.put, List.setIfInBounds_toArray, List.set_cons_zero, List.set_cons_succ]
      refine wpAnyH_take (i := 11) (oi := { dst := some 34, op := _, type := _, pos := _, after := _, guard := _ }) (v := .slice A4 n4 c4) rfl (by kernel_rfl) (by kernel_rfl) (by kernel_rfl) (fun _ _ _ h => h) (Or.inl ⟨by rfl, fun w' hSw => ?_⟩) (by assumption) ?_
      · ((try dsimp only at hSw); go_simp)
      try simp only [Act.put, List.setIfInBounds_toArray, List.set_cons_zero, List.set_cons_succ]
      refine wpAnyH_take (i := 12) (oi := { dst := some 35, op := _, type := _, pos := _, after := _, guard := _ }) (v := .int .i64 er2) rfl (by kernel_rfl) (by kernel_rfl) (by kernel_rfl) (fun _ _ _ h => h) (Or.inl ⟨by rfl, fun w' hSw => ?_⟩) (by assumption) ?_
      · ((try dsimp only at hSw); go_simp)
      try simp only [Act.put, List.setIfInBounds_toArray, List.set_cons_zero, List.set_cons_succ]
      refine wpAnyH_take (i := 13) (oi := { dst := some 8, op := _, type := _, pos := _, after := _, guard := _ }) (v := .slice A3 n3 c3) rfl (by kernel_rfl) (by kernel_rfl) (by kernel_rfl) (fun _ _ _ h => h) (Or.inl ⟨by rfl, fun w' hSw => ?_⟩) (by assumption) ?_
      · ((try dsimp only at hSw); go_simp)
      try simp only [Act.put, List.setIfInBounds_toArray, List.set_cons_zero, List.set_cons_succ]
      refine wpAnyH_take (i := 14) (oi := { dst := some 9, op := _, type := _, pos := _, after := _, guard := _ }) (v := .slice A4 n4 c4) rfl (by kernel_rfl) (by kernel_rfl) (by kernel_rfl) (fun _ _ _ h => h) (Or.inl ⟨by rfl, fun w' hSw => ?_⟩) (by assumption) ?_
      · ((try dsimp only at hSw); go_simp)
      try simp only [Act.put, List.setIfInBounds_toArray, List.set_cons_zero, List.set_cons_succ]
      refine wpAnyH_take (i := 15) (oi := { dst := some 10, op := _, type := _, pos := _, after := _, guard := _ }) (v := .int .i64 er2) rfl (by kernel_rfl) (by kernel_rfl) (by kernel_rfl) (fun _ _ _ h => h) (Or.inl ⟨by rfl, fun w' hSw => ?_⟩) (by assumption) ?_
      · ((try dsimp only at hSw); go_simp)
      try simp only [Act.put, List.setIfInBounds_toArray, List.set_cons_zero, List.set_cons_succ]
      refine wpAnyH_done (by kernel_rfl) ?_ _
      refine NoPanic.normal ?_
      (try simp only [Exit.then])
      obtain ⟨hr3, hr4, heq, hsp⟩ := hp.out
      rw [show pkeys [l[j]] = [l[j].key] from rfl, HROW.out] at heq
      have hbw : Below wr.heap.size wr w7 := ((Below.refl _ wr).drew).trans (hb.mono (Nat.le_refl _))
      have HB7 := Lib.hid hbw
      have HR3 := Lib.hid hr3
      have HSP : Hid (∀ z ∈ rs, z.Sep w7) := hsp (by simp)
      have HEQ := Lib.hid heq
      clear hp hb hr3 hr4 heq hsp hbw CT HROW HCD hA6'
      by_cases he : er = 0
      · subst he
        have heq := HEQ.out
        simp only [ne_eq, not_true_eq_false, if_false, Prod.mk.injEq] at heq
        obtain ⟨rfl, h3, h4⟩ := heq
        have hrl : rs.length = i + 1 - f := by
          have h5 := HPL.out.2.2.2 rfl
          rw [h3, pkeys_len, pkeys_len, List.length_drop, HI.out.len] at h5
          exact h5
        have hn3 : n3 = i + 1 - f := by rw [← hrl]; exact HR3.out.len
        subst hn3
        have HRK : Hid (pkeys rs = px) := h3.symm
        have HRL := Lib.hid hrl
        have own7 := HI.out.own.kept HB7.out
        have HO7 := Lib.hid own7
        clear h3 h4 hrl own7 HEQ
        have h1r : 0 < rs.length := by have := HRL.out; omega
        have hkk : f + rs.length = ps.length := by have := HRL.out; have := HI.out.len; omega
        have hm7 : i + 1 - f = rs.length := HRL.out.symm
        have CPL := Lib.hid (⟨h1r, hkk, hm7⟩ : 0 < rs.length ∧ f + rs.length = ps.length ∧ i + 1 - f = rs.length)
        clear h1r hkk hm7
        obtain ⟨w8, hrun8, ho8, hg8⟩ := copy_own HO7.out f CPL.out.2.1 HR3.out.at_ CPL.out.1 3 (c5 - f) c3
        rw [HRL.out] at hrun8
        have hn0 : w.heap.size ≤ w7.heap.size := Nat.le_trans HI.out.below.size HB7.out.size
        have hch : Chg w.heap.size w7 w8 := chg_prim HO7.out rfl hgB hg8
        have HI8 : Hid (NdI w w8 g c5 i f j (pkeys l) (ps.take f ++ rs) R9 A2 n2 c2 os) := by
          have hne : (Value.slice A2 n2 c2).ownBlock ≠ some g := fun e => by
            rcases HI.out.oi.2 with ⟨h, _⟩ | ⟨g2, cap, cur, h, _, h2, _⟩
            · rw [h] at e; cases e
            · rw [h] at e
              obtain rfl : g2 = g := by simpa [Value.ownBlock] using e
              obtain ⟨cur2, fz, h3⟩ := HI.out.own.type_of (g := g2) rfl
              rw [h2] at h3
              simp only [Option.some.injEq, Obj.cells.injEq] at h3
              exact absurd h3.2.1 (by decide)
          refine ⟨ho8, by rw [List.length_append, List.length_take]; have := CPL.out.2.1; have := HI.out.len; omega, fun z hz => ?_, fun z hz => ?_, ?_, ?_, by have := HI.out.ol; omega, (HI.out.below.trans (HB7.out.mono HI.out.below.size)).trans (hch.below hn0)⟩
          · rcases List.mem_append.1 hz with hz | hz
            · exact ((HI.out.good z (List.mem_of_mem_take hz)).go HI.out.below.size (Chg.of_below HB7.out)).go hn0 hch
            · exact .inr (sep_chg (HSP.out z hz) hch)
          · rcases List.mem_append.1 hz with hz | hz
            · exact HI.out.lt z (List.mem_of_mem_take hz)
            · exact HPL.out.2.1 z.key (by rw [← HRK.out]; exact List.mem_map_of_mem hz)
          · have e2 : (ps.take f ++ rs).drop f = rs := by
              have hl2 : (ps.take f).length = f := by rw [List.length_take, HI.out.len]; omega
              conv => lhs; arg 1; rw [← hl2]
              exact List.drop_left
            rw [e2, HRK.out, ← needs_yes HPA.out]
            exact HND.out
          · refine World.ownsRow.kept (World.ownsRow.kept HI.out.oi (below_grown1 HB7.out none) (by cases (Value.slice A2 n2 c2).ownBlock <;> simp)) hg8 (.inr hne)
        clear ho8 hg8 hn0 hch HI HRK HRL HO7 CPL HR3 HSP HPL HND HPA HTL HB7
        go_wp2
        go_roundw
        case rel =>
          first
          | exact ⟨j, f, A2, n2, c2, os, _, rfl, rfl, rfl, by omega, hfi, HI8.out⟩
          | ((repeat apply Exists.intro); exact ⟨⟨rfl, rfl, rfl, by omega, hfi, HI8.out⟩, rfl⟩)
        case measure => simp [intOf] <;> omega
      · have ke : (er == 0) = false := by simpa using he
        have heq := HEQ.out
        simp only [ne_eq, he, not_false_eq_true, if_true, Prod.mk.injEq] at heq
        obtain ⟨rfl, h3, h4⟩ := heq
        obtain ⟨f2, rfl⟩ : ∃ f2, f = f2 + 1 := ⟨f - 1, by omega⟩
        have hf2 : f2 < ps.length := by have := HI.out.len; omega
        have own7 := HI.out.own.kept HB7.out
        have hlw := HS.out.on (HI.out.below.trans (HB7.out.mono HI.out.below.size))
        obtain ⟨lb', lo', e', _, d0, d1, d2, d3, d4, d5⟩ := hlw.at_.get hjl
        cases e'
        obtain ⟨y, hy⟩ : ∃ y, l[j] = y := ⟨_, rfl⟩
        have hyg : y.Good w.heap.size w7 := by rw [← hy]; exact .inl ((HS.out.ok _ (List.getElem_mem _)).below (HI.out.below.trans (HB7.out.mono HI.out.below.size)))
        have hyl : LtK y.key := by rw [← hy]; exact HL.out _ (List.getElem_mem _)
        rw [hy] at d0 d1 d2 d3 d4 d5
        have HYK : Hid (pastP y.key (pkeys (ps.drop (f2 + 1))) = (er, px, pq)) := by rw [← hy]; exact HPA.out
        have HNY : Hid (needsP (y.key :: ((pkeys l).take j).reverse) (pkeys (ps.drop (f2 + 1))) os.reverse = R9) := by rw [← hy]; exact HND.out
        obtain ⟨g9, hg9, _, _, m0, m1, m2, m3, m4, m5⟩ := own7.get hf2
        obtain rfl : g = g9 := by simpa using hg9
        have mf0 := own7.at0 (f2 * 6)
        have mf1 := own7.at0 (f2 * 6 + 1)
        have mf2 := own7.at0 (f2 * 6 + 2)
        have mf3 := own7.at0 (f2 * 6 + 3)
        have mf4 := own7.at0 (f2 * 6 + 4)
        have mf5 := own7.at0 (f2 * 6 + 5)
        obtain ⟨p1, p2⟩ := own7.put hf2 y
        have hn0 : w.heap.size ≤ w7.heap.size := Nat.le_trans HI.out.below.size HB7.out.size
        have hne : (Value.slice A2 n2 c2).ownBlock ≠ some g := fun e => by
          rcases HI.out.oi.2 with ⟨h, _⟩ | ⟨g2, cap, cur, h, _, h2, _⟩
          · rw [h] at e; cases e
          · rw [h] at e
            obtain rfl : g2 = g := by simpa [Value.ownBlock] using e
            obtain ⟨cur2, fz, h3⟩ := HI.out.own.type_of (g := g2) rfl
            rw [h2] at h3
            simp only [Option.some.injEq, Obj.cells.injEq] at h3
            exact absurd h3.2.1 (by decide)
        have HNE := Lib.hid hne
        have oi8 : OwnI (putPrim w7 g f2 y) w.heap.size (.slice A2 n2 c2) os := World.ownsRow.kept (World.ownsRow.kept HI.out.oi (below_grown1 HB7.out none) (by cases (Value.slice A2 n2 c2).ownBlock <;> simp)) p2 (.inr hne)
        have c78 : Chg w.heap.size w7 (putPrim w7 g f2 y) := chg_prim own7 rfl hgB p2
        have HP8 : Hid (OwnP (putPrim w7 g f2 y) w.heap.size (.slice (some ⟨g, 0, none⟩) (i + 1) c5) (ps.set f2 y) ∧ OwnI (putPrim w7 g f2 y) w.heap.size (.slice A2 n2 c2) os ∧ (∀ z ∈ ps.set f2 y, z.Good w.heap.size (putPrim w7 g f2 y)) ∧ w.heap.size ≤ (putPrim w7 g f2 y).heap.size ∧ Below w.heap.size w (putPrim w7 g f2 y)) := by
          refine ⟨p1, oi8, fun z hz => ?_, Nat.le_trans hn0 c78.size, (HI.out.below.trans (HB7.out.mono HI.out.below.size)).trans (c78.below hn0)⟩
          rcases List.mem_or_eq_of_mem_set hz with hz | rfl
          · exact ((HI.out.good z hz).go HI.out.below.size (Chg.of_below HB7.out)).go hn0 c78
          · exact hyg.go hn0 c78
        have HLT : Hid (∀ z ∈ ps.set f2 y, LtK z.key) := fun z hz => by
          rcases List.mem_or_eq_of_mem_set hz with hz | rfl
          · exact HI.out.lt z hz
          · exact hyl
        have HDP : Hid (pkeys ((ps.set f2 y).drop f2) = y.key :: pkeys (ps.drop (f2 + 1))) := by
          show _ = _
          rw [List.drop_eq_getElem_cons (by rw [List.length_set]; exact hf2), List.getElem_set_self, List.drop_set_of_lt (by omega)]
          rfl
        have HLS : Hid ((ps.set f2 y).length = i + 1) := by show _ = _; rw [List.length_set, HI.out.len]
        have HOL := Lib.hid HI.out.ol
        have hol : os.length ≤ 600 := by have := HI.out.ol; omega
        have q5 : IntKind.i64.wrap (((f2 + 1 : Nat) : Int) - 1) = (f2 : Int) := by
          rw [show ((f2 + 1 : Nat) : Int) - 1 = (f2 : Int) by omega]
          exact IntWalk.i64_in _ (by omega)
        have q6 : IntKind.i64.wrap (f2 : Int) = (f2 : Int) := IntWalk.i64_in _ (by omega)
        have u3 : (0 : Int) ≤ (f2 : Int) := by omega
        have u4 : (f2 : Int) < ((i + 1 : Nat) : Int) := by omega
        have u5 : (f2 : Int) < (i : Int) + 1 := by omega
        clear own7 hlw hy hyg hyl hg9 p1 p2 hn0 hne oi8 c78 HI HB7 HR3 HSP HEQ HPL HPA HND h3 h4
        have hch : ((((((w7.setCell ⟨g, f2 * 6, none⟩ (.int .i64 y.kind)).setCell ⟨g, f2 * 6 + 1, none⟩ (.string y.p)).setCell ⟨g, f2 * 6 + 2, none⟩ (.string y.dst)).setCell ⟨g, f2 * 6 + 3, none⟩ (.int .i64 y.at_)).setCell ⟨g, f2 * 6 + 4, none⟩ (.slice y.a1 y.old.length y.c1)).setCell ⟨g, f2 * 6 + 5, none⟩ (.slice y.a2 y.new.length y.c2)) = putPrim w7 g f2 y := rfl
        go_upto_region 11 with (fail)
        (try rw [hch])
        clear hch m0 m1 m2 m3 m4 m5 mf0 mf1 mf2 mf3 mf4 mf5 d0 d1 d2 d3 d4 d5
        generalize putPrim w7 g f2 y = w8 at *
        have hal : Below w8.heap.size w8 (w8.alloc (.cells #[.int .i64 (j : Int)] 3)) := (Below.refl _ _).alloc (Nat.le_refl _) _
        have hci : (w8.alloc (.cells #[.int .i64 (j : Int)] 3)).cell? ⟨w8.heap.size, 0, none⟩ = some (intV j) := (Boxed.new w8 3 (.int .i64 (j : Int))).cell
        have HOI : Hid (OwnI (w8.alloc (.cells #[.int .i64 (j : Int)] 3)) w.heap.size (.slice A2 n2 c2) os) := World.ownsRow.kept HP8.out.2.1 (below_grown1 hal none) (by cases (Value.slice A2 n2 c2).ownBlock <;> simp)
        have HSZ : Hid (w.heap.size ≤ (w8.alloc (.cells #[.int .i64 (j : Int)] 3)).heap.size) := Nat.le_trans HP8.out.2.2.2.1 hal.size
        have HCI := Lib.hid hci
        have HAL := Lib.hid hal
        obtain ⟨M, hM⟩ : ∃ M, M = os.length + 1 := ⟨_, rfl⟩
        have HM := Lib.hid hM
        clear hal hci hM
        go_wp2_with (at_builtin; refine wpList_append_oi rfl _ _ rfl w.heap.size (.slice A2 n2 c2) os rfl HOI.out j w8.heap.size rfl HCI.out HSZ.out (by omega) M HM.out ?_)
        intro A5 c6 w9 ho9 hg9
        have cia := chg_ints (n₀ := w.heap.size) HOI.out (Nat.le_refl _) hg9
        have HI9 : Hid (NdI w w9 g c5 i f2 j (pkeys l) (ps.set f2 y) R9 A5 M c6 (os ++ [j])) := by
          refine ⟨?_, HLS.out, fun z hz => ((HP8.out.2.2.1 z hz).go HP8.out.2.2.2.1 (Chg.of_below HAL.out)).go HSZ.out cia, HLT.out, ?_, ho9, by rw [List.length_append]; have := HOL.out; simp only [List.length_cons, List.length_nil]; omega, (HP8.out.2.2.2.2.trans (HAL.out.mono HP8.out.2.2.2.1)).trans (cia.below HSZ.out)⟩
          · refine World.ownsRow.kept (HP8.out.1.kept HAL.out) hg9 (.inr fun e => ?_)
            exact HNE.out e.symm
          · rw [HDP.out, List.reverse_append, ← HNY.out, needs_no HYK.out he, HTL.out]
            rfl
        clear ho9 hg9 cia HOI HSZ HCI HAL HM HP8 HLT HDP HLS HOL HNE HYK HNY HTL
        go_wp2
        go_roundw
        case rel =>
          first
          | exact ⟨j, f2, A5, M, c6, os ++ [j], _, rfl, rfl, rfl, by omega, by omega, HI9.out⟩
          | ((repeat apply Exists.intro); exact ⟨⟨rfl, rfl, rfl, by omega, by omega, HI9.out⟩, rfl⟩)
        case measure => simp [intOf] <;> omega
set_option maxHeartbeats 20000000 in
set_option maxRecDepth 100000 in
theorem seqneeds_any (A : Option Addr) (l : List Pm) (n c : Nat) (i : Int) (w : World) (ha : RowW w A n c l) (hl : ∀ y ∈ l, LtK y.key) (hn : l.length ≤ 500) (hT : Tabs w) :
    Calls Tryz.prog 19 #[.slice A n c, .int .i64 i] w (NdLeft w (needsI (pkeys l) i)) := by
  have hln := ha.len
  by_cases h : i < 0 ∨ (n : Int) ≤ i
  · rw [needs_o (by rw [pkeys_len]; omega)]
    have HF : Hid (NdLeft w [] (.returned (.slice none 0 0)) w) := ⟨none, 0, 0, rfl, RowN.nil _, Below.refl _ _⟩
    clear ha hl hT hln
    by_cases h1 : i < 0
    · clear h
      go_enter Tryz.func19, Tryz.ntmps19
      go_wp2
      go_ret
      exact HF.out
    · have h2 : (n : Int) ≤ i := by omega
      have h3 : 0 ≤ i := by omega
      clear h
      go_enter Tryz.func19, Tryz.ntmps19
      go_wp2
      go_ret
      exact HF.out
  · obtain ⟨k, rfl⟩ : ∃ k : Nat, i = (k : Int) := ⟨i.toNat, by omega⟩
    have hk : k < l.length := by omega
    rw [needs_i (by rw [pkeys_len]; exact hk), show (pkeys l)[k]'(by rw [pkeys_len]; exact hk) = l[k].key by simp [pkeys]]
    have hal : Below w.heap.size w (w.alloc (.cells #[.slice A n c] 22)) := (Below.refl _ _).alloc (Nat.le_refl _) _
    have CB := Lib.hid (needs1_any w.heap.size A l n c k (w.alloc (.cells #[.slice A n c] 22)) (Boxed.new w 22 _) (ha.on hal) hl hn hk (Tabs.on hT hal))
    have HAL := Lib.hid hal
    have CI : Hid (Calls Tryz.prog 38 #[.slice A n c] w fun e w' => e = .returned (.func (.func 61) #[] #[.pointer (some ⟨w.heap.size, 0, none⟩)]) ∧ w' = w.alloc (.cells #[.slice A n c] 22)) := by
      show Calls _ _ _ _ _
      clear CB HAL hal ha hl hT hln
      go_enter Tryz.func38, Tryz.ntmps38
      go_wp2
      go_ret
      exact ⟨rfl, rfl⟩
    have u1 : (0 : Int) ≤ (k : Int) := by omega
    have u2 : (k : Int) < (n : Int) := by omega
    clear ha hl hT hln h hal
    go_enter Tryz.func19, Tryz.ntmps19
    go_wp2_with fail
    refine CI.out.mono ?_
    rintro e w1 ⟨rfl, rfl⟩
    go_wp2_with fail
    refine CB.out.mono ?_
    rintro e w2 ⟨A3, n3, c3, rfl, hr, hb⟩
    have HF : Hid (NdLeft w (needsP ((pkeys l).take k).reverse [l[k].key] []) (.returned (.slice A3 n3 c3)) w2) := ⟨A3, n3, c3, rfl, hr, HAL.out.trans (hb.mono HAL.out.size)⟩
    clear hr hb CB CI HAL
    go_wp2
    go_ret
    exact HF.out
end Go.Proofs.YtalabahjfmcnbaaGreatDoor
