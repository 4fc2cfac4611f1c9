/- Package deps: Pick. -/
import Derived.Test.YtifkpelcdihdoaaGreatDoorProg
import Derived.WalkKit
import Derived.WalkSpells
import Derived.Handy
import Derived.Lib.Hide
import Derived.Shelf.Strings.BuilderK
import Derived.BigQuiet
import Derived.Deep.QuietTactic
import Derived.Lib.AtoiAllCases
import Derived.Lib.ItoaMem
import Derived.Test.YtifkpelcdihdoaaGreatDoorShelf
import Derived.Deep.RegionHeld3
import Derived.Deep.CutRange
import Derived.Lib.AppendIntMem
import Derived.BigRegion
import Derived.Deep.RegionWith
import Derived.Lib.QuietBelow
import Derived.Deep.MidRow
import Derived.StillTailTactics
import Derived.Deep.RegionLaw
import Derived.Test.YtifkpelcdihdoaaGreatDoorCk32
namespace Go.Proofs.YtifkpelcdihdoaaGreatDoor
open Go.RowKit
set_option linter.unusedVariables false

/-- A patch's rows stay while block G is written. -/
theorem Ptm.Ok.past {x : Ptm} {w w' : World} {G : Nat} (h : x.Ok w w.heap.size) (ho : x.Off G) (hg : w.grownBy w' (some G)) : x.Ok w' w'.heap.size := by
  have cell : ∀ {b i : Nat} {u : Value}, b < w.heap.size → b ≠ G → w.cell? ⟨b, i, none⟩ = some u → w'.cell? ⟨b, i, none⟩ = some u := fun {b i u} hb hne hc => by
    have h2 := hg.block b hb (fun e => hne (by simpa using e))
    unfold World.cell? at hc ⊢
    rw [h2]
    exact hc
  refine ⟨Strs.more (fun hp => ?_) hg.size, h.room1, ⟨Rk.Row.more (fun hp => ?_) hg.size, fun o hm => ?_⟩, h.room2⟩
  · obtain ⟨b, off, e, hlt, hc⟩ := h.deps hp
    have hne := ho.deps b off (by rw [toBs_len] at hp; exact hp) e
    exact ⟨b, off, e, hlt, fun j hj => cell hlt hne (hc j hj)⟩
  · obtain ⟨b, off, e, hlt, hc⟩ := h.ops.1 hp
    have hne := ho.ops b off hp e
    exact ⟨b, off, e, hlt, fun i u hu => cell hlt hne (hc i u hu)⟩
  · have hk := h.ops.2 o hm
    have hf := ho.each o hm
    refine ⟨Rk.Row.more (fun hp => ?_) hg.size, hk.room1, Strs.more (fun hp => ?_) hg.size, hk.room2⟩
    · obtain ⟨b, off, e, hlt, hc⟩ := hk.dels hp
      have hne := hf.1 b off hp e
      exact ⟨b, off, e, hlt, fun i u hu => cell hlt hne (hc i u hu)⟩
    · obtain ⟨b, off, e, hlt, hc⟩ := hk.lines hp
      have hne := hf.2 b off (by rw [toBs_len] at hp; exact hp) e
      exact ⟨b, off, e, hlt, fun j hj => cell hlt hne (hc j hj)⟩
theorem dlt_copy {x : Ptm} (h : x.Lt) : ∀ o ∈ x.ops, o.dels.length ≤ 100000 ∧ o.lines.length ≤ 100000 := fun o ho => by
  have h1 := (h.ops o ho).few
  have h2 := lt_lines (h.ops o ho)
  exact ⟨by omega, by omega⟩
theorem pick_rows (l : List Ptm) (ns : List (List UInt8)) : pickD (pkeys l) ns = pkeys (l.filter fun x => decide (x.name.data.toList ∈ ns)) := by
  unfold pickD pkeys
  rw [List.filter_map]
  rfl
/-- What stands while patches of a row are copied. -/
structure PickAt (w0 W : World) (g cap k : Nat) (o d : List Ptm) : Prop where
  blk : patR.Blk W g cap d
  len : d.length = o.length
  keys : pkeys d = pkeys o
  rest : ∀ j (h : j < o.length) (h2 : j < d.length), k ≤ j → d[j] = o[j]
  each : ∀ x ∈ d, x.Ok W W.heap.size ∧ x.Off g ∧ OpsFew x.ops
  below : Below w0.heap.size w0 W
  ge : w0.heap.size ≤ g
theorem PickAt.on {w0 W W' : World} {g cap k : Nat} {o d : List Ptm} (h : PickAt w0 W g cap k o d) (hb : Below W.heap.size W W') : PickAt w0 W' g cap k o d :=
  ⟨h.blk.on hb, h.len, h.keys, h.rest, fun x hx => ⟨(h.each x hx).1.on hb, (h.each x hx).2⟩, h.below.trans (hb.mono h.below.size), h.ge⟩
theorem PickAt.put {w0 W : World} {g cap k : Nat} {o d : List Ptm} (h : PickAt w0 W g cap k o d) (hk : k < d.length) {z : Ptm} (hz : z.key = d[k].key) (ho : z.Ok W W.heap.size) (hf : z.Off g) (hw : OpsFew z.ops) : PickAt w0 (W.setCells g (k * 3) z.cells) g cap (k + 1) o (d.set k z) := by
  have hg : W.grownBy (W.setCells g (k * 3) z.cells) (some g) := Rk.setCells_grown W g (k * 3) z.cells
  refine ⟨h.blk.put hk z, by rw [List.length_set]; exact h.len, ?_, fun j h1 h2 hj => ?_, fun x hx => ?_, h.below.grown hg h.below.size (fun q hq => by simp only [Option.some.injEq] at hq; have := h.ge; omega), h.ge⟩
  · rw [← h.keys]
    unfold pkeys
    rw [List.map_set, hz]
    refine List.ext_getElem (by simp) fun j h1 h2 => ?_
    rw [List.getElem_set]
    split
    · rename_i e
      subst e
      simp
    · rfl
  · rw [List.getElem_set_ne (by omega)]
    exact h.rest j h1 (by rw [List.length_set] at h2; exact h2) (by omega)
  · rcases List.mem_or_eq_of_mem_set hx with hx | rfl
    · exact ⟨(h.each x hx).1.past (h.each x hx).2.1 hg, (h.each x hx).2⟩
    · exact ⟨ho.past hf hg, hf, hw⟩
theorem PickAt.c {w0 W : World} {g cap k : Nat} {o d : List Ptm} (h : PickAt w0 W g cap k o d) {j : Nat} (hj : j < d.length) : ∀ (r : Nat) (u : Value), (patR.enc d[j])[r]? = some u → W.cell? ⟨g, j * 3 + r, none⟩ = some u := fun r u hu => h.blk.cell hj hu
set_option maxHeartbeats 4000000 in
set_option maxRecDepth 100000 in
theorem dpick_any (A : Option Addr) (l : List Ptm) (c : Nat) (B : Option Addr) (ns : List (List UInt8)) (d : Nat) (w : World) (hd : DepIn w A l c) (hn : NamIn w B ns d) :
    Calls Tryz.prog 16 #[.slice A l.length c, .slice B ns.length d] w (PatsLeft w (pickD (pkeys l) ns)) := by
  have HD := Lib.hid hd
  have hfew := hn.few
  have hlf := hd.few
  have C := Lib.hid (dcalled_any B ns d w hn.strs (by omega) (fun x hx => by have := hn.short x hx; omega))
  have HTH := Lib.hid (fun (g : Nat) (W : World) (hV : AmongV W g ns) (hW : Below w.heap.size w W) => those_called g ns A l c W hV (hd.pats.on hW) (by omega) (fun x hx => by have := (hd.inn x hx).name; omega))
  obtain ⟨o, ho⟩ : ∃ o, (l.filter fun x => decide (x.name.data.toList ∈ ns)) = o := ⟨_, rfl⟩
  have HIN : Hid (∀ x ∈ o, x ∈ l) := fun x hx => by rw [← ho] at hx; exact (List.mem_filter.1 hx).1
  have hol : o.length ≤ 20 := by rw [← ho]; exact Nat.le_trans (List.length_filter_le _ _) hlf
  have HP : Hid (pickD (pkeys l) ns = pkeys o) := by show _ = _; rw [pick_rows, ho]
  rw [ho] at HTH
  rw [HP.out]
  clear hd hn ho
  go_enter Tryz.func16, Tryz.ntmps16
  go_wp2_with fail
  refine C.out.mono ?_
  rintro e w1 ⟨h, rfl, hv, hb⟩
  have C2 := Lib.hid (HTH.out h w1 hv hb)
  have HB := Lib.hid hb
  clear C hv hb HTH
  go_wp2_with fail
  refine C2.out.mono ?_
  rintro e w2 ⟨A3, c3, rfl, ho2, hb2⟩
  have HB2 := Lib.hid (HB.out.trans (hb2.mono HB.out.size))
  have ho3 := ho2.lower HB.out.size
  clear hb2 HB C2 ho2
  rcases Rk.own_cases ho3 with ⟨e, h0⟩ | ⟨g, cap, e, hBg, hblk⟩
  · subst h0
    simp only [Value.slice.injEq] at e
    obtain ⟨rfl, -, rfl⟩ := e
    clear ho3
    go_wp2_with fail
    go_loopw [14] (fun i wr => i = .int .i64 0 ∧ wr = w2) (fun _ _ => 0)
    case atStart => exact ⟨rfl, rfl⟩
    case round =>
      obtain ⟨rfl, rfl⟩ := hrel
      go_wp2
      go_ret
      exact ⟨none, 0, [], rfl, rfl, ⟨fun _ => rfl, Nat.le_refl _⟩, ⟨Rk.Row.nil, fun x hx => by cases hx⟩, (fun x hx => by cases hx), HB2.out⟩
  · simp only [Value.slice.injEq] at e
    obtain ⟨rfl, -, rfl⟩ := e
    have HS0 : Hid (PickAt w w2 g c3 0 o o) := ⟨hblk, rfl, rfl, fun _ _ _ _ => rfl, fun x hx => ⟨(HD.out.on HB2.out).pats.2 x (HIN.out x hx), (HD.out.pats.2 x (HIN.out x hx)).off hBg, (light_fit (HD.out.lt x (HIN.out x hx)) (HD.out.inn x (HIN.out x hx))).2.2⟩, HB2.out, hBg⟩
    clear ho3 hblk HB2
    go_wp2_with fail
    -- @P1
    go_loopw [14] (fun i wr => ∃ (k : Nat) (d : List Ptm), k ≤ o.length ∧ i = .int .i64 (k : Int) ∧ Hid (PickAt w wr g c3 k o d)) (fun i _ => o.length - (intOf i).toNat)
    case atStart => exact ⟨0, o, Nat.zero_le _, rfl, HS0.out⟩
    case round =>
      clear HS0
      obtain ⟨k, d, hk, rfl, HS⟩ := hrel
      by_cases hlt : k < o.length
      · have hkd : k < d.length := by rw [HS.out.len]; exact hlt
        have HDK : Hid (d[k] = o[k]) := HS.out.rest k hlt hkd (Nat.le_refl _)
        have hxl := HIN.out _ (List.getElem_mem hlt)
        rw [← HDK.out] at hxl
        have hcx := HS.out.c hkd
        obtain ⟨x, hx⟩ : ∃ x, d[k] = x := ⟨_, rfl⟩
        have HX := Lib.hid hx
        rw [hx] at hxl hcx
        have IA := pat_indexAt (c := c3) (A := some ⟨g, 0, none⟩) rfl hlt
        simp only [Nat.zero_add] at IA
        have RX : Hid (wr.rangeAt g (k * 3) x.cells) := fun j v hv => hcx j v hv
        obtain ⟨hbx, hX⟩ := pat_box wr x
        have HXB := Lib.hid (pat_range hX)
        have HS1 := Lib.hid (HS.out.on hbx)
        have u0 : (0 : Int) ≤ (k : Int) := by omega
        have u1 : (k : Int) < (o.length : Int) := by omega
        have HXL := Lib.hid hxl
        clear hcx hbx hX hx hxl HS HDK
        go_upto_region 5 with ((with_reducible refine wpList_load_patw (.tmp 17) g (k * 3) x RX.out ?_ ?_ ?_ ?_); rfl; rfl; rfl; simp only [Act.put, List.setIfInBounds_toArray, List.set_cons_zero, List.set_cons_succ])
        generalize (wr.alloc (.cells #[.string x.name, .slice x.a1 x.deps.length x.c1, .slice x.a2 x.ops.length x.c2] 35)) = wa at *
        generalize wr.heap.size = gx at *
        have CX := Lib.hid (pcopy_any x wa ((HD.out.on HS1.out.below).pats.2 x HXL.out) (by have := (HD.out.lt x HXL.out).few; omega) (by have := (HD.out.lt x HXL.out).many; omega) (dlt_copy (HD.out.lt x HXL.out)))
        clear RX
        -- @P2
        go_wp2_with ((with_reducible refine wpList_load_patw (.tmp 7) gx 0 x HXB.out ?_ ?_ ?_ ?_); rfl; rfl; rfl; simp only [Act.put, List.setIfInBounds_toArray, List.set_cons_zero, List.set_cons_succ])
        refine CX.out.mono ?_
        rintro e w5 ⟨z, rfl, hzk, hzo, hzf, hzx, hb5⟩
        have hS5 := HS1.out.on hb5
        have hge := hS5.blk.lt
        have hzg : z.Off g := hzx.out g (by have := HS1.out.blk.lt; exact this) ((HD.out.pats.2 x HXL.out).off HS1.out.ge).each
        have HN := Lib.hid (hS5.put hkd (z := z) (by rw [HX.out]; exact hzk.out) hzo hzg hzf.out)
        have HTR : Hid (w5.there g (k * 3) 3) := fun j hj => ⟨by
          have h1 := hS5.c hkd j ((patR.enc d[k])[j]'(by rw [patR.len]; exact hj)) (List.getElem?_eq_getElem _)
          rw [h1]
          rfl, hS5.blk.fz _⟩
        unfold Ptm.val Ptm.cells
        clear hb5 hS5 hzk hzo hzf hzx hzg CX HS1 HXB hge
        -- @P3
        go_wp2_with ((with_reducible refine wpList_store_patr ?_ (.tmp 23) (.tmp 22) ?_ g (k * 3) z ?_ ?_ HTR.out ?_); rfl; rfl; rfl; rfl; simp only [Act.put])
        go_roundw
        case rel => exact ⟨k + 1, d.set k z, by omega, by go_num, HN.out⟩
        case measure => simp [intOf]; omega
      · have HF : Hid (PatsLeft w (pkeys o) (.returned (.slice (some ⟨g, 0, none⟩) o.length c3)) wr) := by
          have hl := HS.out.len
          refine ⟨some ⟨g, 0, none⟩, c3, d, by rw [hl], HS.out.keys, ?_, ⟨HS.out.blk.row, fun x hx => (HS.out.each x hx).1⟩, fun x hx => (HS.out.each x hx).2.2, HS.out.below⟩
          exact (HS.out.blk.own (Nat.le_refl g)).parts.2.2.1
        clear HS
        go_wp2
        go_ret
        exact HF.out
end Go.Proofs.YtifkpelcdihdoaaGreatDoor
