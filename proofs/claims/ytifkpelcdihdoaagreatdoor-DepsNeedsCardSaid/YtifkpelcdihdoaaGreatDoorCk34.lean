/- Package deps: Order of the statements' two patches. -/
import Derived.Test.YtifkpelcdihdoaaGreatDoorProg
import Derived.WalkKit
import Derived.WalkSpells
import Derived.Handy
import Derived.Lib.Hide
import Derived.Shelf.Strings.BuilderK
import Derived.BigQuiet
import Derived.Deep.QuietTactic
import Derived.Lib.AtoiAllCases
import Derived.Lib.ItoaMem
import Derived.Test.YtifkpelcdihdoaaGreatDoorShelf
import Derived.Deep.RegionHeld3
import Derived.Deep.CutRange
import Derived.Lib.AppendIntMem
import Derived.BigRegion
import Derived.Deep.RegionWith
import Derived.Lib.QuietBelow
import Derived.Deep.MidRow
import Derived.StillTailTactics
import Derived.Deep.RegionLaw
import Derived.Test.YtifkpelcdihdoaaGreatDoorCk33
namespace Go.Proofs.YtifkpelcdihdoaaGreatDoor
open Go.RowKit
set_option linter.unusedVariables false
set_option pp.maxSteps 500

theorem Ptm.Ok.pastS {x : Ptm} {w w' : World} {ks : List Nat} (h : x.Ok w w.heap.size) (ho : ∀ G ∈ ks, x.Off G) (hg : Sv w w' ks) : x.Ok w' w'.heap.size := by
  have cell : ∀ {b i : Nat} {u : Value}, b < w.heap.size → b ∉ ks → w.cell? ⟨b, i, none⟩ = some u → w'.cell? ⟨b, i, none⟩ = some u := fun {b i u} hb hne hc => by
    have h2 := hg.block b hb hne
    unfold World.cell? at hc ⊢
    rw [h2]
    exact hc
  refine ⟨Strs.more (fun hp => ?_) hg.size, h.room1, ⟨Rk.Row.more (fun hp => ?_) hg.size, fun o hm => ?_⟩, h.room2⟩
  · obtain ⟨b, off, e, hlt, hc⟩ := h.deps hp
    have hne : b ∉ ks := fun hb => (ho b hb).deps b off (by rw [toBs_len] at hp; exact hp) e rfl
    exact ⟨b, off, e, hlt, fun j hj => cell hlt hne (hc j hj)⟩
  · obtain ⟨b, off, e, hlt, hc⟩ := h.ops.1 hp
    have hne : b ∉ ks := fun hb => (ho b hb).ops b off hp e rfl
    exact ⟨b, off, e, hlt, fun i u hu => cell hlt hne (hc i u hu)⟩
  · have hk := h.ops.2 o hm
    refine ⟨Rk.Row.more (fun hp => ?_) hg.size, hk.room1, Strs.more (fun hp => ?_) hg.size, hk.room2⟩
    · obtain ⟨b, off, e, hlt, hc⟩ := hk.dels hp
      have hne : b ∉ ks := fun hb => ((ho b hb).each o hm).1 b off hp e rfl
      exact ⟨b, off, e, hlt, fun i u hu => cell hlt hne (hc i u hu)⟩
    · obtain ⟨b, off, e, hlt, hc⟩ := hk.lines hp
      have hne : b ∉ ks := fun hb => ((ho b hb).each o hm).2 b off (by rw [toBs_len] at hp; exact hp) e rfl
      exact ⟨b, off, e, hlt, fun j hj => cell hlt hne (hc j hj)⟩
theorem Rk.Blk.sv {α : Type} {R : Rk α} {w w' : World} {g cap : Nat} {d : List α} {ks : List Nat} (h : R.Blk w g cap d) (k : Sv w w' ks) (hg : g ∉ ks) : R.Blk w' g cap d := by
  obtain ⟨⟨cur, h1, h2, h3⟩, h4, h5⟩ := h
  exact ⟨⟨cur, (k.block _ (Array.getElem?_eq_some_iff.1 h1).1 hg).trans h1, h2, h3⟩, h4, h5⟩
theorem Rk.Blk.ne {α β : Type} {R : Rk α} {S : Rk β} {w : World} {g cap h c : Nat} {d : List α} {e : List β} (a : R.Blk w g cap d) (b : S.Blk w h c e) (ht : R.ty ≠ S.ty) : g ≠ h := fun he => by
  subst he
  obtain ⟨⟨cur, h1, _, _⟩, _, _⟩ := a
  obtain ⟨⟨cur2, k1, _, _⟩, _, _⟩ := b
  rw [h1] at k1
  simp only [Option.some.injEq, Obj.cells.injEq] at k1
  exact ht k1.2.1
theorem Rk.Blk.ne_at {α : Type} {R : Rk α} {w : World} {g cap h : Nat} {d : List α} {cs : Array Value} {t : TypeId} {fr : Nat × Nat} (a : R.Blk w g cap d) (b : w.heap[h]? = some (.cells cs t fr)) (ht : R.ty ≠ t) : g ≠ h := fun he => by
  subst he
  obtain ⟨⟨cur, h1, _, _⟩, _, _⟩ := a
  rw [h1] at b
  simp only [Option.some.injEq, Obj.cells.injEq] at b
  exact ht b.2.1
theorem Rk.Blk.ne_map {α : Type} {R : Rk α} {w : World} {g cap b m : Nat} {d : List α} {f : ByteArray → Option Value} (a : R.Blk w g cap d) (h : StrMap w b m f) : g ≠ b := by
  obtain ⟨⟨cur, h1, _, _⟩, _, _⟩ := a
  exact (h.ne_cells h1).symm
/-- How many are in a row. -/
def lenV : Value → Nat
  | .slice _ n _ => n
  | _ => 0
def sRow (Q : List PatK) (w wr : World) (G c : Nat) (d : List Ptm) : Prop := patR.Blk wr G c d ∧ w.heap.size ≤ G ∧ pkeys d = Q ∧ ∀ z ∈ d, z.Ok wr wr.heap.size ∧ z.Off G ∧ OpsFew z.ops
section
variable {w W W' : World} {gl gm gu gw bl bu bw ml mu : Nat} {S : Value} {fl fu : ByteArray → Option Value} {n0 n1 : Int}
theorem Com0.sv (h : Com0 w W gl gm gu gw bl bu bw S fl fu ml mu n0 n1) {k : Nat} (hs : Sv W W' [k]) (hk : ∀ b ∈ [gl, gm, gu, gw, bl, bu, bw], b ≠ k) (hge : w.heap.size ≤ k) : Com0 w W' gl gm gu gw bl bu bw S fl fu ml mu n0 n1 := by
  have ne : ∀ b ∈ [gl, gm, gu, gw, bl, bu, bw], b ∉ [k] := fun b hb hm => hk b hb (List.mem_singleton.1 hm)
  exact ⟨Boxed.sv h.bl_ hs (ne _ (by simp)), Boxed.sv h.bm_ hs (ne _ (by simp)), Boxed.sv h.bu_ hs (ne _ (by simp)), Boxed.sv h.bv_ hs (ne _ (by simp)), StrMap.sv h.hl hs (ne _ (by simp)), StrMap.sv h.hu hs (ne _ (by simp)), (hs.block _ (Array.getElem?_eq_some_iff.1 h.vc).1 (ne _ (by simp))).trans h.vc, h.ne, h.ge, Sv.below h.b hs (fun g hg => by rw [List.mem_singleton.1 hg]; exact hge)⟩
theorem Com0.apart (h : Com0 w W gl gm gu gw bl bu bw S fl fu ml mu n0 n1) {α : Type} {R : Rk α} {k cap : Nat} {d : List α} (hb : R.Blk W k cap d) (h1 : R.ty ≠ 22) (h2 : R.ty ≠ 88) (h3 : R.ty ≠ 89) (h4 : R.ty ≠ 59) (h5 : bw ≠ k) : ∀ b ∈ [gl, gm, gu, gw, bl, bu, bw], b ≠ k := fun b hm => by
  simp only [List.mem_cons, List.not_mem_nil, or_false] at hm
  rcases hm with rfl | rfl | rfl | rfl | rfl | rfl | rfl
  · exact (hb.ne_at h.bl_ h1).symm
  · exact (hb.ne_at h.bm_ h2).symm
  · exact (hb.ne_at h.bu_ h3).symm
  · exact (hb.ne_at h.bv_ h4).symm
  · exact (hb.ne_map h.hl).symm
  · exact (hb.ne_map h.hu).symm
  · exact h5
theorem Com0.lts (h : Com0 w W gl gm gu gw bl bu bw S fl fu ml mu n0 n1) : bl < W.heap.size ∧ bw < W.heap.size := ⟨StrMap.lt h.hl, (Array.getElem?_eq_some_iff.1 h.vc).1⟩
end
set_option maxHeartbeats 8000000 in
set_option maxRecDepth 100000 in
theorem dorder_any (A : Option Addr) (l : List Ptm) (c : Nat) (w : World) (hd : DepIn w A l c) (hk : pkeys l = [awB, awA]) :
    Calls Tryz.prog 19 #[.slice A l.length c] w (PatsLeft w [awA, awB]) := by
  obtain ⟨x, y, rfl, hx, hy⟩ := aw_two hk
  have HD := Lib.hid hd
  have HW := Lib.hid (aw_of hx hy)
  have HKX := Lib.hid hx
  have HKY := Lib.hid hy
  have C := Lib.hid (ppclone_any A [x, y] c w hd.pats.1 hd.room (by simp))
  clear hd hk hx hy
  show Calls Tryz.prog 19 #[.slice A 2 c] w _
  have C : Hid (Calls Tryz.prog 34 #[.slice A 2 c] w fun e w' => ∃ A' c', e = .returned (.slice A' 2 c') ∧ patR.Own w' w.heap.size (.slice A' 2 c') [x, y] ∧ Below w.heap.size w w') := C.out
  go_enter Tryz.func19, Tryz.ntmps19
  go_wp2_with fail
  refine C.out.mono ?_
  rintro e w1 ⟨A1, c1, rfl, ho, hb1⟩
  rcases Rk.own_cases ho with ⟨e, h0⟩ | ⟨g, cap, e, hBg, hblk⟩
  · cases h0
  simp only [Value.slice.injEq] at e
  obtain ⟨rfl, -, rfl⟩ := e
  have C2 := Lib.hid (psortstable_two g c1 x y w1 hblk _ rfl (by rw [HW.out.xn, HW.out.yn]; decide))
  have HG := Lib.hid hBg
  have HB1 := Lib.hid hb1
  clear C ho hblk hBg hb1
  go_wp2_with fail
  refine C2.out.mono ?_
  rintro e w2 ⟨rfl, hk2, hg2⟩
  have HB2 : Hid (Below w.heap.size w w2) := HB1.out.grown hg2 HB1.out.size (fun q hq => by cases hq; exact HG.out)
  have HK2 := Lib.hid hk2
  have C3 := Lib.hid (dcomer_any g c1 x y w2 hk2 HW.out ((HD.out.on HB2.out).pats.2 x (by simp)) ⟨by have := (HD.out.inn x (by simp)).name; omega, by have := (HD.out.inn y (by simp)).name; omega⟩)
  clear C2 hk2 hg2 HB1
  -- @P1
  go_wp2_with fail
  refine C3.out.mono ?_
  rintro e w3 ⟨f0, cf, u0, cu, b3, b4, b5, b0, b1, b2, rfl, hc3, hf3, hf0, hu3⟩
  have HC3 := Lib.hid hc3
  have HF3 := Lib.hid hf3
  have HF0 := Lib.hid hf0
  have HU3 := Lib.hid hu3
  have HK3 := Lib.hid (HK2.out.on hc3.b)
  have HB3 := Lib.hid (HB2.out.trans (hc3.b.mono HB2.out.size))
  clear hc3 hf3 hf0 hu3 C3
  go_wp2_with fail
  -- @P2
  have hlx : x.name = toB [98] := bytes_inj (by rw [of_toB, HW.out.xn])
  have hly : y.name = toB [97] := HW.out.y_is.symm
  have HLX := Lib.hid hlx
  have HLY := Lib.hid hly
  clear hlx hly
  go_loopw [4, 6] (fun v4 v6 wr => (v4 = .slice (some ⟨f0, 0, none⟩) 1 cf ∧ v6 = .slice none 0 0 ∧ wr = w3) ∨
    (∃ rb ro rc G cc z fl, v4 = .slice (some ⟨rb, ro, none⟩) 1 rc ∧ v6 = .slice (some ⟨G, 0, none⟩) 1 cc ∧ Hid (1 ≤ rc) ∧ Hid (wr.cell? ⟨rb, ro, none⟩ = some (.int .i64 1)) ∧ Hid (Com0 w2 wr w2.heap.size b3 b4 b5 b0 b1 b2 (.slice (some ⟨g, 0, none⟩) 2 c1) fl (fun t => if t = toB [97] then some (.slice (some ⟨u0, 0, none⟩) 1 cu) else none) 3 1 0 0) ∧ Hid (fl (toB [98]) = some (.int .i64 1)) ∧ Hid (patR.Blk wr g c1 [y, x] ∧ g ≠ G) ∧ Hid (sRow [awA] w2 wr G cc [z]) ∧ Hid (z.Off b0 ∧ z.Off b2)) ∨
    (∃ A4 c4 G cc z z2, v4 = .slice A4 0 c4 ∧ v6 = .slice (some ⟨G, 0, none⟩) 2 cc ∧ Hid (sRow [awA, awB] w2 wr G cc [z, z2]) ∧ Hid (Below w.heap.size w wr))) (fun _ v6 _ => 2 - lenV v6)
  case atStart => exact .inl ⟨rfl, rfl, rfl⟩
  case round =>
    rcases hrel with ⟨rfl, rfl, rfl⟩ | ⟨rb, ro, rc, G, cc, z, fl, rfl, rfl, HRC, HRV, HC, HFL, HKG, HS, HZ⟩ | ⟨A4, c4, G, cc, z, z2, rfl, rfl, HS, HB⟩
    · have cf0 : wr.cell? ⟨f0, 0, none⟩ = some (.int .i64 0) := HF3.out.cell (j := 0) (by simp) (r := 0) rfl
      obtain ⟨o', ho', hsl⟩ := irest f0 0 cf HF3.out.len
      have HO' := Lib.hid (ho' rfl)
      have hsw := hsl wr
      have RX := pat_rng (w := wr) (b := g) (o := 0) (k := 0) (x := y) (fun r u hu => by rw [Nat.zero_add]; exact HK3.out.cell (j := 0) (by simp) hu)
      simp only [Nat.zero_mul, Nat.add_zero] at RX
      have RX := Lib.hid RX
      have IA : ∀ W : World, (Instr.indexAt 22 (.slice (some ⟨g, 0, none⟩) 2 c1) (.int .i64 0)).run Tryz.prog W = .ok (.pointer (some ⟨g, 0, none⟩)) W := fun W => pat_indexAt (c := c1) (n := 2) (k := 0) (A := some ⟨g, 0, none⟩) rfl (by decide) W
      have CX := Lib.hid (pcopy_any y wr ((HD.out.on HB3.out).pats.2 y (by simp)) (by rw [HW.out.yd]; decide) (by rw [HW.out.yo]; decide) (by rw [HW.out.yo]; intro o ho; cases ho))
      clear ho' hsl
      -- @P3
      go_wp2_with ((with_reducible refine wpList_load_patw (.tmp 32) g 0 y RX.out ?_ ?_ ?_ ?_); rfl; rfl; rfl; simp only [Act.put, List.setIfInBounds_toArray, List.set_cons_zero, List.set_cons_succ])
      refine CX.out.mono ?_
      rintro e w5 ⟨z, rfl, hzk, hzo, hzf, hzx, hb5⟩
      have HZK := Lib.hid (hzk.out.trans HKY.out)
      have HZO := Lib.hid hzo
      have HZF := hzf
      have HZX : Hid (z.Off b0 ∧ z.Off b2 ∧ z.Off f0) := by
        have hnil : ∀ G, ∀ o ∈ y.ops, o.Off G := fun G o ho => by rw [HW.out.yo] at ho; cases ho
        have hl := HC3.out.lts
        exact ⟨hzx.out b0 hl.1 (hnil _), hzx.out b2 hl.2 (hnil _), hzx.out f0 HF3.out.lt (hnil _)⟩
      have HC5 := Lib.hid (HC3.out.on hb5)
      have HF5 := Lib.hid (HF3.out.on hb5)
      have HU5 := Lib.hid (HU3.out.on hb5)
      have HK5 := Lib.hid (HK3.out.on hb5)
      have hba : Below w5.heap.size w5 (w5.alloc (.cells #[.string z.name, .slice z.a1 z.deps.length z.c1, .slice z.a2 z.ops.length z.c2] 35)) := below_box _
      have HRW : Hid (patR.Row (w5.alloc (.cells #[.string z.name, .slice z.a1 z.deps.length z.c1, .slice z.a2 z.ops.length z.c2] 35)) (w5.alloc (.cells #[.string z.name, .slice z.a1 z.deps.length z.c1, .slice z.a2 z.ops.length z.c2] 35)).heap.size (some ⟨w5.heap.size, 0, none⟩) [z]) := (Rk.At.new_ (R := patR) w5 z).row
      have HC6 := Lib.hid (HC5.out.on hba)
      have HF6 := Lib.hid (HF5.out.on hba)
      have HU6 := Lib.hid (HU5.out.on hba)
      have HK6 := Lib.hid (HK5.out.on hba)
      have HZO6 := Lib.hid (HZO.out.on hba)
      have hsz := hba.size
      have hgw : g < w5.heap.size := HK5.out.lt
      unfold Ptm.val Ptm.cells
      clear hzk hzo hzf hzx hb5 CX RX hba HF5 HU5 HK5 cf0 hsw
      -- @P4
      go_wp2_with (at_builtin; refine patR.wpList_append_at rfl _ _ rfl w5.heap.size (.slice none 0 0) [] [z] rfl (Rk.Own.nil _ _) (some ⟨w5.heap.size, 0, none⟩) 1 1 rfl rfl (fun e => by cases e) HRW.out hsz (by simp) 1 rfl ?_)
      rintro A6 c6 w6 ho hg hbl
      rcases Rk.own_cases ho with ⟨e, h0⟩ | ⟨G, cap0, e, hBG, hblk⟩
      · cases h0
      simp only [Value.slice.injEq] at e
      obtain ⟨rfl, -, rfl⟩ := e
      have hbn := below_none hg
      have HC7 := Lib.hid (HC6.out.on hbn)
      have HF7 := Lib.hid (HF6.out.on hbn)
      have HK7 := Lib.hid (HK6.out.on hbn)
      have HZO7 := Lib.hid (HZO6.out.on hbn)
      have HG7 := Lib.hid hblk
      have HGE : Hid (w2.heap.size ≤ G ∧ g ≠ G ∧ z.Off G) := ⟨Nat.le_trans HC5.out.b.size hBG, by omega, HZO.out.off hBG⟩
      have CN := Lib.hid (dnow_first w2 w6 g c1 x y HK7.out HLY.out HC7.out (HU6.out.on hbn))
      clear ho hg hbl hblk hBG hbn HC6 HF6 HU6 HK6 HZO6 HRW hsz hgw HZO HC5
      -- @P5
      go_wp2_with fail
      refine CN.out.mono ?_
      rintro e w7 ⟨k0, ck, fl, rfl, hk7, hk0, hc7, hfl, hs7⟩
      have ne0 : ∀ k ∈ [b0, b2], k ∉ [b0, b2] → False := fun k h1 h2 => h2 h1
      have HF8 := Lib.hid (HF7.out.sv hs7 (fun hm => by
        simp only [List.mem_cons, List.not_mem_nil, or_false] at hm
        rcases hm with h | h
        · exact HF7.out.ne_map HC7.out.hl h
        · exact HF0.out.2 h))
      have HK8 := Lib.hid (HK7.out.sv hs7 (fun hm => by
        simp only [List.mem_cons, List.not_mem_nil, or_false] at hm
        rcases hm with h | h
        · exact HK7.out.ne_map HC7.out.hl h
        · exact HK7.out.ne_at HC7.out.vc (by decide) h))
      have HG8 := Lib.hid (HG7.out.sv hs7 (fun hm => by
        simp only [List.mem_cons, List.not_mem_nil, or_false] at hm
        rcases hm with h | h
        · exact HG7.out.ne_map HC7.out.hl h
        · exact HG7.out.ne_at HC7.out.vc (by decide) h))
      have HZO8 := Lib.hid (HZO7.out.pastS (ks := [b0, b2]) (fun k hm => by
        simp only [List.mem_cons, List.not_mem_nil, or_false] at hm
        rcases hm with rfl | rfl
        · exact HZX.out.1
        · exact HZX.out.2.1) hs7)
      have HC8 := Lib.hid hc7
      have HFL8 := Lib.hid hfl
      have ck0 : w7.cell? ⟨k0, 0, none⟩ = some (.int .i64 1) := hk7.cell (j := 0) (by simp) (r := 0) rfl
      clear hk7 hk0 hc7 hfl hs7 CN HF7 HK7 HG7 HZO7 HC7 ne0
      -- @P6
      go_wp2_with fail
      refine wp_loop_rounds 2 ?_
      rw [rounds_succ]
      go_wp2_with fail
      refine (ibs_empty _ _ _ _).mono ?_
      rintro e w8 ⟨rfl, hw⟩
      subst hw
      have hfa := HF8.out.on (below_box (t := 3) #[.int .i64 1])
      have hva : (w8.alloc (.cells #[.int .i64 1] 3)).cell? ⟨w8.heap.size, 0, none⟩ = some (.int .i64 1) := by
        rw [World.cell?_alloc_new]
        rfl
      have hcf : 1 ≤ cf := HF8.out.len
      have CI := Lib.hid (iinsert_rest f0 o' cf (cf - 1) w8.heap.size 1 1 _ hfa (by omega) HO'.out hva)
      have HFA := Lib.hid hfa
      clear hfa hva hcf ck0
      -- @P7
      go_wp2_with fail
      refine CI.out.mono ?_
      rintro e w9 ⟨rb, ro, rc, rfl, hrv, hg9, hrc⟩
      have hs9 : Sv (w8.alloc (.cells #[.int .i64 1] 3)) w9 [f0] := Sv.one hg9 (by simp)
      have HC9 := Lib.hid ((HC8.out.on (below_box _)).sv hs9 (Com0.apart (HC8.out.on (below_box _)) HFA.out (by decide) (by decide) (by decide) (by decide) HF0.out.2.symm) HF0.out.1)
      have HK9 : Hid (patR.Blk w9 g c1 [y, x] ∧ g ≠ G) := ⟨(HK8.out.on (below_box _)).sv hs9 (fun hm => by
        rw [List.mem_singleton] at hm
        exact (HK8.out.on (below_box _)).ne HFA.out (by decide) hm), HGE.out.2.1⟩
      have HS9 : Hid (sRow [awA] w2 w9 G c6 [z]) := ⟨(HG8.out.on (below_box _)).sv hs9 (fun hm => by
        rw [List.mem_singleton] at hm
        exact (HG8.out.on (below_box _)).ne HFA.out (by decide) hm), HGE.out.1, congrArg (fun k => [k]) HZK.out, fun u hu => by
        obtain rfl := List.mem_singleton.1 hu
        exact ⟨(HZO8.out.on (below_box _)).pastS (ks := [f0]) (fun k hm => by rw [List.mem_singleton.1 hm]; exact HZX.out.2.2) hs9, HGE.out.2.2, HZF.out⟩⟩
      have HRV9 := Lib.hid hrv
      have HRC9 := Lib.hid hrc
      clear hrv hg9 hrc hs9 CI HC8 HK8 HG8 HZO8 HFA HF8
      go_wp2_with fail
      rw [rounds_succ]
      go_wp2_with fail
      go_roundw
      case rel => exact .inr (.inl ⟨rb, ro, rc, G, _, z, fl, rfl, rfl, HRC9.out, HRV9.out, HC9.out, HFL8.out, HK9.out, HS9.out, HZX.out.1, HZX.out.2.1⟩)
      case measure => simp [lenV]
    · clear HC3 HF3 HU3 HK3 HB3 HF0
      have HBr : Hid (Below w.heap.size w wr) := HB2.out.trans (HC.out.b.mono HB2.out.size)
      obtain ⟨o', -, hsl⟩ := irest rb ro rc HRC.out
      have hsw := hsl wr
      have crv := HRV.out
      have RX := pat_rng (w := wr) (b := g) (o := 0) (k := 1) (x := x) (fun r u hu => by rw [Nat.zero_add]; exact HKG.out.1.cell (j := 1) (by simp) hu)
      simp only [Nat.one_mul, Nat.zero_add] at RX
      have RX := Lib.hid RX
      have IA : ∀ W : World, (Instr.indexAt 22 (.slice (some ⟨g, 0, none⟩) 2 c1) (.int .i64 1)).run Tryz.prog W = .ok (.pointer (some ⟨g, 3, none⟩)) W := fun W => pat_indexAt (c := c1) (n := 2) (k := 1) (A := some ⟨g, 0, none⟩) rfl (by decide) W
      have CX := Lib.hid (pcopy_any x wr ((HD.out.on HBr.out).pats.2 x (by simp)) (by rw [HW.out.xd]; decide) (by rw [HW.out.xo]; decide) (by rw [HW.out.xo]; intro o ho; cases ho))
      clear hsl
      -- @P8
      go_wp2_with ((with_reducible refine wpList_load_patw (.tmp 32) g 3 x RX.out ?_ ?_ ?_ ?_); rfl; rfl; rfl; simp only [Act.put, List.setIfInBounds_toArray, List.set_cons_zero, List.set_cons_succ])
      refine CX.out.mono ?_
      rintro e w5 ⟨z2, rfl, hzk, hzo, hzf, hzx, hb5⟩
      have hnil : ∀ G, ∀ o ∈ x.ops, o.Off G := fun G o ho => by rw [HW.out.xo] at ho; cases ho
      have hl := HC.out.lts
      have HZ2 : Hid (z2.Off b0 ∧ z2.Off b2 ∧ z2.Off G) := ⟨hzx.out b0 hl.1 (hnil _), hzx.out b2 hl.2 (hnil _), hzx.out G HS.out.1.lt (hnil _)⟩
      have HZK := Lib.hid (hzk.out.trans HKX.out)
      have HZF := hzf
      have hba : Below w5.heap.size w5 (w5.alloc (.cells #[.string z2.name, .slice z2.a1 z2.deps.length z2.c1, .slice z2.a2 z2.ops.length z2.c2] 35)) := below_box _
      have HRW : Hid (patR.Row (w5.alloc (.cells #[.string z2.name, .slice z2.a1 z2.deps.length z2.c1, .slice z2.a2 z2.ops.length z2.c2] 35)) (w5.alloc (.cells #[.string z2.name, .slice z2.a1 z2.deps.length z2.c1, .slice z2.a2 z2.ops.length z2.c2] 35)).heap.size (some ⟨w5.heap.size, 0, none⟩) [z2]) := (Rk.At.new_ (R := patR) w5 z2).row
      have HC6 := Lib.hid ((HC.out.on hb5).on hba)
      have HK6 := Lib.hid ((HKG.out.1.on hb5).on hba)
      have HG6 := Lib.hid ((HS.out.1.on hb5).on hba)
      have HOWN : Hid (patR.Own (w5.alloc (.cells #[.string z2.name, .slice z2.a1 z2.deps.length z2.c1, .slice z2.a2 z2.ops.length z2.c2] 35)) w2.heap.size (.slice (some ⟨G, 0, none⟩) 1 cc) [z]) := HG6.out.own HS.out.2.1
      have HZO6 := Lib.hid (((HS.out.2.2.2 z (by simp)).1.on hb5).on hba)
      have HZT6 := Lib.hid (hzo.on hba)
      have hsz : w2.heap.size ≤ (w5.alloc (.cells #[.string z2.name, .slice z2.a1 z2.deps.length z2.c1, .slice z2.a2 z2.ops.length z2.c2] 35)).heap.size := HC6.out.b.size
      unfold Ptm.val Ptm.cells
      clear hzk hzo hzf hzx hb5 CX RX hba hnil hl hsw crv
      -- @P9
      go_wp2_with (at_builtin; refine patR.wpList_append_at rfl _ _ rfl w2.heap.size (.slice (some ⟨G, 0, none⟩) 1 cc) [z] [z2] rfl HOWN.out (some ⟨w5.heap.size, 0, none⟩) 1 1 rfl rfl (fun e => by cases e) HRW.out hsz (by simp) 2 rfl ?_)
      rintro A6 c6 w6 ho hg hbl
      rcases Rk.own_cases ho with ⟨e, h0⟩ | ⟨G2, cap0, e, hBG, hblk⟩
      · cases h0
      simp only [Value.slice.injEq] at e
      obtain ⟨rfl, -, rfl⟩ := e
      have hblk : patR.Blk w6 G2 c6 [z, z2] := hblk
      have hsG : Sv (w5.alloc (.cells #[.string z2.name, .slice z2.a1 z2.deps.length z2.c1, .slice z2.a2 z2.ops.length z2.c2] 35)) w6 [G] := Sv.one hg (by simp)
      have hoff : ∀ u : Ptm, u.Off G → u.Ok (w5.alloc (.cells #[.string z2.name, .slice z2.a1 z2.deps.length z2.c1, .slice z2.a2 z2.ops.length z2.c2] 35)) (w5.alloc (.cells #[.string z2.name, .slice z2.a1 z2.deps.length z2.c1, .slice z2.a2 z2.ops.length z2.c2] 35)).heap.size → u.Off G2 := fun u h1 h2 => by
        rcases hbl with h | h
        · simp only [Value.ownBlock, Option.some.injEq] at h
          rw [h]
          exact h1
        · simp only [Value.ownBlock, Option.some.injEq] at h
          exact h2.off (by rw [World.size_alloc]; omega)
      have hzG := (HS.out.2.2.2 z (by simp)).2.1
      have HOF : Hid (z.Off G2 ∧ z2.Off G2 ∧ OpsFew z.ops ∧ z.key = awA) := ⟨hoff z hzG HZO6.out, hoff z2 HZ2.out.2.2 HZT6.out, (HS.out.2.2.2 z (by simp)).2.2, by have h := HS.out.2.2.1; simpa [pkeys] using h⟩
      have HC7 := Lib.hid (HC6.out.sv hsG (Com0.apart HC6.out HG6.out (by decide) (by decide) (by decide) (by decide) (HG6.out.ne_at HC6.out.vc (by decide)).symm) HS.out.2.1)
      have HK7 := Lib.hid (HK6.out.sv hsG (fun hm => HKG.out.2 (List.mem_singleton.1 hm)))
      have HZO7 := Lib.hid (HZO6.out.pastS (ks := [G]) (fun k hm => by rw [List.mem_singleton.1 hm]; exact hzG) hsG)
      have HZT7 := Lib.hid (HZT6.out.pastS (ks := [G]) (fun k hm => by rw [List.mem_singleton.1 hm]; exact HZ2.out.2.2) hsG)
      have HG7 : Hid (patR.Blk w6 G2 c6 [z, z2] ∧ w2.heap.size ≤ G2) := ⟨hblk, hBG⟩
      have CN := Lib.hid (dnow_last w2 w6 g c1 x y HK7.out HLX.out HC7.out HFL.out)
      clear ho hg hbl hblk hBG hsG hoff hzG HC6 HK6 HG6 HOWN HZO6 HZT6 HRW hsz
      go_wp2_with fail
      refine CN.out.mono ?_
      rintro e w7 ⟨rfl, hs7⟩
      have HS8 : Hid (sRow [awA, awB] w2 w7 G2 c6 [z, z2]) := ⟨HG7.out.1.sv hs7 (fun hm => by
        simp only [List.mem_cons, List.not_mem_nil, or_false] at hm
        rcases hm with h | h
        · exact HG7.out.1.ne_map HC7.out.hl h
        · exact HG7.out.1.ne_at HC7.out.vc (by decide) h), HG7.out.2, by show [z.key, z2.key] = _; rw [HOF.out.2.2.2, HZK.out], fun u hu => by
        simp only [List.mem_cons, List.not_mem_nil, or_false] at hu
        rcases hu with rfl | rfl
        · exact ⟨HZO7.out.pastS (ks := [b0, b2]) (fun k hm => by
            simp only [List.mem_cons, List.not_mem_nil, or_false] at hm
            rcases hm with rfl | rfl
            · exact HZ.out.1
            · exact HZ.out.2) hs7, HOF.out.1, HOF.out.2.2.1⟩
        · exact ⟨HZT7.out.pastS (ks := [b0, b2]) (fun k hm => by
            simp only [List.mem_cons, List.not_mem_nil, or_false] at hm
            rcases hm with rfl | rfl
            · exact HZ2.out.1
            · exact HZ2.out.2.1) hs7, HOF.out.2.1, HZF.out⟩⟩
      have HB8 : Hid (Below w.heap.size w w7) := Sv.below (HB2.out.trans (HC7.out.b.mono HB2.out.size)) hs7 (fun k hm => by
        simp only [List.mem_cons, List.not_mem_nil, or_false] at hm
        have h1 := HC7.out.ges
        have h2 := HB2.out.size
        rcases hm with rfl | rfl <;> omega)
      clear hs7 CN HC7 HK7 HG7 HZO7 HZT7
      -- @P10
      go_wp2_with fail
      refine wp_loop_rounds 1 ?_
      rw [rounds_succ]
      go_wp2_with fail
      go_roundw
      case rel => exact .inr (.inr ⟨_, _, G2, _, z, z2, rfl, rfl, HS8.out, HB8.out⟩)
      case measure => simp [lenV]
    · clear HC3 HF3 HU3 HK3 HB3 HF0
      -- @P11
      go_wp2
      go_ret
      exact ⟨some ⟨G, 0, none⟩, cc, [z, z2], rfl, HS.out.2.2.1, (HS.out.1.own (Nat.le_refl G)).parts.2.2.1, ⟨HS.out.1.row, fun u hu => (HS.out.2.2.2 u hu).1⟩, fun u hu => (HS.out.2.2.2 u hu).2.2, HB.out⟩
end Go.Proofs.YtifkpelcdihdoaaGreatDoor
