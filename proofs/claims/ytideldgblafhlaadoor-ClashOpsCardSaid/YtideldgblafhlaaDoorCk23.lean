/- ClashOps: why any two operations clash, both ways the same. -/
import Derived.Lib.SlicesCompact
import Derived.Test.YtideldgblafhlaaDoorShelf
import Derived.BigQuiet
import Derived.Deep.QuietTactic
import Derived.Test.YtideldgblafhlaaDoorProg
import Derived.WalkKit
import Derived.WalkSpells
import Derived.Handy
import Derived.Lib.Hide
import Derived.Shelf.Strings.BuilderK
import Derived.Deep.CutRange
import Derived.Test.YtideldgblafhlaaDoorCk22
namespace Go.Proofs.YtideldgblafhlaaDoor
open Go.RowKit
set_option linter.unusedVariables false

theorem places_get (x : Om) (k : Nat) (h : k < (placesT x).length) (h2 : k < (plO x).length) : (placesT x)[k] = (toB (textK (plO x)[k].dir.key), (plO x)[k].name) := by
  have h3 : k < (placesO x.key).length := by rw [← plO_keys, pls_len]; exact h2
  have h4 : (placesO x.key)[k] = (pls (plO x))[k]'(by rw [pls_len]; exact h2) := List.getElem_of_eq (plO_keys x).symm h3
  have e : (placesO x.key)[k] = (plO x)[k].key := by rw [h4]; simp [pls]
  have e2 : (placesT x)[k] = (toB (textK (placesO x.key)[k].1), toB (placesO x.key)[k].2) := by simp [placesT]
  rw [e2, e]
  simp [Plm.key, toB_of]
theorem plO_short {x : Om} (h : x.Lt) : ∀ p ∈ plO x, p.dir.p.size ≤ 1000000 := fun p hp => by
  have h1 := h.parent
  have h2 := h.dst
  unfold plO at hp
  split at hp
  · simp at hp
  · split at hp
    · rcases List.mem_cons.1 hp with rfl | hp
      · exact Nat.le_trans h1 (by decide)
      · rcases List.mem_cons.1 hp with rfl | hp
        · exact Nat.le_trans h2 (by decide)
        · simp at hp
    · rcases List.mem_cons.1 hp with rfl | hp
      · exact Nat.le_trans h1 (by decide)
      · simp at hp
set_option maxHeartbeats 8000000 in
set_option maxRecDepth 100000 in
theorem clashops_any (c : ClashC) (aw : AwC) (x y : Om) (w : World) (ox : x.Ok w w.heap.size) (oy : y.Ok w w.heap.size) (ix : x.In) (iy : y.In) (mx : x.Mz) (my : y.Mz) (hT : Tabs w) (hN : Nums w) :
    Calls Tryd.prog 3 #[x.val, y.val] w fun e w' => e = .returned (.bool true) ∧ Below w.heap.size w w' := by
  have HC := Lib.hid c
  have HAW := Lib.hid aw
  obtain ⟨hb, hx, hy⟩ := op_box2 w x y
  have HX := Lib.hid hx
  have HY := Lib.hid hy
  have HB := Lib.hid hb
  have OX := Lib.hid (ox.on hb)
  have OY := Lib.hid (oy.on hb)
  have HT := Lib.hid (Tabs.on hT hb)
  have HN := Lib.hid (hN.on hb)
  clear hb hx hy ox oy hT hN c aw
  unfold Om.val Om.cells
  go_enter Tryd.func3, Tryd.ntmps3
  go_upto_region 1 with (fail)
  generalize ((w.alloc (.cells #[.int .i64 x.kind, .string x.self.p, .int .i64 x.self.n, .string x.parent.p, .int .i64 x.parent.n, .string x.dst.p, .int .i64 x.dst.n, .string x.name, .string x.dname, .string x.left.p, .int .i64 x.left.n, .string x.right.p, .int .i64 x.right.n, .slice x.a1 x.dels.length x.c1, .int .i64 x.first, .slice x.a2 x.lines.length x.c2] 27)).alloc (.cells #[.int .i64 y.kind, .string y.self.p, .int .i64 y.self.n, .string y.parent.p, .int .i64 y.parent.n, .string y.dst.p, .int .i64 y.dst.n, .string y.name, .string y.dname, .string y.left.p, .int .i64 y.left.n, .string y.right.p, .int .i64 y.right.n, .slice y.a1 y.dels.length y.c1, .int .i64 y.first, .slice y.a2 y.lines.length y.c2] 27)) = wb at *
  generalize (Value.agg #[.int .i64 x.kind, .string x.self.p, .int .i64 x.self.n, .string x.parent.p, .int .i64 x.parent.n, .string x.dst.p, .int .i64 x.dst.n, .string x.name, .string x.dname, .string x.left.p, .int .i64 x.left.n, .string x.right.p, .int .i64 x.right.n, .slice x.a1 x.dels.length x.c1, .int .i64 x.first, .slice x.a2 x.lines.length x.c2]) = vx
  generalize (Value.agg #[.int .i64 y.kind, .string y.self.p, .int .i64 y.self.n, .string y.parent.p, .int .i64 y.parent.n, .string y.dst.p, .int .i64 y.dst.n, .string y.name, .string y.dname, .string y.left.p, .int .i64 y.left.n, .string y.right.p, .int .i64 y.right.n, .slice y.a1 y.dels.length y.c1, .int .i64 y.first, .slice y.a2 y.lines.length y.c2]) = vy
  generalize hgy : w.heap.size + 1 = gy at HY ⊢
  generalize hgx : w.heap.size = gx at HX ⊢
  clear hgx hgy
  obtain ⟨hL, hOps⟩ := ops_two wb x y OX.out OY.out
  have CM := Lib.hid (lmay_any _ [x, y] 2 _ hOps (fun z hz => by
    have e : z = x ∨ z = y := by simpa using hz
    rcases e with rfl | rfl
    · exact ix
    · exact iy) (fun z hz => by
    have e : z = x ∨ z = y := by simpa using hz
    rcases e with rfl | rfl
    · exact mx
    · exact my) (by simp) (Tabs.on HT.out hL))
  have HL := Lib.hid hL
  clear hL hOps
  -- @P1
  go_wp2_with (first | ((with_reducible refine wpList_load_opw (.tmp 2) gx x HX.out ?_ ?_ ?_ ?_); rfl; rfl; rfl; simp only [Act.put, List.setIfInBounds_toArray, List.set_cons_zero, List.set_cons_succ, Om.val, Om.cells]) | ((with_reducible refine wpList_load_opw (.tmp 3) gy y HY.out ?_ ?_ ?_ ?_); rfl; rfl; rfl; simp only [Act.put, List.setIfInBounds_toArray, List.set_cons_zero, List.set_cons_succ, Om.val, Om.cells]) | fail)
  refine CM.out.mono ?_
  rintro e w1 ⟨r, rfl, hlt, hb0⟩
  have hb := HL.out.trans (hb0.mono HL.out.size)
  have HLT := Lib.hid hlt.out
  replace HX := Lib.hid (HX.out.on hb)
  replace HY := Lib.hid (HY.out.on hb)
  replace OX := Lib.hid (OX.out.on hb)
  replace OY := Lib.hid (OY.out.on hb)
  replace HT := Lib.hid (Tabs.on HT.out hb)
  replace HN := Lib.hid (HN.out.on hb)
  replace HB := Lib.hid (HB.out.trans (hb.mono HB.out.size))
  clear hlt hb0 hb CM HL
  generalize (Value.agg #[.int .i64 x.kind, .string x.self.p, .int .i64 x.self.n, .string x.parent.p, .int .i64 x.parent.n, .string x.dst.p, .int .i64 x.dst.n, .string x.name, .string x.dname, .string x.left.p, .int .i64 x.left.n, .string x.right.p, .int .i64 x.right.n, .slice x.a1 x.dels.length x.c1, .int .i64 x.first, .slice x.a2 x.lines.length x.c2]) = vx2
  generalize (Value.agg #[.int .i64 y.kind, .string y.self.p, .int .i64 y.self.n, .string y.parent.p, .int .i64 y.parent.n, .string y.dst.p, .int .i64 y.dst.n, .string y.name, .string y.dname, .string y.left.p, .int .i64 y.left.n, .string y.right.p, .int .i64 y.right.n, .slice y.a1 y.dels.length y.c1, .int .i64 y.first, .slice y.a2 y.lines.length y.c2]) = vy2
  cases r
  · go_wp2_with fail
    refine (HAW.out _ HT.out HN.out).mono ?_
    rintro e w2 ⟨rfl, hb⟩
    have HF := Lib.hid (HB.out.trans (hb.mono HB.out.size))
    clear hb HAW HT HN HX HY OX OY HB
    go_wp2
    go_ret
    exact ⟨rfl, HF.out⟩
  obtain ⟨_, hmay, hlt⟩ := HLT.out rfl
  have IX : Hid (OIn x w1) := ⟨OX.out, hmay x (by simp), hlt x (by simp), ix⟩
  have IY : Hid (OIn y w1) := ⟨OY.out, hmay y (by simp), hlt y (by simp), iy⟩
  have HSH : Hid (∀ p ∈ plO x, p.dir.p.size ≤ 1000000) := plO_short (hlt x (by simp))
  have NX : Hid (x.dels.length ≤ 1000000) := Nat.le_trans (hlt x (by simp)).few (by decide)
  have NY : Hid (y.dels.length ≤ 1000000) := Nat.le_trans (hlt y (by simp)).few (by decide)
  have CP : Hid (∀ W, Below w1.heap.size w1 W → Calls Tryd.prog 7 #[.agg #[.int .i64 x.kind, .string x.self.p, .int .i64 x.self.n, .string x.parent.p, .int .i64 x.parent.n, .string x.dst.p, .int .i64 x.dst.n, .string x.name, .string x.dname, .string x.left.p, .int .i64 x.left.n, .string x.right.p, .int .i64 x.right.n, .slice x.a1 x.dels.length x.c1, .int .i64 x.first, .slice x.a2 x.lines.length x.c2]] W (S2Left W (placesT x))) := fun W hW => HC.out.places x W (IX.out.on hW) (Tabs.on HT.out hW) (HN.out.on hW)
  have HDR : Hid (Below w1.heap.size w1 w1.drew) := (Below.refl _ _).drew
  clear hmay hlt HLT OX OY ix iy mx my
  -- @P2
  go_upto_region 3 with (fail)
  go_cut [5, 6] from 9 to 18 (fun v5 v6 wx => ∃ A1 c1 A2 c2, v5 = .slice A1 (placesT x).length c1 ∧ v6 = .slice A2 (plO x).length c2 ∧ Hid (s2R.Row wx wx.heap.size A1 (placesT x)) ∧ Hid (plR.Row wx wx.heap.size A2 (plO x)) ∧ Hid (Below w1.heap.size w1 wx))
  case first =>
    refine wp_region_noPanic ?_
    refine wp_region_held_drew (S := fun W => Below w1.heap.size w1 W) (by kernel_rfl) HDR.out (fun hHeld => ?_)
    refine wpAnyH_take (i := 0) (oi := { dst := some 15, op := _, type := _, pos := _, after := _, guard := _ }) (v := .agg #[.int .i64 x.kind, .string x.self.p, .int .i64 x.self.n, .string x.parent.p, .int .i64 x.parent.n, .string x.dst.p, .int .i64 x.dst.n, .string x.name, .string x.dname, .string x.left.p, .int .i64 x.left.n, .string x.right.p, .int .i64 x.right.n, .slice x.a1 x.dels.length x.c1, .int .i64 x.first, .slice x.a2 x.lines.length x.c2]) rfl (by kernel_rfl) (by kernel_rfl) (by kernel_rfl) (fun _ _ _ h => h) (yields_load_op (by rfl) (.tmp 2) rfl gx x rfl (fun W hW => HX.out.on hW)) (by assumption) ?_
    try simp only [Act.put, List.setIfInBounds_toArray, List.set_cons_zero, List.set_cons_succ]
    refine wpAnyH_take (i := 2) (oi := { dst := some 17, op := _, type := _, pos := _, after := _, guard := _ }) (v := .agg #[.int .i64 x.kind, .string x.self.p, .int .i64 x.self.n, .string x.parent.p, .int .i64 x.parent.n, .string x.dst.p, .int .i64 x.dst.n, .string x.name, .string x.dname, .string x.left.p, .int .i64 x.left.n, .string x.right.p, .int .i64 x.right.n, .slice x.a1 x.dels.length x.c1, .int .i64 x.first, .slice x.a2 x.lines.length x.c2]) rfl (by kernel_rfl) (by kernel_rfl) (by kernel_rfl) (fun _ _ _ h => h) (yields_load_op (by rfl) (.tmp 2) rfl gx x rfl (fun W hW => HX.out.on hW)) (by assumption) ?_
    try simp only [Act.put, List.setIfInBounds_toArray, List.set_cons_zero, List.set_cons_succ]
    have XD := Lib.hid HDR.out
    generalize hwD : w1.drew = wD at *
    clear hwD HDR
    refine wpAnyH_ready (rs := [1]) (by kernel_rfl) (by simp) ?_
    refine AllReadyH.cons rfl (fun K hK => ?_) AllReadyH.nil
    go_simp
    go_at_call 7
    refine (CP.out wD XD.out).mono ?_
    rintro e wk ⟨A1, c1, rfl, hr1, hb⟩
    have XK := Lib.hid (XD.out.trans (hb.mono XD.out.size))
    have R1 := Lib.hid hr1
    clear hb hr1
    refine hK.out _ _ XK.out (fun hHeld1 => ?_)
    clear hK K hHeld XD
    try simp only [Act.put, List.setIfInBounds_toArray, List.set_cons_zero, List.set_cons_succ]
    refine wpAnyH_ready (rs := [3]) (by kernel_rfl) (by simp) ?_
    refine AllReadyH.cons rfl (fun K hK => ?_) AllReadyH.nil
    go_simp
    go_at_call 8
    refine (refplaces_any x wk).mono ?_
    rintro e wj ⟨A2, c2, rfl, hr2, hb⟩
    have XJ := Lib.hid (XK.out.trans (hb.mono XK.out.size))
    have R2 := Lib.hid hr2
    replace R1 := Lib.hid (R1.out.on hb)
    clear hb hr2
    refine hK.out _ _ XJ.out (fun hHeld3 => ?_)
    clear hK K hHeld1 XK
    try simp only [Act.put, List.setIfInBounds_toArray, List.set_cons_zero, List.set_cons_succ]
    refine wpAnyH_take (i := 4) (oi := { dst := some 5, op := _, type := _, pos := _, after := _, guard := _ }) (v := .slice A1 (placesT x).length c1) rfl (by kernel_rfl) (by kernel_rfl) (by kernel_rfl) (fun _ _ _ h => h) (Or.inl ⟨by rfl, fun w' hSw => ?_⟩) (by assumption) ?_
    · (try dsimp only at hSw)
      go_simp
    try simp only [Act.put, List.setIfInBounds_toArray, List.set_cons_zero, List.set_cons_succ]
    refine wpAnyH_take (i := 5) (oi := { dst := some 6, op := _, type := _, pos := _, after := _, guard := _ }) (v := .slice A2 (plO x).length c2) rfl (by kernel_rfl) (by kernel_rfl) (by kernel_rfl) (fun _ _ _ h => h) (Or.inl ⟨by rfl, fun w' hSw => ?_⟩) (by assumption) ?_
    · (try dsimp only at hSw)
      go_simp
    try simp only [Act.put, List.setIfInBounds_toArray, List.set_cons_zero, List.set_cons_succ]
    refine wpAnyH_done (by kernel_rfl) ?_ _
    refine NoPanic.normal ?_
    go_wp2_with fail
    go_meet
    case rel => exact ⟨A1, c1, A2, c2, rfl, rfl, R1.out, R2.out, XJ.out⟩
  case rest =>
    obtain ⟨A1, c1, A2, c2, rfl, rfl, R1, R2, hcb⟩ := hcut
    obtain ⟨w2, hw2⟩ : ∃ z, z = wc := ⟨_, rfl⟩
    subst hw2
    have hb := hcb.out
    replace HX := Lib.hid (HX.out.on hb)
    replace HY := Lib.hid (HY.out.on hb)
    replace IX := Lib.hid (IX.out.on hb)
    replace IY := Lib.hid (IY.out.on hb)
    replace HT := Lib.hid (Tabs.on HT.out hb)
    replace HN := Lib.hid (HN.out.on hb)
    replace HB := Lib.hid (HB.out.trans (hb.mono HB.out.size))
    have hn0 := placesT_len x
    obtain ⟨n, hn⟩ : ∃ n, (plO x).length = n := ⟨_, rfl⟩
    rw [hn] at hn0
    have hn2 : n ≤ 2 := by rw [← hn]; exact plO_two x
    have HGET : Hid (∀ (k : Nat) (h : k < (placesT x).length) (h2 : k < (plO x).length), (placesT x)[k] = (toB (textK (plO x)[k].dir.key), (plO x)[k].name)) := fun k h h2 => places_get x k h h2
    rw [hn0, hn]
    have HN0 := Lib.hid hn0
    have HN1 := Lib.hid hn
    have HG0 : Hid (Below w2.heap.size w2 w2) := Below.refl _ _
    clear hb hcb CP HDR hn0 hn
    generalize placesT x = lt at *
    generalize plO x = lp at *
    -- @P3
    go_wp2
    go_loopw [7] (fun i wr => ∃ k : Nat, k ≤ n ∧ i = .int .i64 (k : Int) ∧ Hid (Below w2.heap.size w2 wr)) (fun i _ => n - (intOf i).toNat)
    case atStart => exact ⟨0, Nat.zero_le _, rfl, HG0.out⟩
    case round =>
      clear HG0
      obtain ⟨k, hk, rfl, HG⟩ := hrel
      by_cases hlt : k < n
      · have k1 : k < lt.length := by have := HN0.out; omega
        have k2 : k < lp.length := by have := HN1.out; omega
        have u1 : (k : Int) < (n : Int) := by omega
        have u0 : (0 : Int) ≤ (k : Int) := by omega
        obtain ⟨b1, o1, e1, _, hr1⟩ := s2_get (R1.out.on HG.out) k1
        obtain ⟨b2, o2, e2, _, d0, d1, d2⟩ := pls_get (R2.out.on HG.out) k2
        have I1 := s2_indexAt (n := n) (c := c1) e1 hlt
        have I2 := pl_indexAt (n := n) (c := c2) e2 hlt
        obtain ⟨p, hp⟩ : ∃ p, lp[k] = p := ⟨_, rfl⟩
        have hg := HGET.out k k1 k2
        rw [hp] at hg d0 d1 d2
        rw [hg] at hr1
        have hsp : p.dir.p.size ≤ 1000000 := by rw [← hp]; exact HSH.out _ (List.getElem_mem k2)
        have RX := Lib.hid hr1
        have C0 := Lib.hid d0
        have C1 := Lib.hid d1
        have C2 := Lib.hid d2
        have CT : Hid (∀ W, Calls Tryd.prog 9 #[.agg #[.string p.dir.p, .int .i64 p.dir.n]] W fun e w' => e = .returned (.string (toB (textK p.dir.key))) ∧ Below W.heap.size W w') := fun W => refitext_any p.dir W hsp
        have EQ := fun W => neq_s2 (toB (textK p.dir.key)) p.name (toB (textK p.dir.key)) p.name W
        simp only [and_self, decide_true, Bool.not_true] at EQ
        have HDR : Hid (Below wr.heap.size wr wr.drew) := (Below.refl _ _).drew
        have q0 : ((n : Int) != (n : Int)) = false := by simp
        clear hr1 d0 d1 d2 hg hsp hp e1 e2
        -- @P4
        go_upto_region 7 with (fail)
        go_cut [48] from 25 to 48 (fun v wx => v = .bool false ∧ Hid (Below wr.heap.size wr wx))
        case first =>
          refine wp_region_noPanic ?_
          refine wp_region_held_drew (S := fun W => Below wr.heap.size wr W) (by kernel_rfl) HDR.out (fun hHeld => ?_)
          refine wpAnyH_take (i := 0) (oi := { dst := some 25, op := _, type := _, pos := _, after := _, guard := _ }) (v := .slice A1 n c1) rfl (by kernel_rfl) (by kernel_rfl) (by kernel_rfl) (fun _ _ _ h => h) (Or.inl ⟨by rfl, fun w' hSw => ?_⟩) (by assumption) ?_
          · (try dsimp only at hSw)
            go_simp
          try simp only [Act.put, List.setIfInBounds_toArray, List.set_cons_zero, List.set_cons_succ]
          refine wpAnyH_take (i := 1) (oi := { dst := some 26, op := _, type := _, pos := _, after := _, guard := _ }) (v := .int .i64 (n : Int)) rfl (by kernel_rfl) (by kernel_rfl) (by kernel_rfl) (fun _ _ _ h => h) (Or.inl ⟨by rfl, fun w' hSw => ?_⟩) (by assumption) ?_
          · (try dsimp only at hSw)
            go_simp
          try simp only [Act.put, List.setIfInBounds_toArray, List.set_cons_zero, List.set_cons_succ]
          refine wpAnyH_take (i := 2) (oi := { dst := some 27, op := _, type := _, pos := _, after := _, guard := _ }) (v := .slice A2 n c2) rfl (by kernel_rfl) (by kernel_rfl) (by kernel_rfl) (fun _ _ _ h => h) (Or.inl ⟨by rfl, fun w' hSw => ?_⟩) (by assumption) ?_
          · (try dsimp only at hSw)
            go_simp
          try simp only [Act.put, List.setIfInBounds_toArray, List.set_cons_zero, List.set_cons_succ]
          refine wpAnyH_take (i := 3) (oi := { dst := some 28, op := _, type := _, pos := _, after := _, guard := _ }) (v := .int .i64 (n : Int)) rfl (by kernel_rfl) (by kernel_rfl) (by kernel_rfl) (fun _ _ _ h => h) (Or.inl ⟨by rfl, fun w' hSw => ?_⟩) (by assumption) ?_
          · (try dsimp only at hSw)
            go_simp
          try simp only [Act.put, List.setIfInBounds_toArray, List.set_cons_zero, List.set_cons_succ]
          refine wpAnyH_take (i := 4) (oi := { dst := some 29, op := _, type := _, pos := _, after := _, guard := _ }) (v := .bool false) rfl (by kernel_rfl) (by kernel_rfl) (by kernel_rfl) (fun _ _ _ h => h) (Or.inl ⟨by rfl, fun w' hSw => ?_⟩) (by assumption) ?_
          · (try dsimp only at hSw)
            go_simp
          try simp only [Act.put, List.setIfInBounds_toArray, List.set_cons_zero, List.set_cons_succ]
          refine wpAnyH_take (i := 5) (oi := { dst := some 30, op := _, type := _, pos := _, after := _, guard := _ }) (v := .bool false) rfl (by kernel_rfl) (by kernel_rfl) (by kernel_rfl) (fun _ _ _ h => h) (Or.inl ⟨by rfl, fun w' hSw => ?_⟩) (by assumption) ?_
          · (try dsimp only at hSw)
            go_simp
          try simp only [Act.put, List.setIfInBounds_toArray, List.set_cons_zero, List.set_cons_succ]
          refine wpAnyH_take (i := 6) (oi := { dst := some 31, op := _, type := _, pos := _, after := _, guard := _ }) (v := .slice A1 n c1) rfl (by kernel_rfl) (by kernel_rfl) (by kernel_rfl) (fun _ _ _ h => h) (Or.inl ⟨by rfl, fun w' hSw => ?_⟩) (by assumption) ?_
          · (try dsimp only at hSw)
            go_simp
          try simp only [Act.put, List.setIfInBounds_toArray, List.set_cons_zero, List.set_cons_succ]
          refine wpAnyH_take (i := 7) (oi := { dst := some 32, op := _, type := _, pos := _, after := _, guard := _ }) (v := .int .i64 (k : Int)) rfl (by kernel_rfl) (by kernel_rfl) (by kernel_rfl) (fun _ _ _ h => h) (Or.inl ⟨by rfl, fun w' hSw => ?_⟩) (by assumption) ?_
          · (try dsimp only at hSw)
            go_simp
          try simp only [Act.put, List.setIfInBounds_toArray, List.set_cons_zero, List.set_cons_succ]
          refine wpAnyH_take (i := 8) (oi := { dst := some 33, op := _, type := _, pos := _, after := _, guard := _ }) (v := .pointer (some ⟨b1, o1 + k * 2, none⟩)) rfl (by kernel_rfl) (by kernel_rfl) (by kernel_rfl) (fun _ _ _ h => h) (Or.inl ⟨by rfl, fun w' hSw => ?_⟩) (by assumption) ?_
          · (try dsimp only at hSw)
            go_simp
          try simp only [Act.put, List.setIfInBounds_toArray, List.set_cons_zero, List.set_cons_succ]
          refine wpAnyH_take (i := 9) (oi := { dst := some 34, op := _, type := _, pos := _, after := _, guard := _ }) (v := .agg #[.string (toB (textK p.dir.key)), .string p.name]) rfl (by kernel_rfl) (by kernel_rfl) (by kernel_rfl) (fun _ _ _ h => h) (yields_load_s2 (by rfl) (.tmp 33) rfl b1 (o1 + k * 2) _ _ rfl (fun W hW => orange_on RX.out hW)) (by assumption) ?_
          try simp only [Act.put, List.setIfInBounds_toArray, List.set_cons_zero, List.set_cons_succ]
          refine wpAnyH_take (i := 10) (oi := { dst := some 35, op := _, type := _, pos := _, after := _, guard := _ }) (v := .slice A2 n c2) rfl (by kernel_rfl) (by kernel_rfl) (by kernel_rfl) (fun _ _ _ h => h) (Or.inl ⟨by rfl, fun w' hSw => ?_⟩) (by assumption) ?_
          · (try dsimp only at hSw)
            go_simp
          try simp only [Act.put, List.setIfInBounds_toArray, List.set_cons_zero, List.set_cons_succ]
          refine wpAnyH_take (i := 11) (oi := { dst := some 36, op := _, type := _, pos := _, after := _, guard := _ }) (v := .int .i64 (k : Int)) rfl (by kernel_rfl) (by kernel_rfl) (by kernel_rfl) (fun _ _ _ h => h) (Or.inl ⟨by rfl, fun w' hSw => ?_⟩) (by assumption) ?_
          · (try dsimp only at hSw)
            go_simp
          try simp only [Act.put, List.setIfInBounds_toArray, List.set_cons_zero, List.set_cons_succ]
          refine wpAnyH_take (i := 12) (oi := { dst := some 37, op := _, type := _, pos := _, after := _, guard := _ }) (v := .pointer (some ⟨b2, o2 + k * 3, none⟩)) rfl (by kernel_rfl) (by kernel_rfl) (by kernel_rfl) (fun _ _ _ h => h) (Or.inl ⟨by rfl, fun w' hSw => ?_⟩) (by assumption) ?_
          · (try dsimp only at hSw)
            go_simp
          try simp only [Act.put, List.setIfInBounds_toArray, List.set_cons_zero, List.set_cons_succ]
          refine wpAnyH_take (i := 13) (oi := { dst := some 38, op := _, type := _, pos := _, after := _, guard := _ }) (v := .pointer (some ⟨b2, o2 + k * 3, none⟩)) rfl (by kernel_rfl) (by kernel_rfl) (by kernel_rfl) (fun _ _ _ h => h) (Or.inl ⟨by rfl, fun w' hSw => ?_⟩) (by assumption) ?_
          · (try dsimp only at hSw)
            go_simp
          try simp only [Act.put, List.setIfInBounds_toArray, List.set_cons_zero, List.set_cons_succ]
          refine wpAnyH_take (i := 14) (oi := { dst := some 39, op := _, type := _, pos := _, after := _, guard := _ }) (v := .agg #[.string p.dir.p, .int .i64 p.dir.n]) rfl (by kernel_rfl) (by kernel_rfl) (by kernel_rfl) (fun _ _ _ h => h) (Or.inl ⟨by rfl, fun w' hSw => ?_⟩) (by assumption) ?_
          · (try dsimp only at hSw)
            have z0 := cell_on C0.out hSw
            have z1 := cell_on C1.out hSw
            go_simp
          try simp only [Act.put, List.setIfInBounds_toArray, List.set_cons_zero, List.set_cons_succ]
          refine wpAnyH_take (i := 16) (oi := { dst := some 41, op := _, type := _, pos := _, after := _, guard := _ }) (v := .slice A2 n c2) rfl (by kernel_rfl) (by kernel_rfl) (by kernel_rfl) (fun _ _ _ h => h) (Or.inl ⟨by rfl, fun w' hSw => ?_⟩) (by assumption) ?_
          · (try dsimp only at hSw)
            go_simp
          try simp only [Act.put, List.setIfInBounds_toArray, List.set_cons_zero, List.set_cons_succ]
          refine wpAnyH_take (i := 17) (oi := { dst := some 42, op := _, type := _, pos := _, after := _, guard := _ }) (v := .int .i64 (k : Int)) rfl (by kernel_rfl) (by kernel_rfl) (by kernel_rfl) (fun _ _ _ h => h) (Or.inl ⟨by rfl, fun w' hSw => ?_⟩) (by assumption) ?_
          · (try dsimp only at hSw)
            go_simp
          try simp only [Act.put, List.setIfInBounds_toArray, List.set_cons_zero, List.set_cons_succ]
          refine wpAnyH_take (i := 18) (oi := { dst := some 43, op := _, type := _, pos := _, after := _, guard := _ }) (v := .pointer (some ⟨b2, o2 + k * 3, none⟩)) rfl (by kernel_rfl) (by kernel_rfl) (by kernel_rfl) (fun _ _ _ h => h) (Or.inl ⟨by rfl, fun w' hSw => ?_⟩) (by assumption) ?_
          · (try dsimp only at hSw)
            go_simp
          try simp only [Act.put, List.setIfInBounds_toArray, List.set_cons_zero, List.set_cons_succ]
          refine wpAnyH_take (i := 19) (oi := { dst := some 44, op := _, type := _, pos := _, after := _, guard := _ }) (v := .pointer (some ⟨b2, o2 + k * 3 + 2, none⟩)) rfl (by kernel_rfl) (by kernel_rfl) (by kernel_rfl) (fun _ _ _ h => h) (Or.inl ⟨by rfl, fun w' hSw => ?_⟩) (by assumption) ?_
          · (try dsimp only at hSw)
            go_simp
          try simp only [Act.put, List.setIfInBounds_toArray, List.set_cons_zero, List.set_cons_succ]
          refine wpAnyH_take (i := 20) (oi := { dst := some 45, op := _, type := _, pos := _, after := _, guard := _ }) (v := .string p.name) rfl (by kernel_rfl) (by kernel_rfl) (by kernel_rfl) (fun _ _ _ h => h) (Or.inl ⟨by rfl, fun w' hSw => ?_⟩) (by assumption) ?_
          · (try dsimp only at hSw)
            have z2 := cell_on C2.out hSw
            go_simp
          try simp only [Act.put, List.setIfInBounds_toArray, List.set_cons_zero, List.set_cons_succ]
          have XD := Lib.hid HDR.out
          generalize hwD : wr.drew = wD at *
          clear hwD HDR
          refine wpAnyH_ready (rs := [15]) (by kernel_rfl) (by simp) ?_
          refine AllReadyH.cons rfl (fun K hK => ?_) AllReadyH.nil
          go_simp
          go_at_call 9
          refine (CT.out wD).mono ?_
          rintro e wk ⟨rfl, hb⟩
          have XK := Lib.hid (XD.out.trans (hb.mono XD.out.size))
          clear hb
          refine hK.out _ _ XK.out (fun hHeld15 => ?_)
          clear hK K hHeld XD
          try simp only [Act.put, List.setIfInBounds_toArray, List.set_cons_zero, List.set_cons_succ]
          refine wpAnyH_take (i := 21) (oi := { dst := some 46, op := _, type := _, pos := _, after := _, guard := _ }) (v := .agg #[.string (toB (textK p.dir.key)), .string p.name]) rfl (by kernel_rfl) (by kernel_rfl) (by kernel_rfl) (fun _ _ _ h => h) (Or.inl ⟨by rfl, fun w' hSw => ?_⟩) (by assumption) ?_
          · (try dsimp only at hSw)
            go_simp
          try simp only [Act.put, List.setIfInBounds_toArray, List.set_cons_zero, List.set_cons_succ]
          refine wpAnyH_take (i := 22) (oi := { dst := some 47, op := _, type := _, pos := _, after := _, guard := _ }) (v := .bool false) rfl (by kernel_rfl) (by kernel_rfl) (by kernel_rfl) (fun _ _ _ h => h) (Or.inl ⟨by rfl, fun w' hSw => ?_⟩) (by assumption) ?_
          · (try dsimp only at hSw)
            have e9 := EQ w'
            go_simp
          try simp only [Act.put, List.setIfInBounds_toArray, List.set_cons_zero, List.set_cons_succ]
          refine wpAnyH_take (i := 23) (oi := { dst := some 48, op := _, type := _, pos := _, after := _, guard := _ }) (v := .bool false) rfl (by kernel_rfl) (by kernel_rfl) (by kernel_rfl) (fun _ _ _ h => h) (Or.inl ⟨by rfl, fun w' hSw => ?_⟩) (by assumption) ?_
          · (try dsimp only at hSw)
            go_simp
          try simp only [Act.put, List.setIfInBounds_toArray, List.set_cons_zero, List.set_cons_succ]
          refine wpAnyH_done (by kernel_rfl) ?_ _
          refine NoPanic.normal ?_
          go_wp2_with fail
          go_meet
          case rel => exact ⟨rfl, XK.out⟩
        case rest =>
          obtain ⟨rfl, hcb⟩ := hcut
          obtain ⟨w6, hw6⟩ : ∃ z, z = wc := ⟨_, rfl⟩
          subst hw6
          have HGN := Lib.hid (HG.out.trans (hcb.out.mono HG.out.size))
          clear HDR CT EQ RX C0 C1 C2 I1 I2 hcb HG
          go_wp2
          go_roundw
          case rel => exact ⟨k + 1, by omega, by go_num, HGN.out⟩
          case measure => simp [intOf]; omega
      · have u1 : ¬ (k : Int) < (n : Int) := by omega
        have hb := HG.out
        replace HX := Lib.hid (HX.out.on hb)
        replace HY := Lib.hid (HY.out.on hb)
        replace IX := Lib.hid (IX.out.on hb)
        replace IY := Lib.hid (IY.out.on hb)
        replace HT := Lib.hid (Tabs.on HT.out hb)
        replace HN := Lib.hid (HN.out.on hb)
        replace HB := Lib.hid (HB.out.trans (hb.mono HB.out.size))
        clear hb HG R1 R2 HGET HSH HN0 HN1
        generalize hw3 : wr = w3 at *
        clear hw3
        have C1 := Lib.hid (HC.out.ops x y w3 IX.out IY.out HT.out HN.out)
        obtain ⟨m, hm⟩ : ∃ m, clashO x.key y.key = m := ⟨_, rfl⟩
        have HM := Lib.hid hm
        rw [hm] at C1
        clear hm
        unfold Om.val Om.cells at C1
        -- @P5
        go_wp2_with (first | ((with_reducible refine wpList_load_opw (.tmp 2) gx x HX.out ?_ ?_ ?_ ?_); rfl; rfl; rfl; simp only [Act.put, List.setIfInBounds_toArray, List.set_cons_zero, List.set_cons_succ, Om.val, Om.cells]) | ((with_reducible refine wpList_load_opw (.tmp 3) gy y HY.out ?_ ?_ ?_ ?_); rfl; rfl; rfl; simp only [Act.put, List.setIfInBounds_toArray, List.set_cons_zero, List.set_cons_succ, Om.val, Om.cells]) | fail)
        refine C1.out.mono ?_
        rintro e w4 ⟨rfl, hb⟩
        replace HX := Lib.hid (HX.out.on hb)
        replace HY := Lib.hid (HY.out.on hb)
        replace IX := Lib.hid (IX.out.on hb)
        replace IY := Lib.hid (IY.out.on hb)
        replace HT := Lib.hid (Tabs.on HT.out hb)
        replace HN := Lib.hid (HN.out.on hb)
        replace HB := Lib.hid (HB.out.trans (hb.mono HB.out.size))
        clear hb C1
        generalize (Value.agg #[.int .i64 x.kind, .string x.self.p, .int .i64 x.self.n, .string x.parent.p, .int .i64 x.parent.n, .string x.dst.p, .int .i64 x.dst.n, .string x.name, .string x.dname, .string x.left.p, .int .i64 x.left.n, .string x.right.p, .int .i64 x.right.n, .slice x.a1 x.dels.length x.c1, .int .i64 x.first, .slice x.a2 x.lines.length x.c2]) = vx3
        generalize (Value.agg #[.int .i64 y.kind, .string y.self.p, .int .i64 y.self.n, .string y.parent.p, .int .i64 y.parent.n, .string y.dst.p, .int .i64 y.dst.n, .string y.name, .string y.dname, .string y.left.p, .int .i64 y.left.n, .string y.right.p, .int .i64 y.right.n, .slice y.a1 y.dels.length y.c1, .int .i64 y.first, .slice y.a2 y.lines.length y.c2]) = vy3
        go_wp2_with fail
        refine (HAW.out _ HT.out HN.out).mono ?_
        rintro e w5 ⟨rfl, hb⟩
        replace HX := Lib.hid (HX.out.on hb)
        replace HY := Lib.hid (HY.out.on hb)
        replace IX := Lib.hid (IX.out.on hb)
        replace IY := Lib.hid (IY.out.on hb)
        replace HT := Lib.hid (Tabs.on HT.out hb)
        replace HN := Lib.hid (HN.out.on hb)
        replace HB := Lib.hid (HB.out.trans (hb.mono HB.out.size))
        clear hb HAW
        have C2 := Lib.hid (refclash_any x y w5 IX.out.ok IY.out.ok NX.out NY.out m HM.out)
        -- @P6
        go_wp2_with (first | ((with_reducible refine wpList_load_opw (.tmp 2) gx x HX.out ?_ ?_ ?_ ?_); rfl; rfl; rfl; simp only [Act.put, List.setIfInBounds_toArray, List.set_cons_zero, List.set_cons_succ, Om.val, Om.cells]) | ((with_reducible refine wpList_load_opw (.tmp 3) gy y HY.out ?_ ?_ ?_ ?_); rfl; rfl; rfl; simp only [Act.put, List.setIfInBounds_toArray, List.set_cons_zero, List.set_cons_succ, Om.val, Om.cells]) | fail)
        refine C2.out.mono ?_
        rintro e w6 ⟨rfl, hb⟩
        replace HX := Lib.hid (HX.out.on hb)
        replace HY := Lib.hid (HY.out.on hb)
        replace IX := Lib.hid (IX.out.on hb)
        replace IY := Lib.hid (IY.out.on hb)
        replace HT := Lib.hid (Tabs.on HT.out hb)
        replace HN := Lib.hid (HN.out.on hb)
        replace HB := Lib.hid (HB.out.trans (hb.mono HB.out.size))
        clear hb C2
        have C3 := Lib.hid (HC.out.ops y x w6 IY.out IX.out HT.out HN.out)
        rw [clashO_comm, HM.out] at C3
        unfold Om.val Om.cells at C3
        go_wp2_with (first | ((with_reducible refine wpList_load_opw (.tmp 2) gx x HX.out ?_ ?_ ?_ ?_); rfl; rfl; rfl; simp only [Act.put, List.setIfInBounds_toArray, List.set_cons_zero, List.set_cons_succ, Om.val, Om.cells]) | ((with_reducible refine wpList_load_opw (.tmp 3) gy y HY.out ?_ ?_ ?_ ?_); rfl; rfl; rfl; simp only [Act.put, List.setIfInBounds_toArray, List.set_cons_zero, List.set_cons_succ, Om.val, Om.cells]) | fail)
        refine C3.out.mono ?_
        rintro e w7 ⟨rfl, hb⟩
        have HF := Lib.hid (HB.out.trans (hb.mono HB.out.size))
        clear hb C3 HX HY IX IY HT HN HC
        go_wp2
        go_ret
        exact ⟨rfl, HF.out⟩
end Go.Proofs.YtideldgblafhlaaDoor
