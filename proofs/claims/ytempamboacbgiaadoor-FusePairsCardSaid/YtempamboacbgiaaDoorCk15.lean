/- Package fuse's hunks. -/
import Derived.Test.YtempamboacbgiaaDoorCk11
import Derived.Test.YtempamboacbgiaaDoorCk14
import Derived.Test.YtempamboacbgiaaDoorCk04
import Derived.Test.YtempamboacbgiaaDoorCk06
namespace Go.Proofs.YtempamboacbgiaaDoor
open Go.RowKit
set_option linter.unusedVariables false

/-- A step handed back by value, and a second result. -/
theorem ret_prim2 {fn : Func} {p u : Tmp} (h : fn.results = #[.cell p 24, .tmp u]) (tmps : Array Value) (w : World) (g : Nat) (x : Pm) (v : Value) (hp : tmps.getD p undef = .pointer (some ⟨g, 0, none⟩)) (hv : tmps.getD u undef = v) (k : PrimAt w g x) :
    (results fn tmps).run Tryd.prog w = .ok (.tuple #[.agg x.cells.toArray, v]) w := by
  rw [results_cell_tmp h, hp, hv]
  simp [asAddr, load_primv k, Result.andThen]
theorem sequal_d (A A2 : Option Addr) (la lc : List (List UInt8)) (cap cap2 : Nat) (w : World) (d : Bool) (hd : decide (la = lc) = d) (hs : Strs w w.heap.size A (toBs la)) (ht : Strs w w.heap.size A2 (toBs lc)) (hn : la.length ≤ 1000000) (hn2 : lc.length ≤ 1000000) :
    Calls Tryd.prog 20 #[.slice A la.length cap, .slice A2 lc.length cap2] w fun e w' => e = .returned (.bool d) ∧ ∃ q, w' = w.drewN q := by
  have h := sequal_q A A2 (toBs la) (toBs lc) cap cap2 w hs ht (by rw [toBs_len]; omega) (by rw [toBs_len]; omega)
  rw [toBs_len, toBs_len, show decide (toBs la = toBs lc) = d from by
    rw [← hd]
    congr 1
    refine propext ⟨fun h => ?_, fun h => by rw [h]⟩
    have := congrArg lists h
    rwa [lists_toBs, lists_toBs] at this] at h
  exact h
/-- Lines 0 to j. -/
theorem part_to (A : Option Addr) (ls : List (List UInt8)) (cap j : Nat) (hr : Room A ls.length cap) (hj : j ≤ ls.length) :
    ∃ A' cap' ld, ld = ls.take j ∧ Part A A' cap' ls ld 0 ∧ ∀ (w : World), (Instr.slice 22 (.slice A ls.length cap) none (some (.int .i64 (j : Int))) none).run Tryd.prog w = .ok (.slice A' ld.length cap') w := by
  obtain ⟨A', cap', ld, h1, h2, h3⟩ := part_of A ls cap 0 j hr (Nat.zero_le _) hj
  refine ⟨A', cap', ld, ?_, h2, fun w => h3 _ _ w (.inr ⟨rfl, rfl⟩) (.inl rfl)⟩
  rw [h1, List.drop_zero, Nat.sub_zero]
/-- Both steps in parameters' cells, a zero step in the result's. -/
theorem box3 (w : World) (x y : Pm) : Below w.heap.size w (((w.alloc (.cells x.cells.toArray 24)).alloc (.cells y.cells.toArray 24)).alloc (.cells (Pm.cells ⟨0, ⟨#[]⟩, ⟨#[]⟩, 0, none, 0, [], none, 0, []⟩).toArray 24)) ∧ PrimAt (((w.alloc (.cells x.cells.toArray 24)).alloc (.cells y.cells.toArray 24)).alloc (.cells (Pm.cells ⟨0, ⟨#[]⟩, ⟨#[]⟩, 0, none, 0, [], none, 0, []⟩).toArray 24)) w.heap.size x ∧ PrimAt (((w.alloc (.cells x.cells.toArray 24)).alloc (.cells y.cells.toArray 24)).alloc (.cells (Pm.cells ⟨0, ⟨#[]⟩, ⟨#[]⟩, 0, none, 0, [], none, 0, []⟩).toArray 24)) (w.heap.size + 1) y ∧ PrimAt (((w.alloc (.cells x.cells.toArray 24)).alloc (.cells y.cells.toArray 24)).alloc (.cells (Pm.cells ⟨0, ⟨#[]⟩, ⟨#[]⟩, 0, none, 0, [], none, 0, []⟩).toArray 24)) (w.heap.size + 1 + 1) ⟨0, ⟨#[]⟩, ⟨#[]⟩, 0, none, 0, [], none, 0, []⟩ := by
  obtain ⟨a1, a2, a3⟩ := box2 w x y
  have hz : ((w.alloc (.cells x.cells.toArray 24)).alloc (.cells y.cells.toArray 24)).heap.size = w.heap.size + 1 + 1 := by rw [World.size_alloc, World.size_alloc]
  generalize ((w.alloc (.cells x.cells.toArray 24)).alloc (.cells y.cells.toArray 24)) = w2 at *
  have b1 : Below w2.heap.size w2 (w2.alloc (.cells (Pm.cells ⟨0, ⟨#[]⟩, ⟨#[]⟩, 0, none, 0, [], none, 0, []⟩).toArray 24)) := (Below.refl _ _).alloc (Nat.le_refl _) _
  rw [← hz]
  exact ⟨a1.trans (b1.mono a1.size), a2.on b1, a3.on b1, PrimAt.new_ w2 _⟩
/-- A step comes back, or a zero one, and whether it does. -/
def HunkLeft (w : World) (o : Option Pk) (e : Ending) (w' : World) : Prop :=
  ∃ z : Pm, e = .returned (.tuple #[.agg #[.int .i64 z.kind, .string z.p, .string z.dst, .int .i64 z.at_, .slice z.a1 z.old.length z.c1, .slice z.a2 z.new.length z.c2], .bool o.isSome]) ∧ Hid (z.Sep w' ∧ z.key = o.getD zeroP) ∧ Below w.heap.size w w'
/-- The result's cells written over. -/
theorem hunk_set {w w2 : World} {g : Nat} {y0 z : Pm} {o : Option Pk} (hb : Below w.heap.size w w2) (hG : w.heap.size ≤ g) (hP : PrimAt w2 g y0) (hz : z.Sep w2) (hk : z.key = o.getD zeroP) (b : Bool) (hbo : b = o.isSome) :
    HunkLeft w o (.returned (.tuple #[.agg #[.int .i64 z.kind, .string z.p, .string z.dst, .int .i64 z.at_, .slice z.a1 z.old.length z.c1, .slice z.a2 z.new.length z.c2], .bool b])) (setPrim w2 g z) ∧ PrimAt (setPrim w2 g z) g z := by
  subst hbo
  exact ⟨⟨z, rfl, ⟨hz.grown hP (by decide) (setPrim_grown w2 g z), hk⟩, below_prim z hb hG hb.size⟩, setPrim_at hP z⟩
theorem row_new (w : World) (r : Obj) : (w.alloc r).heap[w.heap.size]? = some r ∧ True := ⟨heap_alloc_new w r, trivial⟩
theorem row_two_new (w : World) (r s : Obj) : ((w.alloc r).alloc s).heap[w.heap.size]? = some r ∧ ((w.alloc r).alloc s).heap[w.heap.size + 1]? = some s := by
  refine ⟨?_, ?_⟩
  · rw [heap_alloc_old _ _ (by simp)]
    exact heap_alloc_new w r
  · have := heap_alloc_new (w.alloc r) s
    rwa [World.size_alloc] at this
theorem row_kept {w w' : World} {q : Nat} {r : Obj} (hb : Below w.heap.size w w') (h : w.heap[q]? = some r) : w'.heap[q]? = some r := (hb.block q (Array.getElem?_eq_some_iff.1 h).1).trans h
set_option maxHeartbeats 40000000 in
set_option maxRecDepth 100000 in
theorem fhunks_any (x y : Pm) (w : World) (ox : x.Ok w w.heap.size) (oy : y.Ok w w.heap.size) (hx0 : ckP x.key = 0) (hy0 : ckP y.key = 0) (h6 : x.kind = 6 ∧ y.kind = 6 ∧ x.p = y.p) (g1 : x.at_ ≤ 1099511627776) (g2 : y.at_ ≤ 1099511627776) :
    Calls Tryd.prog 19 #[x.val, y.val] w (HunkLeft w (hunksP x.key y.key)) := by
  have h6' := (one_iff x y).1 h6
  obtain ⟨h1, m0, m1⟩ : 0 ≤ x.at_ ∧ x.old.length ≤ 2000 ∧ x.new.length ≤ 2000 := ck_nums hx0 h6'.1
  obtain ⟨h2, m2, m3⟩ : 0 ≤ y.at_ ∧ y.old.length ≤ 2000 ∧ y.new.length ≤ 2000 := ck_nums hy0 h6'.2.1
  obtain ⟨b, hb⟩ : ∃ b, max x.at_ y.at_ = b := ⟨_, rfl⟩
  obtain ⟨f, hf⟩ : ∃ f, min (x.at_ - b + x.new.length) (y.at_ - b + y.old.length) = f := ⟨_, rfl⟩
  have CO := Lib.hid (fun W => foverlap_any x y W h1 h2 g1 g2 (by omega) (by omega) b f hb hf)
  have C1 := fun B W (h : OverAt W B b f) => fover_any B b f x.at_ W h h1 (by omega) (by omega) (by omega) (by omega)
  have C2 := fun B W (h : OverAt W B b f) => fover_any B b f y.at_ W h h2 (by omega) (by omega) (by omega) (by omega)
  have CT := Lib.hid (fun W => ftouch_any x y W h1 h2 g1 g2 (by omega) (by omega) b f hb hf _ rfl)
  have htc : decide (0 ≤ f) = touchP x.key y.key := touch_code hx0 hy0 h6' b f hb hf
  by_cases hf0 : 0 ≤ f
  · rw [decide_eq_true hf0] at htc CT
    have ht := (touch_far (p := x.key) (q := y.key) b f hb.symm hf.symm).1 hf0
    have hov := over_of (p := x.key) (q := y.key) h1 h2 ht.1 ht.2 b f hb.symm hf.symm
    obtain ⟨nf, hnf⟩ : ∃ n : Nat, b - x.at_ = (n : Int) := ⟨(b - x.at_).toNat, by omega⟩
    obtain ⟨nt, hnt⟩ : ∃ n : Nat, b - x.at_ + f = (n : Int) := ⟨(b - x.at_ + f).toNat, by omega⟩
    obtain ⟨mf, hmf⟩ : ∃ n : Nat, b - y.at_ = (n : Int) := ⟨(b - y.at_).toNat, by omega⟩
    obtain ⟨mt, hmt⟩ : ∃ n : Nat, b - y.at_ + f = (n : Int) := ⟨(b - y.at_ + f).toNat, by omega⟩
    have hov : Over x.key y.key nf nt mf mt := by
      have := hov
      rw [show x.key.at_ = x.at_ from rfl, show y.key.at_ = y.at_ from rfl, hnf, hmf] at this
      rw [hnf] at hnt
      rw [hmf] at hmt
      rwa [hnt, hmt, Int.toNat_natCast, Int.toNat_natCast, Int.toNat_natCast, Int.toNat_natCast] at this
    rw [hnt, hnf] at C1
    rw [hmt, hmf] at C2
    have C1 := Lib.hid C1
    have C2 := Lib.hid C2
    obtain ⟨v1, v2, v3, v4, vag, vold, vnew⟩ := hov
    simp only [Pm.key] at v2 v4 vold vnew
    obtain ⟨A5, c5, l5, e5, P5, S5⟩ := part_mid x.a2 x.new x.c2 nf nt ox.h.r2 v1 v2
    obtain ⟨A6, c6, l6, e6, P6, S6⟩ := part_mid y.a1 y.old y.c1 mf mt oy.h.r1 v3 v4
    have hl5 : l5.length ≤ 1000000 := by rw [e5, List.length_take, List.length_drop]; omega
    have hl6 : l6.length ≤ 1000000 := by rw [e6, List.length_take, List.length_drop]; omega
    obtain ⟨d, hd⟩ : ∃ d, decide (l5 = l6) = d := ⟨_, rfl⟩
    have vag : agreeP x.key y.key = d := by
      rw [vag, ← hd, decide_eq_decide, e5, e6]
      exact Iff.rfl
    have CE := Lib.hid (fun W (hW : Below w.heap.size w W) => sequal_d A5 A6 l5 l6 c5 c6 W d hd (P5.strs _ _ (ox.on hW).h.new) (P6.strs _ _ (oy.on hW).h.old) hl5 hl6)
    cases d
    · have hno : hunksP x.key y.key = none := hunks_apart vag
      rw [hno]
      clear hno vag hd e5 e6 hl5 hl6 P5 P6 vold vnew ht htc hf0 hx0 hy0 ox oy h6 h6' g1 g2 h1 h2 m0 m1 m2 m3 hb hf hnf hnt hmf hmt
      unfold Pm.val at CO CT ⊢
      obtain ⟨hal, hx, hy, hg⟩ := box3 w x y
      have e0 : (((w.alloc (.cells x.cells.toArray 24)).alloc (.cells y.cells.toArray 24)).alloc (.cells (Pm.cells ⟨0, ⟨#[]⟩, ⟨#[]⟩, 0, none, 0, [], none, 0, []⟩).toArray 24)) = (((w.alloc (.cells #[.int .i64 x.kind, .string x.p, .string x.dst, .int .i64 x.at_, .slice x.a1 x.old.length x.c1, .slice x.a2 x.new.length x.c2] 24)).alloc (.cells #[.int .i64 y.kind, .string y.p, .string y.dst, .int .i64 y.at_, .slice y.a1 y.old.length y.c1, .slice y.a2 y.new.length y.c2] 24)).alloc (.cells #[.int .i64 0, .string ⟨#[]⟩, .string ⟨#[]⟩, .int .i64 0, .slice none 0 0, .slice none 0 0] 24)) := rfl
      rw [e0] at hal hx hy hg
      have HX := Lib.hid hx
      have HY := Lib.hid hy
      have HG := Lib.hid hg
      have HA := Lib.hid hal
      clear hal hx hy hg e0
      go_enter Tryd.func19, Tryd.ntmps19
      go_wp2_with fail
      generalize hwa : (((w.alloc (.cells #[.int .i64 x.kind, .string x.p, .string x.dst, .int .i64 x.at_, .slice x.a1 x.old.length x.c1, .slice x.a2 x.new.length x.c2] 24)).alloc (.cells #[.int .i64 y.kind, .string y.p, .string y.dst, .int .i64 y.at_, .slice y.a1 y.old.length y.c1, .slice y.a2 y.new.length y.c2] 24)).alloc (.cells #[.int .i64 0, .string ⟨#[]⟩, .string ⟨#[]⟩, .int .i64 0, .slice none 0 0, .slice none 0 0] 24)) = wa at *
      clear hwa
      refine (CO.out wa).mono ?_
      rintro e w1 ⟨B, rfl, hO, hb⟩
      replace HX := Lib.hid (HX.out.on hb)
      replace HY := Lib.hid (HY.out.on hb)
      replace HG := Lib.hid (HG.out.on hb)
      replace HA := Lib.hid (HA.out.trans (hb.mono HA.out.size))
      have HO := Lib.hid hO.out
      clear hb hO CO
      have x0 := HX.out.c0
      have x1 := HX.out.c1
      have x2 := HX.out.c2
      have x3 := HX.out.c3
      have x4 := HX.out.c4
      have x5 := HX.out.c5
      have y0 := HY.out.c0
      have y1 := HY.out.c1
      have y2 := HY.out.c2
      have y3 := HY.out.c3
      have y4 := HY.out.c4
      have y5 := HY.out.c5
      go_wp2_with fail
      refine (C1.out B _ HO.out).mono ?_
      rintro e w2 ⟨rfl, q2, hw2⟩
      have hb : Below w1.heap.size w1 w2 := by subst hw2; exact below_drewN (Below.refl _ _) q2
      clear x0 y0 x1 y1 x2 y2 x3 y3 x4 y4 x5 y5
      replace HX := Lib.hid (HX.out.on hb)
      replace HY := Lib.hid (HY.out.on hb)
      replace HG := Lib.hid (HG.out.on hb)
      replace HA := Lib.hid (HA.out.trans (hb.mono HA.out.size))
      replace HO := Lib.hid (HO.out.on hb)
      clear hb hw2
      have x0 := HX.out.c0
      have x1 := HX.out.c1
      have x2 := HX.out.c2
      have x3 := HX.out.c3
      have x4 := HX.out.c4
      have x5 := HX.out.c5
      have y0 := HY.out.c0
      have y1 := HY.out.c1
      have y2 := HY.out.c2
      have y3 := HY.out.c3
      have y4 := HY.out.c4
      have y5 := HY.out.c5
      go_wp2_with fail
      refine (C2.out B _ HO.out).mono ?_
      rintro e w3 ⟨rfl, q3, hw3⟩
      have hb : Below w2.heap.size w2 w3 := by subst hw3; exact below_drewN (Below.refl _ _) q3
      clear x0 y0 x1 y1 x2 y2 x3 y3 x4 y4 x5 y5
      replace HX := Lib.hid (HX.out.on hb)
      replace HY := Lib.hid (HY.out.on hb)
      replace HG := Lib.hid (HG.out.on hb)
      replace HA := Lib.hid (HA.out.trans (hb.mono HA.out.size))
      clear hb hw3 HO C1 C2
      have x0 := HX.out.c0
      have x1 := HX.out.c1
      have x2 := HX.out.c2
      have x3 := HX.out.c3
      have x4 := HX.out.c4
      have x5 := HX.out.c5
      have y0 := HY.out.c0
      have y1 := HY.out.c1
      have y2 := HY.out.c2
      have y3 := HY.out.c3
      have y4 := HY.out.c4
      have y5 := HY.out.c5
      go_wp2_with fail
      have CE := Lib.hid (fun W (hb : Below w3.heap.size w3 W) => CE.out W (HA.out.trans (hb.mono HA.out.size)))
      have HDR : Hid (Below w3.heap.size w3 w3.drew) := (Below.refl _ _).drew
      have S0 := Lib.hid (six_six (HX.out.on HDR.out) (HY.out.on HDR.out))
      go_region_held3 (fun w' => w'.cell? ⟨w.heap.size, 0, none⟩ = some (.int .i64 x.kind) ∧ w'.cell? ⟨w.heap.size, 1, none⟩ = some (.string x.p) ∧ w'.cell? ⟨w.heap.size, 2, none⟩ = some (.string x.dst) ∧ w'.cell? ⟨w.heap.size, 3, none⟩ = some (.int .i64 x.at_) ∧ w'.cell? ⟨w.heap.size, 4, none⟩ = some (.slice x.a1 x.old.length x.c1) ∧ w'.cell? ⟨w.heap.size, 5, none⟩ = some (.slice x.a2 x.new.length x.c2) ∧ w'.cell? ⟨w.heap.size + 1, 0, none⟩ = some (.int .i64 y.kind) ∧ w'.cell? ⟨w.heap.size + 1, 1, none⟩ = some (.string y.p) ∧ w'.cell? ⟨w.heap.size + 1, 2, none⟩ = some (.string y.dst) ∧ w'.cell? ⟨w.heap.size + 1, 3, none⟩ = some (.int .i64 y.at_) ∧ w'.cell? ⟨w.heap.size + 1, 4, none⟩ = some (.slice y.a1 y.old.length y.c1) ∧ w'.cell? ⟨w.heap.size + 1, 5, none⟩ = some (.slice y.a2 y.new.length y.c2)) (first
        | with_reducible exact S0.out
        | with_reducible exact S7.out
        | with_reducible exact S8.out
        | (go_keep; done)) (first
        | (go_at_call 28; (with_reducible refine (CT.out _).mono ?_); rintro e w7 ⟨rfl, hb7⟩
           have X7 := Lib.hid (HDR.out.trans (hb7.mono HDR.out.size))
           have S7 := Lib.hid (six_six (HX.out.on X7.out) (HY.out.on X7.out)))
        | (go_at_call 20; (with_reducible refine (CE.out _ X7.out).mono ?_); rintro e w8 ⟨rfl, q8, hw8⟩
           have X8 : Hid (Below w3.heap.size w3 w8) := (by subst hw8; exact below_drewN X7.out q8)
           have S8 := Lib.hid (six_six (HX.out.on X8.out) (HY.out.on X8.out))
           clear hw8))
      all_goals
        have hb := X8.out
        clear S0 S7 S8 hb7 X7 X8 HDR CT CE
        clear x0 y0 x1 y1 x2 y2 x3 y3 x4 y4 x5 y5
        replace HX := Lib.hid (HX.out.on hb)
        replace HY := Lib.hid (HY.out.on hb)
        replace HG := Lib.hid (HG.out.on hb)
        replace HA := Lib.hid (HA.out.trans (hb.mono HA.out.size))
        clear hb
        have g0 := HG.out.c0
        have gf0 := HG.out.fz 0
        have g1 := HG.out.c1
        have gf1 := HG.out.fz 1
        have g2 := HG.out.c2
        have gf2 := HG.out.fz 2
        have g3 := HG.out.c3
        have gf3 := HG.out.fz 3
        have g4 := HG.out.c4
        have gf4 := HG.out.fz 4
        have g5 := HG.out.c5
        have gf5 := HG.out.fz 5
        have HT := Lib.hid (hunk_set (w := w) (o := none) HA.out (show w.heap.size ≤ w.heap.size + 1 + 1 by omega) HG.out (sep_zero _) (rfl : _ = zeroP) false rfl)
        have HT1 := Lib.hid HT.out.1
        have HT2 := Lib.hid HT.out.2
        clear HT
        go_wp
        (try simp only [Exit.inBlock, Exit.then])
        refine bodyPost_ret (ret_prim2 rfl _ _ _ ⟨0, ⟨#[]⟩, ⟨#[]⟩, 0, none, 0, [], none, 0, []⟩ _ rfl rfl HT2.out) rfl ?_
        exact HT1.out
    · have hyes : hunksP x.key y.key = some (fuseH x.key y.key) := hunks_yes htc.symm vag
      obtain ⟨mn, hmn⟩ : ∃ m, min x.at_ y.at_ = m := ⟨_, rfl⟩
      obtain ⟨A7, c7, l7, e7, P7, S7'⟩ := part_to y.a1 y.old y.c1 mf oy.h.r1 (by omega)
      obtain ⟨A8, c8, l8, e8, P8, S8'⟩ := part_from y.a1 y.old y.c1 mt oy.h.r1 v4
      obtain ⟨A9, c9, l9, e9, P9, S9'⟩ := part_to x.a2 x.new x.c2 nf ox.h.r2 (by omega)
      obtain ⟨A10, c10, l10, e10, P10, S10'⟩ := part_from x.a2 x.new x.c2 nt ox.h.r2 v2
      rw [← e7, ← e8] at vold
      rw [← e9, ← e10] at vnew
      obtain ⟨L1, hL1⟩ : ∃ L, l7 ++ x.old ++ l8 = L := ⟨_, rfl⟩
      obtain ⟨L2, hL2⟩ : ∃ L, l9 ++ y.new ++ l10 = L := ⟨_, rfl⟩
      have hl1 : L1.length ≤ 100000 := by rw [← hL1, e7, e8]; simp only [List.length_append, List.length_take, List.length_drop]; omega
      have hl2 : L2.length ≤ 100000 := by rw [← hL2, e9, e10]; simp only [List.length_append, List.length_take, List.length_drop]; omega
      have CA := Lib.hid (fun q W (hW : Below w.heap.size w W) hq => sconcat3 q A7 x.a1 A8 c7 x.c1 c8 l7 x.old l8 L1 W hq (P7.strs _ _ (oy.on hW).h.old) (ox.on hW).h.old (P8.strs _ _ (oy.on hW).h.old) P7.room ox.h.r1 P8.room hL1 hl1)
      have CB := Lib.hid (fun q W (hW : Below w.heap.size w W) hq => sconcat3 q A9 y.a2 A10 c9 y.c2 c10 l9 y.new l10 L2 W hq (P9.strs _ _ (ox.on hW).h.new) (oy.on hW).h.new (P10.strs _ _ (ox.on hW).h.new) P9.room oy.h.r2 P10.room hL2 hl2)
      obtain ⟨hh, hhe⟩ : ∃ h, fuseH x.key y.key = h := ⟨_, rfl⟩
      rw [hyes, hhe]
      have HZ : Hid (∀ W B1 B2 A1 k1 A2 k2, OwnS W B1 (.slice A1 L1.length k1) L1 → OwnS W B2 (.slice A2 L2.length k2) L2 → Pm.Sep ⟨6, x.p, ⟨#[]⟩, mn, A1, k1, L1, A2, k2, L2⟩ W ∧ Pm.key ⟨6, x.p, ⟨#[]⟩, mn, A1, k1, L1, A2, k2, L2⟩ = (some hh).getD zeroP) := by
        intro W B1 B2 A1 k1 A2 k2 o1 o2
        obtain ⟨s1, r1, _⟩ := o1.at_
        obtain ⟨s2, r2, _⟩ := o2.at_
        refine ⟨⟨⟨⟨s1, s2, r1, r2, by show _ ≤ mn; omega, by show mn ≤ _; omega, by show L1.length ≤ _; omega, by show L2.length ≤ _; omega⟩, ox.p, by show (0 : Nat) ≤ _; omega, by show (-9223372036854775808 : Int) ≤ 6; decide, by show (6 : Int) ≤ _; decide⟩, o1.blk, o2.blk⟩, ?_⟩
        rw [Option.getD_some, ← hhe]
        unfold fuseH Pm.key
        simp only [Pk.mk.injEq]
        exact ⟨trivial, trivial, trivial, hmn.symm, hL1.symm.trans vold, hL2.symm.trans vnew⟩
      have HZ := Lib.hid (fun W A1 k1 A2 k2 {B1 B2 : Nat} (o1 : OwnS W B1 (.slice A1 L1.length k1) L1) (o2 : OwnS W B2 (.slice A2 L2.length k2) L2) => HZ.out W B1 B2 A1 k1 A2 k2 o1 o2)
      clear hyes hhe vag hd e5 e6 e7 e8 e9 e10 hl5 hl6 P5 P6 P7 P8 P9 P10 vold vnew ht htc hf0 hx0 hy0 ox oy h6 h6' g1 g2 h1 h2 m0 m1 m2 m3 hb hf hnf hnt hmf hmt hL1 hL2 hl1 hl2
      unfold Pm.val at CO CT ⊢
      obtain ⟨hal, hx, hy, hg⟩ := box3 w x y
      have e0 : (((w.alloc (.cells x.cells.toArray 24)).alloc (.cells y.cells.toArray 24)).alloc (.cells (Pm.cells ⟨0, ⟨#[]⟩, ⟨#[]⟩, 0, none, 0, [], none, 0, []⟩).toArray 24)) = (((w.alloc (.cells #[.int .i64 x.kind, .string x.p, .string x.dst, .int .i64 x.at_, .slice x.a1 x.old.length x.c1, .slice x.a2 x.new.length x.c2] 24)).alloc (.cells #[.int .i64 y.kind, .string y.p, .string y.dst, .int .i64 y.at_, .slice y.a1 y.old.length y.c1, .slice y.a2 y.new.length y.c2] 24)).alloc (.cells #[.int .i64 0, .string ⟨#[]⟩, .string ⟨#[]⟩, .int .i64 0, .slice none 0 0, .slice none 0 0] 24)) := rfl
      rw [e0] at hal hx hy hg
      have HX := Lib.hid hx
      have HY := Lib.hid hy
      have HG := Lib.hid hg
      have HA := Lib.hid hal
      clear hal hx hy hg e0
      go_enter Tryd.func19, Tryd.ntmps19
      go_wp2_with fail
      generalize hwa : (((w.alloc (.cells #[.int .i64 x.kind, .string x.p, .string x.dst, .int .i64 x.at_, .slice x.a1 x.old.length x.c1, .slice x.a2 x.new.length x.c2] 24)).alloc (.cells #[.int .i64 y.kind, .string y.p, .string y.dst, .int .i64 y.at_, .slice y.a1 y.old.length y.c1, .slice y.a2 y.new.length y.c2] 24)).alloc (.cells #[.int .i64 0, .string ⟨#[]⟩, .string ⟨#[]⟩, .int .i64 0, .slice none 0 0, .slice none 0 0] 24)) = wa at *
      clear hwa
      refine (CO.out wa).mono ?_
      rintro e w1 ⟨B, rfl, hO, hb⟩
      replace HX := Lib.hid (HX.out.on hb)
      replace HY := Lib.hid (HY.out.on hb)
      replace HG := Lib.hid (HG.out.on hb)
      replace HA := Lib.hid (HA.out.trans (hb.mono HA.out.size))
      have HO := Lib.hid hO.out
      clear hb hO CO
      have x0 := HX.out.c0
      have x1 := HX.out.c1
      have x2 := HX.out.c2
      have x3 := HX.out.c3
      have x4 := HX.out.c4
      have x5 := HX.out.c5
      have y0 := HY.out.c0
      have y1 := HY.out.c1
      have y2 := HY.out.c2
      have y3 := HY.out.c3
      have y4 := HY.out.c4
      have y5 := HY.out.c5
      go_wp2_with fail
      refine (C1.out B _ HO.out).mono ?_
      rintro e w2 ⟨rfl, q2, hw2⟩
      have hb : Below w1.heap.size w1 w2 := by subst hw2; exact below_drewN (Below.refl _ _) q2
      clear x0 y0 x1 y1 x2 y2 x3 y3 x4 y4 x5 y5
      replace HX := Lib.hid (HX.out.on hb)
      replace HY := Lib.hid (HY.out.on hb)
      replace HG := Lib.hid (HG.out.on hb)
      replace HA := Lib.hid (HA.out.trans (hb.mono HA.out.size))
      replace HO := Lib.hid (HO.out.on hb)
      clear hb hw2
      have x0 := HX.out.c0
      have x1 := HX.out.c1
      have x2 := HX.out.c2
      have x3 := HX.out.c3
      have x4 := HX.out.c4
      have x5 := HX.out.c5
      have y0 := HY.out.c0
      have y1 := HY.out.c1
      have y2 := HY.out.c2
      have y3 := HY.out.c3
      have y4 := HY.out.c4
      have y5 := HY.out.c5
      go_wp2_with fail
      refine (C2.out B _ HO.out).mono ?_
      rintro e w3 ⟨rfl, q3, hw3⟩
      have hb : Below w2.heap.size w2 w3 := by subst hw3; exact below_drewN (Below.refl _ _) q3
      clear x0 y0 x1 y1 x2 y2 x3 y3 x4 y4 x5 y5
      replace HX := Lib.hid (HX.out.on hb)
      replace HY := Lib.hid (HY.out.on hb)
      replace HG := Lib.hid (HG.out.on hb)
      replace HA := Lib.hid (HA.out.trans (hb.mono HA.out.size))
      clear hb hw3 HO C1 C2
      have x0 := HX.out.c0
      have x1 := HX.out.c1
      have x2 := HX.out.c2
      have x3 := HX.out.c3
      have x4 := HX.out.c4
      have x5 := HX.out.c5
      have y0 := HY.out.c0
      have y1 := HY.out.c1
      have y2 := HY.out.c2
      have y3 := HY.out.c3
      have y4 := HY.out.c4
      have y5 := HY.out.c5
      go_wp2_with fail
      have CE := Lib.hid (fun W (hb : Below w3.heap.size w3 W) => CE.out W (HA.out.trans (hb.mono HA.out.size)))
      have HDR : Hid (Below w3.heap.size w3 w3.drew) := (Below.refl _ _).drew
      have S0 := Lib.hid (six_six (HX.out.on HDR.out) (HY.out.on HDR.out))
      go_region_held3 (fun w' => w'.cell? ⟨w.heap.size, 0, none⟩ = some (.int .i64 x.kind) ∧ w'.cell? ⟨w.heap.size, 1, none⟩ = some (.string x.p) ∧ w'.cell? ⟨w.heap.size, 2, none⟩ = some (.string x.dst) ∧ w'.cell? ⟨w.heap.size, 3, none⟩ = some (.int .i64 x.at_) ∧ w'.cell? ⟨w.heap.size, 4, none⟩ = some (.slice x.a1 x.old.length x.c1) ∧ w'.cell? ⟨w.heap.size, 5, none⟩ = some (.slice x.a2 x.new.length x.c2) ∧ w'.cell? ⟨w.heap.size + 1, 0, none⟩ = some (.int .i64 y.kind) ∧ w'.cell? ⟨w.heap.size + 1, 1, none⟩ = some (.string y.p) ∧ w'.cell? ⟨w.heap.size + 1, 2, none⟩ = some (.string y.dst) ∧ w'.cell? ⟨w.heap.size + 1, 3, none⟩ = some (.int .i64 y.at_) ∧ w'.cell? ⟨w.heap.size + 1, 4, none⟩ = some (.slice y.a1 y.old.length y.c1) ∧ w'.cell? ⟨w.heap.size + 1, 5, none⟩ = some (.slice y.a2 y.new.length y.c2)) (first
        | with_reducible exact S0.out
        | with_reducible exact S7.out
        | with_reducible exact S8.out
        | (go_keep; done)) (first
        | (go_at_call 28; (with_reducible refine (CT.out _).mono ?_); rintro e w7 ⟨rfl, hb7⟩
           have X7 := Lib.hid (HDR.out.trans (hb7.mono HDR.out.size))
           have S7 := Lib.hid (six_six (HX.out.on X7.out) (HY.out.on X7.out)))
        | (go_at_call 20; (with_reducible refine (CE.out _ X7.out).mono ?_); rintro e w8 ⟨rfl, q8, hw8⟩
           have X8 : Hid (Below w3.heap.size w3 w8) := (by subst hw8; exact below_drewN X7.out q8)
           have S8 := Lib.hid (six_six (HX.out.on X8.out) (HY.out.on X8.out))
           clear hw8))
      all_goals
        have hb := X8.out
        clear S0 S7 S8 hb7 X7 X8 HDR CT CE
        clear x0 y0 x1 y1 x2 y2 x3 y3 x4 y4 x5 y5
        replace HX := Lib.hid (HX.out.on hb)
        replace HY := Lib.hid (HY.out.on hb)
        replace HG := Lib.hid (HG.out.on hb)
        replace HA := Lib.hid (HA.out.trans (hb.mono HA.out.size))
        clear hb
        clear S5 S6
        have x0 := HX.out.c0
        have x1 := HX.out.c1
        have x2 := HX.out.c2
        have x3 := HX.out.c3
        have x4 := HX.out.c4
        have x5 := HX.out.c5
        have y0 := HY.out.c0
        have y1 := HY.out.c1
        have y2 := HY.out.c2
        have y3 := HY.out.c3
        have y4 := HY.out.c4
        have y5 := HY.out.c5
        go_wp2_with fail
        have CA := Lib.hid (fun q W (hb : Below w8.heap.size w8 W) hq => CA.out q W (HA.out.trans (hb.mono HA.out.size)) hq)
        have CB := Lib.hid (fun q W (hb : Below w8.heap.size w8 W) hq => CB.out q W (HA.out.trans (hb.mono HA.out.size)) hq)
        generalize hwz : w8 = wz at *
        clear hwz w8
        have HDR : Hid (Below wz.heap.size wz wz.drew) := (Below.refl _ _).drew
        have Y1 := Lib.hid (fun o => ((Below.refl wz.heap.size wz).alloc (Nat.le_refl _) o).drew)
        have Y2 := Lib.hid (fun o o2 => (((Below.refl wz.heap.size wz).alloc (Nat.le_refl _) o).alloc ((Below.refl wz.heap.size wz).alloc (Nat.le_refl _) o).size o2).drew)
        have S0 := Lib.hid (six_six (HX.out.on HDR.out) (HY.out.on HDR.out))
        have K1 := Lib.hid (fun o => six_six (HX.out.on (Y1.out o)) (HY.out.on (Y1.out o)))
        have K2 := Lib.hid (fun o o2 => six_six (HX.out.on (Y2.out o o2)) (HY.out.on (Y2.out o o2)))
        have q0 := row_new wz (.cells #[.slice A7 l7.length c7, .slice x.a1 x.old.length x.c1, .slice A8 l8.length c8] 22)
        have q1 := row_two_new wz (.cells #[.slice A7 l7.length c7, .slice x.a1 x.old.length x.c1, .slice A8 l8.length c8] 22) (.cells #[.slice A9 l9.length c9, .slice y.a2 y.new.length y.c2, .slice A10 l10.length c10] 22)
        have q2 := row_two_new wz (.cells #[.slice A9 l9.length c9, .slice y.a2 y.new.length y.c2, .slice A10 l10.length c10] 22) (.cells #[.slice A7 l7.length c7, .slice x.a1 x.old.length x.c1, .slice A8 l8.length c8] 22)
        have CAa := Lib.hid (CA.out wz.heap.size (wz.alloc (.cells #[.slice A7 l7.length c7, .slice x.a1 x.old.length x.c1, .slice A8 l8.length c8] 22)).drew (Y1.out _) q0.1)
        have CAb := Lib.hid (CA.out wz.heap.size ((wz.alloc (.cells #[.slice A7 l7.length c7, .slice x.a1 x.old.length x.c1, .slice A8 l8.length c8] 22)).alloc (.cells #[.slice A9 l9.length c9, .slice y.a2 y.new.length y.c2, .slice A10 l10.length c10] 22)).drew (Y2.out _ _) q1.1)
        have CAc := Lib.hid (CA.out (wz.heap.size + 1) ((wz.alloc (.cells #[.slice A9 l9.length c9, .slice y.a2 y.new.length y.c2, .slice A10 l10.length c10] 22)).alloc (.cells #[.slice A7 l7.length c7, .slice x.a1 x.old.length x.c1, .slice A8 l8.length c8] 22)).drew (Y2.out _ _) q2.2)
        have CBa := Lib.hid (fun W (hb : Below wz.heap.size wz W) => CB.out W.heap.size (W.alloc (.cells #[.slice A9 l9.length c9, .slice y.a2 y.new.length y.c2, .slice A10 l10.length c10] 22)) (hb.alloc hb.size _) (row_new W (.cells #[.slice A9 l9.length c9, .slice y.a2 y.new.length y.c2, .slice A10 l10.length c10] 22)).1)
        have CBb := Lib.hid (fun W (hb : Below ((wz.alloc (.cells #[.slice A7 l7.length c7, .slice x.a1 x.old.length x.c1, .slice A8 l8.length c8] 22)).alloc (.cells #[.slice A9 l9.length c9, .slice y.a2 y.new.length y.c2, .slice A10 l10.length c10] 22)).drew.heap.size ((wz.alloc (.cells #[.slice A7 l7.length c7, .slice x.a1 x.old.length x.c1, .slice A8 l8.length c8] 22)).alloc (.cells #[.slice A9 l9.length c9, .slice y.a2 y.new.length y.c2, .slice A10 l10.length c10] 22)).drew W) => CB.out (wz.heap.size + 1) W ((Y2.out _ _).trans (hb.mono (Y2.out _ _).size)) (row_kept hb q1.2))
        have CBc := Lib.hid (fun W (hb : Below ((wz.alloc (.cells #[.slice A9 l9.length c9, .slice y.a2 y.new.length y.c2, .slice A10 l10.length c10] 22)).alloc (.cells #[.slice A7 l7.length c7, .slice x.a1 x.old.length x.c1, .slice A8 l8.length c8] 22)).drew.heap.size ((wz.alloc (.cells #[.slice A9 l9.length c9, .slice y.a2 y.new.length y.c2, .slice A10 l10.length c10] 22)).alloc (.cells #[.slice A7 l7.length c7, .slice x.a1 x.old.length x.c1, .slice A8 l8.length c8] 22)).drew W) => CB.out wz.heap.size W ((Y2.out _ _).trans (hb.mono (Y2.out _ _).size)) (row_kept hb q2.1))
        clear q0 q1 q2 CA CB
        refine wp_region_noPanic ?_
        refine wp_region_held_drew (S := (fun w' => w'.cell? ⟨w.heap.size, 0, none⟩ = some (.int .i64 x.kind) ∧ w'.cell? ⟨w.heap.size, 1, none⟩ = some (.string x.p) ∧ w'.cell? ⟨w.heap.size, 2, none⟩ = some (.string x.dst) ∧ w'.cell? ⟨w.heap.size, 3, none⟩ = some (.int .i64 x.at_) ∧ w'.cell? ⟨w.heap.size, 4, none⟩ = some (.slice x.a1 x.old.length x.c1) ∧ w'.cell? ⟨w.heap.size, 5, none⟩ = some (.slice x.a2 x.new.length x.c2) ∧ w'.cell? ⟨w.heap.size + 1, 0, none⟩ = some (.int .i64 y.kind) ∧ w'.cell? ⟨w.heap.size + 1, 1, none⟩ = some (.string y.p) ∧ w'.cell? ⟨w.heap.size + 1, 2, none⟩ = some (.string y.dst) ∧ w'.cell? ⟨w.heap.size + 1, 3, none⟩ = some (.int .i64 y.at_) ∧ w'.cell? ⟨w.heap.size + 1, 4, none⟩ = some (.slice y.a1 y.old.length y.c1) ∧ w'.cell? ⟨w.heap.size + 1, 5, none⟩ = some (.slice y.a2 y.new.length y.c2))) (by kernel_rfl) S0.out (fun hHeld => ?_)
        refine wpAnyH_take (i := 0) (oi := { dst := some 47, op := _, type := _, pos := _, after := _, guard := _ }) (v := .pointer (some ⟨w.heap.size, 1, none⟩)) rfl (by kernel_rfl) (by kernel_rfl) (by kernel_rfl) (fun _ _ _ h => h) (Or.inl ⟨by rfl, fun w' hSw => ?_⟩) (by assumption) ?_
        · ((try dsimp only at hSw); go_simp)
        try simp only [Act.put, List.setIfInBounds_toArray, List.set_cons_zero, List.set_cons_succ]
        refine wpAnyH_take (i := 1) (oi := { dst := some 48, op := _, type := _, pos := _, after := _, guard := _ }) (v := .string x.p) rfl (by kernel_rfl) (by kernel_rfl) (by kernel_rfl) (fun _ _ _ h => h) (Or.inl ⟨by rfl, fun w' hSw => ?_⟩) (by assumption) ?_
        · ((try dsimp only at hSw); go_simp)
        try simp only [Act.put, List.setIfInBounds_toArray, List.set_cons_zero, List.set_cons_succ]
        refine wpAnyH_take (i := 2) (oi := { dst := some 49, op := _, type := _, pos := _, after := _, guard := _ }) (v := .pointer (some ⟨w.heap.size, 3, none⟩)) rfl (by kernel_rfl) (by kernel_rfl) (by kernel_rfl) (fun _ _ _ h => h) (Or.inl ⟨by rfl, fun w' hSw => ?_⟩) (by assumption) ?_
        · ((try dsimp only at hSw); go_simp)
        try simp only [Act.put, List.setIfInBounds_toArray, List.set_cons_zero, List.set_cons_succ]
        refine wpAnyH_take (i := 3) (oi := { dst := some 50, op := _, type := _, pos := _, after := _, guard := _ }) (v := .int .i64 (x.at_ : Int)) rfl (by kernel_rfl) (by kernel_rfl) (by kernel_rfl) (fun _ _ _ h => h) (Or.inl ⟨by rfl, fun w' hSw => ?_⟩) (by assumption) ?_
        · ((try dsimp only at hSw); go_simp)
        try simp only [Act.put, List.setIfInBounds_toArray, List.set_cons_zero, List.set_cons_succ]
        refine wpAnyH_take (i := 4) (oi := { dst := some 51, op := _, type := _, pos := _, after := _, guard := _ }) (v := .pointer (some ⟨w.heap.size + 1, 3, none⟩)) rfl (by kernel_rfl) (by kernel_rfl) (by kernel_rfl) (fun _ _ _ h => h) (Or.inl ⟨by rfl, fun w' hSw => ?_⟩) (by assumption) ?_
        · ((try dsimp only at hSw); go_simp)
        try simp only [Act.put, List.setIfInBounds_toArray, List.set_cons_zero, List.set_cons_succ]
        refine wpAnyH_take (i := 5) (oi := { dst := some 52, op := _, type := _, pos := _, after := _, guard := _ }) (v := .int .i64 (y.at_ : Int)) rfl (by kernel_rfl) (by kernel_rfl) (by kernel_rfl) (fun _ _ _ h => h) (Or.inl ⟨by rfl, fun w' hSw => ?_⟩) (by assumption) ?_
        · ((try dsimp only at hSw); go_simp)
        try simp only [Act.put, List.setIfInBounds_toArray, List.set_cons_zero, List.set_cons_succ]
        refine wpAnyH_take (i := 6) (oi := { dst := some 53, op := _, type := _, pos := _, after := _, guard := _ }) (v := .int .i64 (mn : Int)) rfl (by kernel_rfl) (by kernel_rfl) (by kernel_rfl) (fun _ _ _ h => h) (Or.inl ⟨by rfl, fun w' hSw => ?_⟩) (by assumption) ?_
        · ((try dsimp only at hSw); go_simp)
        try simp only [Act.put, List.setIfInBounds_toArray, List.set_cons_zero, List.set_cons_succ]
        refine wpAnyH_take (i := 7) (oi := { dst := some 54, op := _, type := _, pos := _, after := _, guard := _ }) (v := .pointer (some ⟨w.heap.size + 1, 4, none⟩)) rfl (by kernel_rfl) (by kernel_rfl) (by kernel_rfl) (fun _ _ _ h => h) (Or.inl ⟨by rfl, fun w' hSw => ?_⟩) (by assumption) ?_
        · ((try dsimp only at hSw); go_simp)
        try simp only [Act.put, List.setIfInBounds_toArray, List.set_cons_zero, List.set_cons_succ]
        refine wpAnyH_take (i := 8) (oi := { dst := some 55, op := _, type := _, pos := _, after := _, guard := _ }) (v := .slice y.a1 y.old.length y.c1) rfl (by kernel_rfl) (by kernel_rfl) (by kernel_rfl) (fun _ _ _ h => h) (Or.inl ⟨by rfl, fun w' hSw => ?_⟩) (by assumption) ?_
        · ((try dsimp only at hSw); go_simp)
        try simp only [Act.put, List.setIfInBounds_toArray, List.set_cons_zero, List.set_cons_succ]
        refine wpAnyH_take (i := 9) (oi := { dst := some 56, op := _, type := _, pos := _, after := _, guard := _ }) (v := .int .i64 (mf : Int)) rfl (by kernel_rfl) (by kernel_rfl) (by kernel_rfl) (fun _ _ _ h => h) (Or.inl ⟨by rfl, fun w' hSw => ?_⟩) (by assumption) ?_
        · ((try dsimp only at hSw); go_simp)
        try simp only [Act.put, List.setIfInBounds_toArray, List.set_cons_zero, List.set_cons_succ]
        refine wpAnyH_take (i := 10) (oi := { dst := some 57, op := _, type := _, pos := _, after := _, guard := _ }) (v := .slice A7 l7.length c7) rfl (by kernel_rfl) (by kernel_rfl) (by kernel_rfl) (fun _ _ _ h => h) (Or.inl ⟨by rfl, fun w' hSw => ?_⟩) (by assumption) ?_
        · ((try dsimp only at hSw); go_simp)
        try simp only [Act.put, List.setIfInBounds_toArray, List.set_cons_zero, List.set_cons_succ]
        refine wpAnyH_take (i := 11) (oi := { dst := some 58, op := _, type := _, pos := _, after := _, guard := _ }) (v := .pointer (some ⟨w.heap.size, 4, none⟩)) rfl (by kernel_rfl) (by kernel_rfl) (by kernel_rfl) (fun _ _ _ h => h) (Or.inl ⟨by rfl, fun w' hSw => ?_⟩) (by assumption) ?_
        · ((try dsimp only at hSw); go_simp)
        try simp only [Act.put, List.setIfInBounds_toArray, List.set_cons_zero, List.set_cons_succ]
        refine wpAnyH_take (i := 12) (oi := { dst := some 59, op := _, type := _, pos := _, after := _, guard := _ }) (v := .slice x.a1 x.old.length x.c1) rfl (by kernel_rfl) (by kernel_rfl) (by kernel_rfl) (fun _ _ _ h => h) (Or.inl ⟨by rfl, fun w' hSw => ?_⟩) (by assumption) ?_
        · ((try dsimp only at hSw); go_simp)
        try simp only [Act.put, List.setIfInBounds_toArray, List.set_cons_zero, List.set_cons_succ]
        refine wpAnyH_take (i := 13) (oi := { dst := some 60, op := _, type := _, pos := _, after := _, guard := _ }) (v := .pointer (some ⟨w.heap.size + 1, 4, none⟩)) rfl (by kernel_rfl) (by kernel_rfl) (by kernel_rfl) (fun _ _ _ h => h) (Or.inl ⟨by rfl, fun w' hSw => ?_⟩) (by assumption) ?_
        · ((try dsimp only at hSw); go_simp)
        try simp only [Act.put, List.setIfInBounds_toArray, List.set_cons_zero, List.set_cons_succ]
        refine wpAnyH_take (i := 14) (oi := { dst := some 61, op := _, type := _, pos := _, after := _, guard := _ }) (v := .slice y.a1 y.old.length y.c1) rfl (by kernel_rfl) (by kernel_rfl) (by kernel_rfl) (fun _ _ _ h => h) (Or.inl ⟨by rfl, fun w' hSw => ?_⟩) (by assumption) ?_
        · ((try dsimp only at hSw); go_simp)
        try simp only [Act.put, List.setIfInBounds_toArray, List.set_cons_zero, List.set_cons_succ]
        refine wpAnyH_take (i := 15) (oi := { dst := some 62, op := _, type := _, pos := _, after := _, guard := _ }) (v := .int .i64 (mt : Int)) rfl (by kernel_rfl) (by kernel_rfl) (by kernel_rfl) (fun _ _ _ h => h) (Or.inl ⟨by rfl, fun w' hSw => ?_⟩) (by assumption) ?_
        · ((try dsimp only at hSw); go_simp)
        try simp only [Act.put, List.setIfInBounds_toArray, List.set_cons_zero, List.set_cons_succ]
        refine wpAnyH_take (i := 16) (oi := { dst := some 63, op := _, type := _, pos := _, after := _, guard := _ }) (v := .slice A8 l8.length c8) rfl (by kernel_rfl) (by kernel_rfl) (by kernel_rfl) (fun _ _ _ h => h) (Or.inl ⟨by rfl, fun w' hSw => ?_⟩) (by assumption) ?_
        · ((try dsimp only at hSw); go_simp)
        try simp only [Act.put, List.setIfInBounds_toArray, List.set_cons_zero, List.set_cons_succ]
        refine wpAnyH_take (i := 19) (oi := { dst := some 66, op := _, type := _, pos := _, after := _, guard := _ }) (v := .pointer (some ⟨w.heap.size, 5, none⟩)) rfl (by kernel_rfl) (by kernel_rfl) (by kernel_rfl) (fun _ _ _ h => h) (Or.inl ⟨by rfl, fun w' hSw => ?_⟩) (by assumption) ?_
        · ((try dsimp only at hSw); go_simp)
        try simp only [Act.put, List.setIfInBounds_toArray, List.set_cons_zero, List.set_cons_succ]
        refine wpAnyH_take (i := 20) (oi := { dst := some 67, op := _, type := _, pos := _, after := _, guard := _ }) (v := .slice x.a2 x.new.length x.c2) rfl (by kernel_rfl) (by kernel_rfl) (by kernel_rfl) (fun _ _ _ h => h) (Or.inl ⟨by rfl, fun w' hSw => ?_⟩) (by assumption) ?_
        · ((try dsimp only at hSw); go_simp)
        try simp only [Act.put, List.setIfInBounds_toArray, List.set_cons_zero, List.set_cons_succ]
        refine wpAnyH_take (i := 21) (oi := { dst := some 68, op := _, type := _, pos := _, after := _, guard := _ }) (v := .int .i64 (nf : Int)) rfl (by kernel_rfl) (by kernel_rfl) (by kernel_rfl) (fun _ _ _ h => h) (Or.inl ⟨by rfl, fun w' hSw => ?_⟩) (by assumption) ?_
        · ((try dsimp only at hSw); go_simp)
        try simp only [Act.put, List.setIfInBounds_toArray, List.set_cons_zero, List.set_cons_succ]
        refine wpAnyH_take (i := 22) (oi := { dst := some 69, op := _, type := _, pos := _, after := _, guard := _ }) (v := .slice A9 l9.length c9) rfl (by kernel_rfl) (by kernel_rfl) (by kernel_rfl) (fun _ _ _ h => h) (Or.inl ⟨by rfl, fun w' hSw => ?_⟩) (by assumption) ?_
        · ((try dsimp only at hSw); go_simp)
        try simp only [Act.put, List.setIfInBounds_toArray, List.set_cons_zero, List.set_cons_succ]
        refine wpAnyH_take (i := 23) (oi := { dst := some 70, op := _, type := _, pos := _, after := _, guard := _ }) (v := .pointer (some ⟨w.heap.size + 1, 5, none⟩)) rfl (by kernel_rfl) (by kernel_rfl) (by kernel_rfl) (fun _ _ _ h => h) (Or.inl ⟨by rfl, fun w' hSw => ?_⟩) (by assumption) ?_
        · ((try dsimp only at hSw); go_simp)
        try simp only [Act.put, List.setIfInBounds_toArray, List.set_cons_zero, List.set_cons_succ]
        refine wpAnyH_take (i := 24) (oi := { dst := some 71, op := _, type := _, pos := _, after := _, guard := _ }) (v := .slice y.a2 y.new.length y.c2) rfl (by kernel_rfl) (by kernel_rfl) (by kernel_rfl) (fun _ _ _ h => h) (Or.inl ⟨by rfl, fun w' hSw => ?_⟩) (by assumption) ?_
        · ((try dsimp only at hSw); go_simp)
        try simp only [Act.put, List.setIfInBounds_toArray, List.set_cons_zero, List.set_cons_succ]
        refine wpAnyH_take (i := 25) (oi := { dst := some 72, op := _, type := _, pos := _, after := _, guard := _ }) (v := .pointer (some ⟨w.heap.size, 5, none⟩)) rfl (by kernel_rfl) (by kernel_rfl) (by kernel_rfl) (fun _ _ _ h => h) (Or.inl ⟨by rfl, fun w' hSw => ?_⟩) (by assumption) ?_
        · ((try dsimp only at hSw); go_simp)
        try simp only [Act.put, List.setIfInBounds_toArray, List.set_cons_zero, List.set_cons_succ]
        refine wpAnyH_take (i := 26) (oi := { dst := some 73, op := _, type := _, pos := _, after := _, guard := _ }) (v := .slice x.a2 x.new.length x.c2) rfl (by kernel_rfl) (by kernel_rfl) (by kernel_rfl) (fun _ _ _ h => h) (Or.inl ⟨by rfl, fun w' hSw => ?_⟩) (by assumption) ?_
        · ((try dsimp only at hSw); go_simp)
        try simp only [Act.put, List.setIfInBounds_toArray, List.set_cons_zero, List.set_cons_succ]
        refine wpAnyH_take (i := 27) (oi := { dst := some 74, op := _, type := _, pos := _, after := _, guard := _ }) (v := .int .i64 (nt : Int)) rfl (by kernel_rfl) (by kernel_rfl) (by kernel_rfl) (fun _ _ _ h => h) (Or.inl ⟨by rfl, fun w' hSw => ?_⟩) (by assumption) ?_
        · ((try dsimp only at hSw); go_simp)
        try simp only [Act.put, List.setIfInBounds_toArray, List.set_cons_zero, List.set_cons_succ]
        refine wpAnyH_take (i := 28) (oi := { dst := some 75, op := _, type := _, pos := _, after := _, guard := _ }) (v := .slice A10 l10.length c10) rfl (by kernel_rfl) (by kernel_rfl) (by kernel_rfl) (fun _ _ _ h => h) (Or.inl ⟨by rfl, fun w' hSw => ?_⟩) (by assumption) ?_
        · ((try dsimp only at hSw); go_simp)
        try simp only [Act.put, List.setIfInBounds_toArray, List.set_cons_zero, List.set_cons_succ]
        refine wpAnyH_ready (rs := [17, 29]) (by kernel_rfl) (by simp) ?_
        refine AllReadyH.cons rfl (fun K hK => ?_) (AllReadyH.cons rfl (fun K hK => ?_) AllReadyH.nil)
        · go_simp
          refine hK.out _ _ (K1.out _) (fun hHeld17 => ?_)
          clear hK K hHeld
          try simp only [Act.put, List.setIfInBounds_toArray, List.set_cons_zero, List.set_cons_succ]
          refine wpAnyH_ready (rs := [18, 29]) (by kernel_rfl) (by simp) ?_
          refine AllReadyH.cons rfl (fun K hK => ?_) (AllReadyH.cons rfl (fun K hK => ?_) AllReadyH.nil)
          · go_simp
            go_at_call 35
            refine (CAa.out).mono ?_
            rintro e w7 ⟨A1, k1, rfl, ho7, hb7⟩
            have X7 : Hid (Below wz.heap.size wz w7) := (Y1.out _).trans (hb7.mono (Y1.out _).size)
            have S7 := Lib.hid (six_six (HX.out.on X7.out) (HY.out.on X7.out))
            have K7 := Lib.hid (fun o => six_six (HX.out.on (X7.out.alloc X7.out.size o)) (HY.out.on (X7.out.alloc X7.out.size o)))
            refine hK.out _ _ (S7.out) (fun hHeld18 => ?_)
            clear hK K hHeld17
            try simp only [Act.put, List.setIfInBounds_toArray, List.set_cons_zero, List.set_cons_succ]
            refine wpAnyH_ready (rs := [29]) (by kernel_rfl) (by simp) ?_
            refine AllReadyH.cons rfl (fun K hK => ?_) AllReadyH.nil
            go_simp
            refine hK.out _ _ (K7.out _) (fun hHeld29 => ?_)
            clear hK K hHeld18
            try simp only [Act.put, List.setIfInBounds_toArray, List.set_cons_zero, List.set_cons_succ]
            refine wpAnyH_ready (rs := [30]) (by kernel_rfl) (by simp) ?_
            refine AllReadyH.cons rfl (fun K hK => ?_) AllReadyH.nil
            go_simp
            go_at_call 35
            refine (CBa.out w7 X7.out).mono ?_
            rintro e w8 ⟨A2, k2, rfl, ho8, hb8⟩
            have b78 : Hid (Below w7.heap.size w7 w8) := ((Below.refl _ _).alloc (Nat.le_refl _) _).trans (hb8.mono ((Below.refl w7.heap.size w7).alloc (Nat.le_refl _) (.cells #[.slice A9 l9.length c9, .slice y.a2 y.new.length y.c2, .slice A10 l10.length c10] 22)).size)
            have X8 : Hid (Below wz.heap.size wz w8) := X7.out.trans (b78.out.mono X7.out.size)
            have S8 := Lib.hid (six_six (HX.out.on X8.out) (HY.out.on X8.out))
            have SX := Lib.hid (HX.out.on X8.out)
            have SY := Lib.hid (HY.out.on X8.out)
            have tg := HG.out.on X8.out
            have g0 := tg.c0
            have gf0 := tg.fz 0
            have g1 := tg.c1
            have gf1 := tg.fz 1
            have g2 := tg.c2
            have gf2 := tg.fz 2
            have g3 := tg.c3
            have gf3 := tg.fz 3
            have g4 := tg.c4
            have gf4 := tg.fz 4
            have g5 := tg.c5
            have gf5 := tg.fz 5
            have SA := Lib.hid (six_six (prim_set6 (h := w.heap.size + 1 + 1) (v0 := .int .i64 6) (v1 := .string x.p) (v2 := .string ⟨#[]⟩) (v3 := .int .i64 mn) (v4 := .slice A1 L1.length k1) (v5 := .slice A2 L2.length k2) SX.out (by omega)) (prim_set6 (h := w.heap.size + 1 + 1) (v0 := .int .i64 6) (v1 := .string x.p) (v2 := .string ⟨#[]⟩) (v3 := .int .i64 mn) (v4 := .slice A1 L1.length k1) (v5 := .slice A2 L2.length k2) SY.out (by omega)))
            refine hK.out _ _ (S8.out) (fun hHeld30 => ?_)
            clear hK K hHeld29
            try simp only [Act.put, List.setIfInBounds_toArray, List.set_cons_zero, List.set_cons_succ]
            refine wpAnyH_take (i := 31) (oi := { dst := some 78, op := _, type := _, pos := _, after := _, guard := _ }) (v := .agg #[.int .i64 6, .string x.p, .string ⟨#[]⟩, .int .i64 mn, .slice A1 L1.length k1, .slice A2 L2.length k2]) rfl (by kernel_rfl) (by kernel_rfl) (by kernel_rfl) (fun _ _ _ h => h) (Or.inl ⟨by rfl, fun w' hSw => ?_⟩) (by assumption) ?_
            · ((try dsimp only at hSw); go_simp)
            try simp only [Act.put, List.setIfInBounds_toArray, List.set_cons_zero, List.set_cons_succ]
            refine wpAnyH_ready (rs := [32]) (by kernel_rfl) (by simp) ?_
            refine AllReadyH.cons rfl (fun K hK => ?_) AllReadyH.nil
            go_simp
            refine hK.out _ _ (SA.out) (fun hHeld32 => ?_)
            clear hK K hHeld30
            try simp only [Act.put, List.setIfInBounds_toArray, List.set_cons_zero, List.set_cons_succ]
            refine wpAnyH_take (i := 33) (oi := { dst := some 5, op := _, type := _, pos := _, after := _, guard := _ }) (v := .bool true) rfl (by kernel_rfl) (by kernel_rfl) (by kernel_rfl) (fun _ _ _ h => h) (Or.inl ⟨by rfl, fun w' hSw => ?_⟩) (by assumption) ?_
            · ((try dsimp only at hSw); go_simp)
            try simp only [Act.put, List.setIfInBounds_toArray, List.set_cons_zero, List.set_cons_succ]
            refine wpAnyH_done (by kernel_rfl) ?_ _
            refine NoPanic.normal ?_
            have hz := HZ.out w8 A1 k1 A2 k2 (ho7.kept b78.out) ho8
            have HT := Lib.hid (hunk_set (w := w) (o := some hh) (HA.out.trans (X8.out.mono HA.out.size)) (show w.heap.size ≤ w.heap.size + 1 + 1 by omega) (HG.out.on X8.out) hz.1 hz.2 true rfl)
            have HT1 := Lib.hid HT.out.1
            have HT2 := Lib.hid HT.out.2
            clear HT hz S0 K1 K2 S7 K7 S8 SA SX SY tg ho7 ho8 hb7 hb8 b78 X7 X8 CAa CAb CAc CBa CBb CBc Y1 Y2 HDR HZ
            clear g0 gf0 g1 gf1 g2 gf2 g3 gf3 g4 gf4 g5 gf5
            go_wp
            (try simp only [Exit.inBlock, Exit.then])
            refine bodyPost_ret (ret_prim2 rfl _ _ _ ⟨6, x.p, ⟨#[]⟩, mn, A1, k1, L1, A2, k2, L2⟩ _ rfl rfl HT2.out) rfl ?_
            exact HT1.out
          · go_simp
            refine hK.out _ _ (K2.out _ _) (fun hHeld29 => ?_)
            clear hK K hHeld17
            try simp only [Act.put, List.setIfInBounds_toArray, List.set_cons_zero, List.set_cons_succ]
            refine wpAnyH_ready (rs := [18]) (by kernel_rfl) (by simp) ?_
            refine AllReadyH.cons rfl (fun K hK => ?_) AllReadyH.nil
            go_simp
            go_at_call 35
            refine (CAb.out).mono ?_
            rintro e w7 ⟨A1, k1, rfl, ho7, hb7⟩
            have X7 : Hid (Below wz.heap.size wz w7) := (Y2.out _ _).trans (hb7.mono (Y2.out _ _).size)
            have S7 := Lib.hid (six_six (HX.out.on X7.out) (HY.out.on X7.out))
            have K7 := Lib.hid (fun o => six_six (HX.out.on (X7.out.alloc X7.out.size o)) (HY.out.on (X7.out.alloc X7.out.size o)))
            refine hK.out _ _ (S7.out) (fun hHeld18 => ?_)
            clear hK K hHeld29
            try simp only [Act.put, List.setIfInBounds_toArray, List.set_cons_zero, List.set_cons_succ]
            refine wpAnyH_ready (rs := [30]) (by kernel_rfl) (by simp) ?_
            refine AllReadyH.cons rfl (fun K hK => ?_) AllReadyH.nil
            go_simp
            go_at_call 35
            refine (CBb.out w7 hb7).mono ?_
            rintro e w8 ⟨A2, k2, rfl, ho8, hb8⟩
            have b78 : Hid (Below w7.heap.size w7 w8) := hb8
            have X8 : Hid (Below wz.heap.size wz w8) := X7.out.trans (b78.out.mono X7.out.size)
            have S8 := Lib.hid (six_six (HX.out.on X8.out) (HY.out.on X8.out))
            have SX := Lib.hid (HX.out.on X8.out)
            have SY := Lib.hid (HY.out.on X8.out)
            have tg := HG.out.on X8.out
            have g0 := tg.c0
            have gf0 := tg.fz 0
            have g1 := tg.c1
            have gf1 := tg.fz 1
            have g2 := tg.c2
            have gf2 := tg.fz 2
            have g3 := tg.c3
            have gf3 := tg.fz 3
            have g4 := tg.c4
            have gf4 := tg.fz 4
            have g5 := tg.c5
            have gf5 := tg.fz 5
            have SA := Lib.hid (six_six (prim_set6 (h := w.heap.size + 1 + 1) (v0 := .int .i64 6) (v1 := .string x.p) (v2 := .string ⟨#[]⟩) (v3 := .int .i64 mn) (v4 := .slice A1 L1.length k1) (v5 := .slice A2 L2.length k2) SX.out (by omega)) (prim_set6 (h := w.heap.size + 1 + 1) (v0 := .int .i64 6) (v1 := .string x.p) (v2 := .string ⟨#[]⟩) (v3 := .int .i64 mn) (v4 := .slice A1 L1.length k1) (v5 := .slice A2 L2.length k2) SY.out (by omega)))
            refine hK.out _ _ (S8.out) (fun hHeld30 => ?_)
            clear hK K hHeld18
            try simp only [Act.put, List.setIfInBounds_toArray, List.set_cons_zero, List.set_cons_succ]
            refine wpAnyH_take (i := 31) (oi := { dst := some 78, op := _, type := _, pos := _, after := _, guard := _ }) (v := .agg #[.int .i64 6, .string x.p, .string ⟨#[]⟩, .int .i64 mn, .slice A1 L1.length k1, .slice A2 L2.length k2]) rfl (by kernel_rfl) (by kernel_rfl) (by kernel_rfl) (fun _ _ _ h => h) (Or.inl ⟨by rfl, fun w' hSw => ?_⟩) (by assumption) ?_
            · ((try dsimp only at hSw); go_simp)
            try simp only [Act.put, List.setIfInBounds_toArray, List.set_cons_zero, List.set_cons_succ]
            refine wpAnyH_ready (rs := [32]) (by kernel_rfl) (by simp) ?_
            refine AllReadyH.cons rfl (fun K hK => ?_) AllReadyH.nil
            go_simp
            refine hK.out _ _ (SA.out) (fun hHeld32 => ?_)
            clear hK K hHeld30
            try simp only [Act.put, List.setIfInBounds_toArray, List.set_cons_zero, List.set_cons_succ]
            refine wpAnyH_take (i := 33) (oi := { dst := some 5, op := _, type := _, pos := _, after := _, guard := _ }) (v := .bool true) rfl (by kernel_rfl) (by kernel_rfl) (by kernel_rfl) (fun _ _ _ h => h) (Or.inl ⟨by rfl, fun w' hSw => ?_⟩) (by assumption) ?_
            · ((try dsimp only at hSw); go_simp)
            try simp only [Act.put, List.setIfInBounds_toArray, List.set_cons_zero, List.set_cons_succ]
            refine wpAnyH_done (by kernel_rfl) ?_ _
            refine NoPanic.normal ?_
            have hz := HZ.out w8 A1 k1 A2 k2 (ho7.kept b78.out) ho8
            have HT := Lib.hid (hunk_set (w := w) (o := some hh) (HA.out.trans (X8.out.mono HA.out.size)) (show w.heap.size ≤ w.heap.size + 1 + 1 by omega) (HG.out.on X8.out) hz.1 hz.2 true rfl)
            have HT1 := Lib.hid HT.out.1
            have HT2 := Lib.hid HT.out.2
            clear HT hz S0 K1 K2 S7 K7 S8 SA SX SY tg ho7 ho8 hb7 hb8 b78 X7 X8 CAa CAb CAc CBa CBb CBc Y1 Y2 HDR HZ
            clear g0 gf0 g1 gf1 g2 gf2 g3 gf3 g4 gf4 g5 gf5
            go_wp
            (try simp only [Exit.inBlock, Exit.then])
            refine bodyPost_ret (ret_prim2 rfl _ _ _ ⟨6, x.p, ⟨#[]⟩, mn, A1, k1, L1, A2, k2, L2⟩ _ rfl rfl HT2.out) rfl ?_
            exact HT1.out
        · go_simp
          refine hK.out _ _ (K1.out _) (fun hHeld29 => ?_)
          clear hK K hHeld
          try simp only [Act.put, List.setIfInBounds_toArray, List.set_cons_zero, List.set_cons_succ]
          refine wpAnyH_ready (rs := [17]) (by kernel_rfl) (by simp) ?_
          refine AllReadyH.cons rfl (fun K hK => ?_) AllReadyH.nil
          go_simp
          refine hK.out _ _ (K2.out _ _) (fun hHeld17 => ?_)
          clear hK K hHeld29
          try simp only [Act.put, List.setIfInBounds_toArray, List.set_cons_zero, List.set_cons_succ]
          refine wpAnyH_ready (rs := [18]) (by kernel_rfl) (by simp) ?_
          refine AllReadyH.cons rfl (fun K hK => ?_) AllReadyH.nil
          go_simp
          go_at_call 35
          refine (CAc.out).mono ?_
          rintro e w7 ⟨A1, k1, rfl, ho7, hb7⟩
          have X7 : Hid (Below wz.heap.size wz w7) := (Y2.out _ _).trans (hb7.mono (Y2.out _ _).size)
          have S7 := Lib.hid (six_six (HX.out.on X7.out) (HY.out.on X7.out))
          have K7 := Lib.hid (fun o => six_six (HX.out.on (X7.out.alloc X7.out.size o)) (HY.out.on (X7.out.alloc X7.out.size o)))
          refine hK.out _ _ (S7.out) (fun hHeld18 => ?_)
          clear hK K hHeld17
          try simp only [Act.put, List.setIfInBounds_toArray, List.set_cons_zero, List.set_cons_succ]
          refine wpAnyH_ready (rs := [30]) (by kernel_rfl) (by simp) ?_
          refine AllReadyH.cons rfl (fun K hK => ?_) AllReadyH.nil
          go_simp
          go_at_call 35
          refine (CBc.out w7 hb7).mono ?_
          rintro e w8 ⟨A2, k2, rfl, ho8, hb8⟩
          have b78 : Hid (Below w7.heap.size w7 w8) := hb8
          have X8 : Hid (Below wz.heap.size wz w8) := X7.out.trans (b78.out.mono X7.out.size)
          have S8 := Lib.hid (six_six (HX.out.on X8.out) (HY.out.on X8.out))
          have SX := Lib.hid (HX.out.on X8.out)
          have SY := Lib.hid (HY.out.on X8.out)
          have tg := HG.out.on X8.out
          have g0 := tg.c0
          have gf0 := tg.fz 0
          have g1 := tg.c1
          have gf1 := tg.fz 1
          have g2 := tg.c2
          have gf2 := tg.fz 2
          have g3 := tg.c3
          have gf3 := tg.fz 3
          have g4 := tg.c4
          have gf4 := tg.fz 4
          have g5 := tg.c5
          have gf5 := tg.fz 5
          have SA := Lib.hid (six_six (prim_set6 (h := w.heap.size + 1 + 1) (v0 := .int .i64 6) (v1 := .string x.p) (v2 := .string ⟨#[]⟩) (v3 := .int .i64 mn) (v4 := .slice A1 L1.length k1) (v5 := .slice A2 L2.length k2) SX.out (by omega)) (prim_set6 (h := w.heap.size + 1 + 1) (v0 := .int .i64 6) (v1 := .string x.p) (v2 := .string ⟨#[]⟩) (v3 := .int .i64 mn) (v4 := .slice A1 L1.length k1) (v5 := .slice A2 L2.length k2) SY.out (by omega)))
          refine hK.out _ _ (S8.out) (fun hHeld30 => ?_)
          clear hK K hHeld18
          try simp only [Act.put, List.setIfInBounds_toArray, List.set_cons_zero, List.set_cons_succ]
          refine wpAnyH_take (i := 31) (oi := { dst := some 78, op := _, type := _, pos := _, after := _, guard := _ }) (v := .agg #[.int .i64 6, .string x.p, .string ⟨#[]⟩, .int .i64 mn, .slice A1 L1.length k1, .slice A2 L2.length k2]) rfl (by kernel_rfl) (by kernel_rfl) (by kernel_rfl) (fun _ _ _ h => h) (Or.inl ⟨by rfl, fun w' hSw => ?_⟩) (by assumption) ?_
          · ((try dsimp only at hSw); go_simp)
          try simp only [Act.put, List.setIfInBounds_toArray, List.set_cons_zero, List.set_cons_succ]
          refine wpAnyH_ready (rs := [32]) (by kernel_rfl) (by simp) ?_
          refine AllReadyH.cons rfl (fun K hK => ?_) AllReadyH.nil
          go_simp
          refine hK.out _ _ (SA.out) (fun hHeld32 => ?_)
          clear hK K hHeld30
          try simp only [Act.put, List.setIfInBounds_toArray, List.set_cons_zero, List.set_cons_succ]
          refine wpAnyH_take (i := 33) (oi := { dst := some 5, op := _, type := _, pos := _, after := _, guard := _ }) (v := .bool true) rfl (by kernel_rfl) (by kernel_rfl) (by kernel_rfl) (fun _ _ _ h => h) (Or.inl ⟨by rfl, fun w' hSw => ?_⟩) (by assumption) ?_
          · ((try dsimp only at hSw); go_simp)
          try simp only [Act.put, List.setIfInBounds_toArray, List.set_cons_zero, List.set_cons_succ]
          refine wpAnyH_done (by kernel_rfl) ?_ _
          refine NoPanic.normal ?_
          have hz := HZ.out w8 A1 k1 A2 k2 (ho7.kept b78.out) ho8
          have HT := Lib.hid (hunk_set (w := w) (o := some hh) (HA.out.trans (X8.out.mono HA.out.size)) (show w.heap.size ≤ w.heap.size + 1 + 1 by omega) (HG.out.on X8.out) hz.1 hz.2 true rfl)
          have HT1 := Lib.hid HT.out.1
          have HT2 := Lib.hid HT.out.2
          clear HT hz S0 K1 K2 S7 K7 S8 SA SX SY tg ho7 ho8 hb7 hb8 b78 X7 X8 CAa CAb CAc CBa CBb CBc Y1 Y2 HDR HZ
          clear g0 gf0 g1 gf1 g2 gf2 g3 gf3 g4 gf4 g5 gf5
          go_wp
          (try simp only [Exit.inBlock, Exit.then])
          refine bodyPost_ret (ret_prim2 rfl _ _ _ ⟨6, x.p, ⟨#[]⟩, mn, A1, k1, L1, A2, k2, L2⟩ _ rfl rfl HT2.out) rfl ?_
          exact HT1.out
  · rw [decide_eq_false hf0] at htc CT
    have hno : hunksP x.key y.key = none := hunks_no htc.symm
    rw [hno]
    obtain ⟨vf, hvf⟩ : ∃ v : Int, b - x.at_ = v := ⟨_, rfl⟩
    obtain ⟨vt, hvt⟩ : ∃ v : Int, vf + f = v := ⟨_, rfl⟩
    obtain ⟨uf, huf⟩ : ∃ v : Int, b - y.at_ = v := ⟨_, rfl⟩
    obtain ⟨ut, hut⟩ : ∃ v : Int, uf + f = v := ⟨_, rfl⟩
    rw [hvf, hvt] at C1
    rw [huf, hut] at C2
    have C1 := Lib.hid C1
    have C2 := Lib.hid C2
    clear hno htc hf0 hx0 hy0 ox oy h6 h6' g1 g2 h1 h2 m0 m1 m2 m3 hb hf hvf hvt huf hut
    unfold Pm.val at CO CT ⊢
    obtain ⟨hal, hx, hy, hg⟩ := box3 w x y
    have e0 : (((w.alloc (.cells x.cells.toArray 24)).alloc (.cells y.cells.toArray 24)).alloc (.cells (Pm.cells ⟨0, ⟨#[]⟩, ⟨#[]⟩, 0, none, 0, [], none, 0, []⟩).toArray 24)) = (((w.alloc (.cells #[.int .i64 x.kind, .string x.p, .string x.dst, .int .i64 x.at_, .slice x.a1 x.old.length x.c1, .slice x.a2 x.new.length x.c2] 24)).alloc (.cells #[.int .i64 y.kind, .string y.p, .string y.dst, .int .i64 y.at_, .slice y.a1 y.old.length y.c1, .slice y.a2 y.new.length y.c2] 24)).alloc (.cells #[.int .i64 0, .string ⟨#[]⟩, .string ⟨#[]⟩, .int .i64 0, .slice none 0 0, .slice none 0 0] 24)) := rfl
    rw [e0] at hal hx hy hg
    have HX := Lib.hid hx
    have HY := Lib.hid hy
    have HG := Lib.hid hg
    have HA := Lib.hid hal
    clear hal hx hy hg e0
    go_enter Tryd.func19, Tryd.ntmps19
    go_wp2_with fail
    generalize hwa : (((w.alloc (.cells #[.int .i64 x.kind, .string x.p, .string x.dst, .int .i64 x.at_, .slice x.a1 x.old.length x.c1, .slice x.a2 x.new.length x.c2] 24)).alloc (.cells #[.int .i64 y.kind, .string y.p, .string y.dst, .int .i64 y.at_, .slice y.a1 y.old.length y.c1, .slice y.a2 y.new.length y.c2] 24)).alloc (.cells #[.int .i64 0, .string ⟨#[]⟩, .string ⟨#[]⟩, .int .i64 0, .slice none 0 0, .slice none 0 0] 24)) = wa at *
    clear hwa
    refine (CO.out wa).mono ?_
    rintro e w1 ⟨B, rfl, hO, hb⟩
    replace HX := Lib.hid (HX.out.on hb)
    replace HY := Lib.hid (HY.out.on hb)
    replace HG := Lib.hid (HG.out.on hb)
    replace HA := Lib.hid (HA.out.trans (hb.mono HA.out.size))
    have HO := Lib.hid hO.out
    clear hb hO CO
    have x0 := HX.out.c0
    have x1 := HX.out.c1
    have x2 := HX.out.c2
    have x3 := HX.out.c3
    have x4 := HX.out.c4
    have x5 := HX.out.c5
    have y0 := HY.out.c0
    have y1 := HY.out.c1
    have y2 := HY.out.c2
    have y3 := HY.out.c3
    have y4 := HY.out.c4
    have y5 := HY.out.c5
    go_wp2_with fail
    refine (C1.out B _ HO.out).mono ?_
    rintro e w2 ⟨rfl, q2, hw2⟩
    have hb : Below w1.heap.size w1 w2 := by subst hw2; exact below_drewN (Below.refl _ _) q2
    clear x0 y0 x1 y1 x2 y2 x3 y3 x4 y4 x5 y5
    replace HX := Lib.hid (HX.out.on hb)
    replace HY := Lib.hid (HY.out.on hb)
    replace HG := Lib.hid (HG.out.on hb)
    replace HA := Lib.hid (HA.out.trans (hb.mono HA.out.size))
    replace HO := Lib.hid (HO.out.on hb)
    clear hb hw2
    have x0 := HX.out.c0
    have x1 := HX.out.c1
    have x2 := HX.out.c2
    have x3 := HX.out.c3
    have x4 := HX.out.c4
    have x5 := HX.out.c5
    have y0 := HY.out.c0
    have y1 := HY.out.c1
    have y2 := HY.out.c2
    have y3 := HY.out.c3
    have y4 := HY.out.c4
    have y5 := HY.out.c5
    go_wp2_with fail
    refine (C2.out B _ HO.out).mono ?_
    rintro e w3 ⟨rfl, q3, hw3⟩
    have hb : Below w2.heap.size w2 w3 := by subst hw3; exact below_drewN (Below.refl _ _) q3
    clear x0 y0 x1 y1 x2 y2 x3 y3 x4 y4 x5 y5
    replace HX := Lib.hid (HX.out.on hb)
    replace HY := Lib.hid (HY.out.on hb)
    replace HG := Lib.hid (HG.out.on hb)
    replace HA := Lib.hid (HA.out.trans (hb.mono HA.out.size))
    clear hb hw3 HO C1 C2
    have x0 := HX.out.c0
    have x1 := HX.out.c1
    have x2 := HX.out.c2
    have x3 := HX.out.c3
    have x4 := HX.out.c4
    have x5 := HX.out.c5
    have y0 := HY.out.c0
    have y1 := HY.out.c1
    have y2 := HY.out.c2
    have y3 := HY.out.c3
    have y4 := HY.out.c4
    have y5 := HY.out.c5
    go_wp2_with fail
    refine wp_region_noPanic ?_
    refine wp_region_held_drew (S := (fun w' => w'.cell? ⟨w.heap.size, 0, none⟩ = some (.int .i64 x.kind) ∧ w'.cell? ⟨w.heap.size, 1, none⟩ = some (.string x.p) ∧ w'.cell? ⟨w.heap.size, 2, none⟩ = some (.string x.dst) ∧ w'.cell? ⟨w.heap.size, 3, none⟩ = some (.int .i64 x.at_) ∧ w'.cell? ⟨w.heap.size, 4, none⟩ = some (.slice x.a1 x.old.length x.c1) ∧ w'.cell? ⟨w.heap.size, 5, none⟩ = some (.slice x.a2 x.new.length x.c2) ∧ w'.cell? ⟨w.heap.size + 1, 0, none⟩ = some (.int .i64 y.kind) ∧ w'.cell? ⟨w.heap.size + 1, 1, none⟩ = some (.string y.p) ∧ w'.cell? ⟨w.heap.size + 1, 2, none⟩ = some (.string y.dst) ∧ w'.cell? ⟨w.heap.size + 1, 3, none⟩ = some (.int .i64 y.at_) ∧ w'.cell? ⟨w.heap.size + 1, 4, none⟩ = some (.slice y.a1 y.old.length y.c1) ∧ w'.cell? ⟨w.heap.size + 1, 5, none⟩ = some (.slice y.a2 y.new.length y.c2))) (by kernel_rfl) ⟨x0, x1, x2, x3, x4, x5, y0, y1, y2, y3, y4, y5⟩ (fun hHeld => ?_)
    refine wpAnyH_take (i := 0) (oi := { dst := some 28, op := _, type := _, pos := _, after := _, guard := _ }) (v := .agg #[.int .i64 x.kind, .string x.p, .string x.dst, .int .i64 x.at_, .slice x.a1 x.old.length x.c1, .slice x.a2 x.new.length x.c2]) rfl (by kernel_rfl) (by kernel_rfl) (by kernel_rfl) (fun _ _ _ h => h) (Or.inl ⟨by rfl, fun w' hSw => ?_⟩) (by assumption) ?_
    · ((try dsimp only at hSw); go_simp)
    try simp only [Act.put, List.setIfInBounds_toArray, List.set_cons_zero, List.set_cons_succ]
    refine wpAnyH_take (i := 1) (oi := { dst := some 29, op := _, type := _, pos := _, after := _, guard := _ }) (v := .agg #[.int .i64 y.kind, .string y.p, .string y.dst, .int .i64 y.at_, .slice y.a1 y.old.length y.c1, .slice y.a2 y.new.length y.c2]) rfl (by kernel_rfl) (by kernel_rfl) (by kernel_rfl) (fun _ _ _ h => h) (Or.inl ⟨by rfl, fun w' hSw => ?_⟩) (by assumption) ?_
    · ((try dsimp only at hSw); go_simp)
    try simp only [Act.put, List.setIfInBounds_toArray, List.set_cons_zero, List.set_cons_succ]
    refine wpAnyH_ready (rs := [2]) (by kernel_rfl) (by simp) ?_
    refine AllReadyH.cons rfl (fun K hK => ?_) AllReadyH.nil
    go_simp
    go_at_call 28
    refine (CT.out _).mono ?_
    rintro e w7 ⟨rfl, hb7⟩
    have X7 := Lib.hid ((Below.refl w3.heap.size w3).drew.trans (hb7.mono (Below.refl w3.heap.size w3).drew.size))
    refine hK.out _ _ (six_six (HX.out.on X7.out) (HY.out.on X7.out)) (fun hHeld2 => ?_)
    clear hK K hHeld
    try simp only [Act.put, List.setIfInBounds_toArray, List.set_cons_zero, List.set_cons_succ]
    refine wpAnyH_take (i := 3) (oi := { dst := some 31, op := _, type := _, pos := _, after := _, guard := _ }) (v := .bool true) rfl (by kernel_rfl) (by kernel_rfl) (by kernel_rfl) (fun _ _ _ h => h) (Or.inl ⟨by rfl, fun w' hSw => ?_⟩) (by assumption) ?_
    · ((try dsimp only at hSw); go_simp)
    try simp only [Act.put, List.setIfInBounds_toArray, List.set_cons_zero, List.set_cons_succ]
    refine wpAnyH_take (i := 4) (oi := { dst := some 32, op := _, type := _, pos := _, after := _, guard := _ }) (v := .bool true) rfl (by kernel_rfl) (by kernel_rfl) (by kernel_rfl) (fun _ _ _ h => h) (Or.inl ⟨by rfl, fun w' hSw => ?_⟩) (by assumption) ?_
    · ((try dsimp only at hSw); go_simp)
    try simp only [Act.put, List.setIfInBounds_toArray, List.set_cons_zero, List.set_cons_succ]
    refine wpAnyH_take (i := 5) (oi := { dst := some 33, op := _, type := _, pos := _, after := _, guard := _ }) (v := undef) rfl (by kernel_rfl) (by kernel_rfl) (by kernel_rfl) (fun _ _ _ h => h) (Or.inr ⟨by rfl, rfl⟩) (by assumption) ?_
    try simp only [Act.put, List.setIfInBounds_toArray, List.set_cons_zero, List.set_cons_succ]
    refine wpAnyH_take (i := 6) (oi := { dst := some 34, op := _, type := _, pos := _, after := _, guard := _ }) (v := undef) rfl (by kernel_rfl) (by kernel_rfl) (by kernel_rfl) (fun _ _ _ h => h) (Or.inr ⟨by rfl, rfl⟩) (by assumption) ?_
    try simp only [Act.put, List.setIfInBounds_toArray, List.set_cons_zero, List.set_cons_succ]
    refine wpAnyH_take (i := 7) (oi := { dst := some 35, op := _, type := _, pos := _, after := _, guard := _ }) (v := undef) rfl (by kernel_rfl) (by kernel_rfl) (by kernel_rfl) (fun _ _ _ h => h) (Or.inr ⟨by rfl, rfl⟩) (by assumption) ?_
    try simp only [Act.put, List.setIfInBounds_toArray, List.set_cons_zero, List.set_cons_succ]
    refine wpAnyH_take (i := 8) (oi := { dst := some 36, op := _, type := _, pos := _, after := _, guard := _ }) (v := undef) rfl (by kernel_rfl) (by kernel_rfl) (by kernel_rfl) (fun _ _ _ h => h) (Or.inr ⟨by rfl, rfl⟩) (by assumption) ?_
    try simp only [Act.put, List.setIfInBounds_toArray, List.set_cons_zero, List.set_cons_succ]
    refine wpAnyH_take (i := 9) (oi := { dst := some 37, op := _, type := _, pos := _, after := _, guard := _ }) (v := undef) rfl (by kernel_rfl) (by kernel_rfl) (by kernel_rfl) (fun _ _ _ h => h) (Or.inr ⟨by rfl, rfl⟩) (by assumption) ?_
    try simp only [Act.put, List.setIfInBounds_toArray, List.set_cons_zero, List.set_cons_succ]
    refine wpAnyH_take (i := 10) (oi := { dst := some 38, op := _, type := _, pos := _, after := _, guard := _ }) (v := undef) rfl (by kernel_rfl) (by kernel_rfl) (by kernel_rfl) (fun _ _ _ h => h) (Or.inr ⟨by rfl, rfl⟩) (by assumption) ?_
    try simp only [Act.put, List.setIfInBounds_toArray, List.set_cons_zero, List.set_cons_succ]
    refine wpAnyH_take (i := 11) (oi := { dst := some 39, op := _, type := _, pos := _, after := _, guard := _ }) (v := undef) rfl (by kernel_rfl) (by kernel_rfl) (by kernel_rfl) (fun _ _ _ h => h) (Or.inr ⟨by rfl, rfl⟩) (by assumption) ?_
    try simp only [Act.put, List.setIfInBounds_toArray, List.set_cons_zero, List.set_cons_succ]
    refine wpAnyH_take (i := 12) (oi := { dst := some 40, op := _, type := _, pos := _, after := _, guard := _ }) (v := undef) rfl (by kernel_rfl) (by kernel_rfl) (by kernel_rfl) (fun _ _ _ h => h) (Or.inr ⟨by rfl, rfl⟩) (by assumption) ?_
    try simp only [Act.put, List.setIfInBounds_toArray, List.set_cons_zero, List.set_cons_succ]
    refine wpAnyH_take (i := 13) (oi := { dst := some 41, op := _, type := _, pos := _, after := _, guard := _ }) (v := undef) rfl (by kernel_rfl) (by kernel_rfl) (by kernel_rfl) (fun _ _ _ h => h) (Or.inr ⟨by rfl, rfl⟩) (by assumption) ?_
    try simp only [Act.put, List.setIfInBounds_toArray, List.set_cons_zero, List.set_cons_succ]
    refine wpAnyH_take (i := 14) (oi := { dst := some 42, op := _, type := _, pos := _, after := _, guard := _ }) (v := undef) rfl (by kernel_rfl) (by kernel_rfl) (by kernel_rfl) (fun _ _ _ h => h) (Or.inr ⟨by rfl, rfl⟩) (by assumption) ?_
    try simp only [Act.put, List.setIfInBounds_toArray, List.set_cons_zero, List.set_cons_succ]
    refine wpAnyH_take (i := 15) (oi := { dst := some 43, op := _, type := _, pos := _, after := _, guard := _ }) (v := undef) rfl (by kernel_rfl) (by kernel_rfl) (by kernel_rfl) (fun _ _ _ h => h) (Or.inr ⟨by rfl, rfl⟩) (by assumption) ?_
    try simp only [Act.put, List.setIfInBounds_toArray, List.set_cons_zero, List.set_cons_succ]
    refine wpAnyH_take (i := 16) (oi := { dst := some 44, op := _, type := _, pos := _, after := _, guard := _ }) (v := undef) rfl (by kernel_rfl) (by kernel_rfl) (by kernel_rfl) (fun _ _ _ h => h) (Or.inr ⟨by rfl, rfl⟩) (by assumption) ?_
    try simp only [Act.put, List.setIfInBounds_toArray, List.set_cons_zero, List.set_cons_succ]
    refine wpAnyH_take (i := 17) (oi := { dst := some 45, op := _, type := _, pos := _, after := _, guard := _ }) (v := .bool true) rfl (by kernel_rfl) (by kernel_rfl) (by kernel_rfl) (fun _ _ _ h => h) (Or.inl ⟨by rfl, fun w' hSw => ?_⟩) (by assumption) ?_
    · ((try dsimp only at hSw); go_simp)
    try simp only [Act.put, List.setIfInBounds_toArray, List.set_cons_zero, List.set_cons_succ]
    refine wpAnyH_done (by kernel_rfl) ?_ _
    refine NoPanic.normal ?_
    have hb := X7.out
    clear hb7 X7 CT
    clear x0 y0 x1 y1 x2 y2 x3 y3 x4 y4 x5 y5
    replace HX := Lib.hid (HX.out.on hb)
    replace HY := Lib.hid (HY.out.on hb)
    replace HG := Lib.hid (HG.out.on hb)
    replace HA := Lib.hid (HA.out.trans (hb.mono HA.out.size))
    clear hb
    have g0 := HG.out.c0
    have gf0 := HG.out.fz 0
    have g1 := HG.out.c1
    have gf1 := HG.out.fz 1
    have g2 := HG.out.c2
    have gf2 := HG.out.fz 2
    have g3 := HG.out.c3
    have gf3 := HG.out.fz 3
    have g4 := HG.out.c4
    have gf4 := HG.out.fz 4
    have g5 := HG.out.c5
    have gf5 := HG.out.fz 5
    have HT := Lib.hid (hunk_set (w := w) (o := none) HA.out (show w.heap.size ≤ w.heap.size + 1 + 1 by omega) HG.out (sep_zero _) (rfl : _ = zeroP) false rfl)
    have HT1 := Lib.hid HT.out.1
    have HT2 := Lib.hid HT.out.2
    clear HT
    go_wp
    (try simp only [Exit.inBlock, Exit.then])
    refine bodyPost_ret (ret_prim2 rfl _ _ _ ⟨0, ⟨#[]⟩, ⟨#[]⟩, 0, none, 0, [], none, 0, []⟩ _ rfl rfl HT2.out) rfl ?_
    exact HT1.out

end Go.Proofs.YtempamboacbgiaaDoor
