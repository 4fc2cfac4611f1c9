/- Package patch: the functions that are made for a patch: what it may make, what it may name. -/
import Derived.Test.YtoajckhfnadhjaaGreatDoorCk19
namespace Go.Proofs.YtoajckhfnadhjaaGreatDoor
open Go.RowKit
set_option linter.unusedVariables false

theorem makes_cons (name : List UInt8) (m : List Ik) (i : Ik) (r : List Ik) : makesL name m (i :: r) = (!decide (i ∈ m) && decide (i.1 = name) && okK i && makesL name (m ++ [i]) r) := rfl
theorem makes_app (name : List UInt8) : ∀ (a m b : List Ik), makesL name m (a ++ b) = (makesL name m a && makesL name (m ++ a) b)
  | [], m, b => by simp [makesL]
  | i :: a, m, b => by
    have ih := makes_app name a (m ++ [i]) b
    rw [List.cons_append, makes_cons, makes_cons, ih, show m ++ [i] ++ a = m ++ i :: a by simp]
    simp only [Bool.and_assoc]
theorem makes_one (name : List UInt8) (m : List Ik) (i : Ik) : makesL name m [i] = (!decide (i ∈ m) && decide (i.1 = name) && okK i) := by
  rw [makes_cons]
  exact Bool.and_true _
theorem makes_take (name : List UInt8) (m : List Ik) (l : List Im) (k : Nat) (hk : k < l.length) : makesL name m (ikeys (l.take (k + 1))) = (makesL name m (ikeys (l.take k)) && (!decide (l[k].key ∈ m ++ ikeys (l.take k)) && decide (l[k].key.1 = name) && okK l[k].key)) := by
  rw [List.take_succ_eq_append_getElem hk, show ikeys (l.take k ++ [l[k]]) = ikeys (l.take k) ++ [l[k].key] by unfold ikeys; rw [List.map_append]; rfl, makes_app, makes_one]
theorem makes_part {name : List UInt8} {m : List Ik} {l : List Im} (k : Nat) (h : makesL name m (ikeys (l.take k)) = false) : makesL name m (ikeys l) = false := by
  have e : ikeys l = ikeys (l.take k) ++ ikeys (l.drop k) := by unfold ikeys; rw [← List.map_append, List.take_append_drop]
  rw [e, makes_app, h]
  rfl
theorem ikeys_snoc (m : List Ik) (l : List Im) (k : Nat) (hk : k < l.length) : m ++ ikeys (l.take (k + 1)) = m ++ ikeys (l.take k) ++ [l[k].key] := by
  rw [List.take_succ_eq_append_getElem hk, show ikeys (l.take k ++ [l[k]]) = ikeys (l.take k) ++ [l[k].key] by unfold ikeys; rw [List.map_append]; rfl, List.append_assoc]
/-- What a function that was made for a patch has: the map's variable, the patch's. -/
structure Caught (w : World) (g3 g2 bm : Nat) (x : Ptm) : Prop where
  c : w.cell? ⟨g3, 0, none⟩ = some (.map (some bm))
  p : PatAt w g2 x
theorem Caught.grown {w w' : World} {g3 g2 bm : Nat} {x : Ptm} {m : List Ik} (h : Caught w g3 g2 bm x) (hs : IdSet w bm m) (hg : w.grownBy w' (some bm)) : Caught w' g3 g2 bm x := by
  have h3 := hs.ne_cell h.c
  have h2 := hs.ne_cells h.p.blk
  refine ⟨(cell_same (hg.block g3 (rec_cell_lt h.c) (fun e => h3 (by injection e with e; exact e.symm)))).trans h.c, ⟨(hg.block g2 h.p.lt (fun e => h2 (by injection e with e; exact e.symm))).trans h.p.blk⟩⟩
theorem Caught.on {w w' : World} {g3 g2 bm : Nat} {x : Ptm} (h : Caught w g3 g2 bm x) (hb : Below w.heap.size w w') : Caught w' g3 g2 bm x :=
  ⟨(hb.cell (rec_cell_lt h.c)).trans h.c, h.p.on hb⟩
theorem ids_keep {w w' : World} {B bm : Nat} {A : Option Addr} {l : List Im} {m : List Ik} (h : Ids w B A l) (hs : IdSet w bm m) (hg : w.grownBy w' (some bm)) : Ids w' B A l := fun hp => by
  obtain ⟨b, off, e, hlt, hc⟩ := h hp
  refine ⟨b, off, e, hlt, fun i u hu => ?_⟩
  have h1 := hc i u hu
  have h2 := hs.ne_cell h1
  exact (cell_same (hg.block b (rec_cell_lt h1) (fun e => h2 (by injection e with e; exact e.symm)))).trans h1
/-- What maker's function leaves. -/
def MakeLeft (w : World) (bm : Nat) (r : Bool) (m : List Ik) (e : Ending) (w' : World) : Prop := e = .returned (.bool r) ∧ (r = true → IdSet w' bm m) ∧ w.grownBy w' (some bm)
set_option maxHeartbeats 4000000 in
set_option maxRecDepth 100000 in
theorem maker1_any (g3 g2 bm : Nat) (x : Ptm) (m : List Ik) (A : Option Addr) (l : List Im) (c : Nat) (w : World) (hC : Caught w g3 g2 bm x) (hS : IdSet w bm m) (hl : Ids w w.heap.size A l) (hn : l.length ≤ 100000) (hm : m.length ≤ 100000000000) (hok : ∀ i ∈ l, i.Ok) (r : Bool) (hr : makesL x.name.data.toList m (ikeys l) = r) :
    Calls Tryz.prog 120 #[.slice A l.length c, .pointer (some ⟨g3, 0, none⟩), .pointer (some ⟨g2, 0, none⟩)] w (MakeLeft w bm r (m ++ ikeys l)) := by
  have HC0 := Lib.hid hC
  have HS0 : Hid (IdSet w bm (m ++ ikeys (l.take 0))) := by
    show IdSet _ _ _
    rw [List.take_zero, show ikeys [] = [] from rfl, List.append_nil]
    exact hS
  have HS00 := Lib.hid hS
  have HL0 := Lib.hid hl
  have HG0 : Hid (w.grownBy w (some bm)) := grownBy_refl _ _
  have HOK := Lib.hid hok
  have HR := Lib.hid hr
  have HM0 : Hid (makesL x.name.data.toList m (ikeys (l.take 0)) = true) := rfl
  clear hC hS hl hok hr
  go_enter Tryz.func120, Tryz.ntmps120
  go_wp2_with fail
  go_loopw [11] (fun iv wr => ∃ k : Nat, iv = .int .i64 (k : Int) ∧ k ≤ l.length ∧ Hid (makesL x.name.data.toList m (ikeys (l.take k)) = true) ∧ Hid (IdSet wr bm (m ++ ikeys (l.take k))) ∧ Hid (w.grownBy wr (some bm))) (fun iv _ => l.length - (intOf iv).toNat)
  case atStart => exact ⟨0, rfl, Nat.zero_le _, HM0.out, HS0.out, HG0.out⟩
  case round =>
    clear HS0 HM0 HG0
    obtain ⟨k, rfl, hk, HM, HS, HG⟩ := hrel
    by_cases hlt : k < l.length
    · have hC := HC0.out.grown HS00.out HG.out
      obtain ⟨b, off, rfl, hbB, d0, d1⟩ := ids_get (ids_keep HL0.out HS00.out HG.out) hlt
      have hyo : l[k].Ok := HOK.out l[k] (List.getElem_mem _)
      have hst := makes_take x.name.data.toList m l k hlt
      have hsn := ikeys_snoc m l k hlt
      rw [HM.out, Bool.true_and] at hst
      have hpart : makesL x.name.data.toList m (ikeys (l.take (k + 1))) = false → makesL x.name.data.toList m (ikeys l) = false := makes_part (k + 1)
      obtain ⟨y, hy⟩ : ∃ y, l[k] = y := ⟨_, rfl⟩
      rw [hy] at d0 d1 hyo hst hsn
      have hal : Below wr.heap.size wr (wr.alloc (.cells #[.string y.p, .int .i64 y.n] 40)) := (Below.refl _ _).alloc (Nat.le_refl _) _
      have HY := Lib.hid (id_new wr y.p y.n)
      have HC := Lib.hid (hC.on hal)
      have HS1 := Lib.hid (HS.out.on hal)
      have HG1 := Lib.hid (Rk.grown_below HG.out hal)
      have HYO := Lib.hid hyo
      have HST := Lib.hid hst
      have HSN := Lib.hid hsn
      have HPT := Lib.hid hpart
      have u0 : (0 : Int) ≤ (k : Int) := by omega
      have u1 : (k : Int) < (l.length : Int) := by omega
      clear hC hyo hst hsn hpart hy hal HS HG HM
      go_upto_region 4 with (fail)
      generalize (wr.alloc (.cells #[.string y.p, .int .i64 y.n] 40)) = wa at *
      generalize wr.heap.size = gy at *
      clear d0 d1 hbB
      have y0 := id_c0 HY.out
      have y1 := id_c1 HY.out
      have c0 := HC.out.c
      obtain ⟨q, hq⟩ : ∃ q, decide (y.key ∈ m ++ ikeys (l.take k)) = q := ⟨_, rfl⟩
      have HQ := Lib.hid hq
      rw [hq] at HST
      clear hq
      go_upto_region 5 with (at_lookup; refine wpList_look_id rfl _ _ rfl bm (m ++ ikeys (l.take k)) y rfl rfl HS1.out HYO.out q HQ.out ?_)
      have hal : Below wa.heap.size wa (wa.alloc (.cells #[] 129)) := (Below.refl _ _).alloc (Nat.le_refl _) _
      replace HY := Lib.hid (HY.out.on hal)
      replace HC := Lib.hid (HC.out.on hal)
      replace HS1 := Lib.hid (HS1.out.on hal)
      replace HG1 := Lib.hid (Rk.grown_below HG1.out hal)
      clear hal y0 y1 c0
      generalize (wa.alloc (.cells #[] 129)) = wb at *
      have y0 := id_c0 HY.out
      have y1 := id_c1 HY.out
      have c0 := HC.out.c
      have p0 := HC.out.p.c0
      cases hq : q
      · rw [hq] at HST
        by_cases hp : y.p = x.name
        · have q1 : (y.p.toList == x.name.toList) = true := by rw [hp]; exact str_eqb _
          have hp2 : decide (y.key.1 = x.name.data.toList) = true := by rw [← hp]; exact decide_eq_true rfl
          rw [hp2] at HST
          obtain ⟨o, ho⟩ : ∃ o, okK y.key = o := ⟨_, rfl⟩
          rw [ho] at HST
          have CR := Lib.hid (idright_any y wb HYO.out.1)
          rw [ho] at CR
          unfold Im.val at CR
          clear hp hp2 ho hq
          cases o
          · have HF : Hid (r = false) := by
              show _ = _
              rw [← HR.out]
              exact HPT.out HST.out
            clear HST HPT HQ
            go_wp2_with fail
            refine CR.out.mono ?_
            rintro e w2 ⟨rfl, hb2⟩
            have HG2 := Lib.hid (Rk.grown_below HG1.out hb2)
            clear hb2 CR
            go_wp2
            go_ret
            exact ⟨by rw [HF.out]; rfl, (fun h => by rw [HF.out] at h; cases h), HG2.out⟩
          · have HM2 : Hid (makesL x.name.data.toList m (ikeys (l.take (k + 1))) = true) := HST.out
            clear HST HPT
            have hlen : (m ++ ikeys (l.take k)).length ≤ 1000000000000 := by rw [List.length_append, ikeys_len, List.length_take]; omega
            have HLE := Lib.hid hlen
            clear hlen
            go_upto_region 7 with (go_at_call 112; refine CR.out.mono ?_; rintro e w2 ⟨rfl, hb2⟩)
            have hY2 := HY.out.on hb2
            have hC2 := HC.out.on hb2
            have HS2 := Lib.hid (HS1.out.on hb2)
            have HG2 := Lib.hid (Rk.grown_below HG1.out hb2)
            clear hb2 CR y0 y1 c0 p0
            have y0 := id_c0 hY2
            have y1 := id_c1 hY2
            have c0 := hC2.c
            clear hY2 hC2
            go_wp2_with (at_mapUpdate; refine wpList_put_id rfl _ _ _ rfl bm (m ++ ikeys (l.take k)) y rfl rfl rfl HS2.out HYO.out HLE.out ?_)
            intro w3 hs3 hg3
            have HS3 : Hid (IdSet w3 bm (m ++ ikeys (l.take (k + 1)))) := by
              show IdSet _ _ _
              rw [HSN.out, List.append_assoc]
              exact hs3
            have HG3 := Lib.hid (Rk.grown_both HG2.out hg3)
            clear hs3 hg3 HS2 HG2 y0 y1 c0
            go_wp2
            go_roundw
            case rel => exact ⟨k + 1, by go_num, by omega, HM2.out, HS3.out, HG3.out⟩
            case measure => simp [intOf]; omega
        · have q1 : (y.p.toList == x.name.toList) = false := str_ne hp
          have hp2 : decide (y.key.1 = x.name.data.toList) = false := decide_eq_false (fun e => hp (bytes_inj e))
          rw [hp2, Bool.and_false, Bool.false_and] at HST
          have HF : Hid (r = false) := by
            show _ = _
            rw [← HR.out]
            exact HPT.out HST.out
          clear HST HPT hp hp2 hq
          go_wp2
          go_ret
          exact ⟨by rw [HF.out]; rfl, (fun h => by rw [HF.out] at h; cases h), HG1.out⟩
      · rw [hq, Bool.not_true, Bool.false_and, Bool.false_and] at HST
        have HF : Hid (r = false) := by
          show _ = _
          rw [← HR.out]
          exact HPT.out HST.out
        clear HST HPT hq
        go_wp2
        go_ret
        exact ⟨by rw [HF.out]; rfl, (fun h => by rw [HF.out] at h; cases h), HG1.out⟩
    · obtain rfl : k = l.length := by omega
      have HT : Hid (r = true) := by
        show _ = _
        rw [← HR.out]
        have h := HM.out
        rwa [List.take_length] at h
      have HS9 : Hid (IdSet wr bm (m ++ ikeys l)) := by
        have h := HS.out
        rwa [List.take_length] at h
      clear HM HS
      go_wp2
      go_ret
      exact ⟨by rw [HT.out]; rfl, fun _ => HS9.out, HG.out⟩
set_option maxHeartbeats 2000000 in
set_option maxRecDepth 100000 in
theorem pmaker_any (x : Ptm) (bm : Nat) (w : World) :
    Calls Tryz.prog 97 #[.agg #[.string x.name, .slice x.a1 x.deps.length x.c1, .slice x.a2 x.ops.length x.c2], .map (some bm)] w fun e w' => ∃ g3 g2, e = .returned (.func (.func 120) #[] #[.pointer (some ⟨g3, 0, none⟩), .pointer (some ⟨g2, 0, none⟩)]) ∧ Caught w' g3 g2 bm x ∧ Below w.heap.size w w' := by
  obtain ⟨hb, hx⟩ := pat_box w x
  have hal : Below (w.alloc (.cells #[.string x.name, .slice x.a1 x.deps.length x.c1, .slice x.a2 x.ops.length x.c2] 25)).heap.size (w.alloc (.cells #[.string x.name, .slice x.a1 x.deps.length x.c1, .slice x.a2 x.ops.length x.c2] 25)) ((w.alloc (.cells #[.string x.name, .slice x.a1 x.deps.length x.c1, .slice x.a2 x.ops.length x.c2] 25)).alloc (.cells #[.map (some bm)] 110)) := (Below.refl _ _).alloc (Nat.le_refl _) _
  have hC : Caught ((w.alloc (.cells #[.string x.name, .slice x.a1 x.deps.length x.c1, .slice x.a2 x.ops.length x.c2] 25)).alloc (.cells #[.map (some bm)] 110)) (w.alloc (.cells #[.string x.name, .slice x.a1 x.deps.length x.c1, .slice x.a2 x.ops.length x.c2] 25)).heap.size w.heap.size bm x := ⟨by rw [World.cell?_alloc_new]; rfl, hx.on hal⟩
  have es : (w.alloc (.cells #[.string x.name, .slice x.a1 x.deps.length x.c1, .slice x.a2 x.ops.length x.c2] 25)).heap.size = w.heap.size + 1 := by simp
  rw [es] at hC
  have HC := Lib.hid hC
  have HB := Lib.hid (hb.trans (hal.mono hb.size))
  clear hb hx hal hC es
  go_enter Tryz.func97, Tryz.ntmps97
  go_wp2
  go_ret
  exact ⟨_, _, rfl, HC.out, HB.out⟩
set_option maxHeartbeats 2000000 in
set_option maxRecDepth 100000 in
theorem pknower_any (x : Ptm) (bm : Nat) (w : World) :
    Calls Tryz.prog 98 #[.agg #[.string x.name, .slice x.a1 x.deps.length x.c1, .slice x.a2 x.ops.length x.c2], .map (some bm)] w fun e w' => ∃ g3 g2, e = .returned (.func (.func 121) #[] #[.pointer (some ⟨g3, 0, none⟩), .pointer (some ⟨g2, 0, none⟩)]) ∧ Caught w' g3 g2 bm x ∧ Below w.heap.size w w' := by
  obtain ⟨hb, hx⟩ := pat_box w x
  have hal : Below (w.alloc (.cells #[.string x.name, .slice x.a1 x.deps.length x.c1, .slice x.a2 x.ops.length x.c2] 25)).heap.size (w.alloc (.cells #[.string x.name, .slice x.a1 x.deps.length x.c1, .slice x.a2 x.ops.length x.c2] 25)) ((w.alloc (.cells #[.string x.name, .slice x.a1 x.deps.length x.c1, .slice x.a2 x.ops.length x.c2] 25)).alloc (.cells #[.map (some bm)] 110)) := (Below.refl _ _).alloc (Nat.le_refl _) _
  have hC : Caught ((w.alloc (.cells #[.string x.name, .slice x.a1 x.deps.length x.c1, .slice x.a2 x.ops.length x.c2] 25)).alloc (.cells #[.map (some bm)] 110)) (w.alloc (.cells #[.string x.name, .slice x.a1 x.deps.length x.c1, .slice x.a2 x.ops.length x.c2] 25)).heap.size w.heap.size bm x := ⟨by rw [World.cell?_alloc_new]; rfl, hx.on hal⟩
  have es : (w.alloc (.cells #[.string x.name, .slice x.a1 x.deps.length x.c1, .slice x.a2 x.ops.length x.c2] 25)).heap.size = w.heap.size + 1 := by simp
  rw [es] at hC
  have HC := Lib.hid hC
  have HB := Lib.hid (hb.trans (hal.mono hb.size))
  clear hb hx hal hC es
  go_enter Tryz.func98, Tryz.ntmps98
  go_wp2
  go_ret
  exact ⟨_, _, rfl, HC.out, HB.out⟩
theorem pbsearch_any (A : Option Addr) (ls : List (List UInt8)) (cap : Nat) (x : ByteArray) (W : World) (hs : Strs W W.heap.size A (toBs ls)) (hr : Rising ls) (hn : ls.length ≤ 1000000) (r : Bool) (hd : decide (x.data.toList ∈ ls) = r) :
    Calls Tryz.prog 122 #[.slice A ls.length cap, .string x] W fun e w' => ∃ i : Int, e = .returned (.tuple #[.int .i64 i, .bool r]) ∧ Below W.heap.size W w' := by
  subst hd
  by_cases h0 : 0 < ls.length
  · obtain ⟨b, off, rfl, _, hcs⟩ := hs (by rw [toBs_len]; exact h0)
    obtain ⟨Sx, hS⟩ : ∃ Sx : Nat → ByteArray, ∀ t, Sx t = if h : t < ls.length then toB ls[t] else x := ⟨fun t => if h : t < ls.length then toB ls[t] else x, fun _ => rfl⟩
    have hsp := search_spec ls hr x Sx hS
    have hbs := Any2.slices_BinarySearch_string Tryz.laysBs b off ls.length cap Sx x W (by omega) (fun j hj => by rw [hcs j (by rw [toBs_len]; exact hj), hS j, dif_pos hj]; simp [toBs])
    change Calls _ 122 _ _ _ at hbs
    rw [hsp] at hbs
    refine hbs.mono ?_
    rintro e w1 ⟨rfl, q, rfl⟩
    exact ⟨_, rfl, below_drewN (Below.refl _ _) q⟩
  · obtain rfl : ls = [] := List.length_eq_zero_iff.1 (by omega)
    have hbs := Any2.slices_BinarySearch_string_empty Tryz.laysBs A cap x W
    change Calls _ 122 _ _ _ at hbs
    refine hbs.mono ?_
    rintro e w1 ⟨rfl, rfl⟩
    exact ⟨0, by simp, Below.refl _ _⟩
theorem knows_take (deps : List (List UInt8)) (m : List Ik) (l : List Im) (k : Nat) (hk : k < l.length) : knowsL deps m (ikeys (l.take (k + 1))) = (knowsL deps m (ikeys (l.take k)) && (decide (l[k].key ∈ m) || decide (l[k].key.1 ∈ deps))) := by
  rw [List.take_succ_eq_append_getElem hk, show ikeys (l.take k ++ [l[k]]) = ikeys (l.take k) ++ [l[k].key] by unfold ikeys; rw [List.map_append]; rfl]
  unfold knowsL
  rw [List.all_append]
  simp
theorem knows_part {deps : List (List UInt8)} {m : List Ik} {l : List Im} (k : Nat) (h : knowsL deps m (ikeys (l.take k)) = false) : knowsL deps m (ikeys l) = false := by
  have e : ikeys l = ikeys (l.take k) ++ ikeys (l.drop k) := by unfold ikeys; rw [← List.map_append, List.take_append_drop]
  unfold knowsL at *
  rw [e, List.all_append, h]
  rfl
set_option maxHeartbeats 4000000 in
set_option maxRecDepth 100000 in
theorem knower1_any (g3 g2 bm : Nat) (x : Ptm) (m : List Ik) (A : Option Addr) (l : List Im) (c : Nat) (w : World) (hC : Caught w g3 g2 bm x) (hS : IdSet w bm m) (hd : Strs w w.heap.size x.a1 (toBs x.deps)) (hri : Rising x.deps) (hdn : x.deps.length ≤ 1000000) (hl : Ids w w.heap.size A l) (hn : l.length ≤ 100000) (hok : ∀ i ∈ l, i.Ok) (r : Bool) (hr : knowsL x.deps m (ikeys l) = r) :
    Calls Tryz.prog 121 #[.slice A l.length c, .pointer (some ⟨g3, 0, none⟩), .pointer (some ⟨g2, 0, none⟩)] w fun e w' => e = .returned (.bool r) ∧ Below w.heap.size w w' := by
  have HC0 := Lib.hid hC
  have HS0 := Lib.hid hS
  have HL0 := Lib.hid hl
  have HD0 := Lib.hid hd
  have HG0 : Hid (Below w.heap.size w w) := Below.refl _ _
  have HOK := Lib.hid hok
  have HR := Lib.hid hr
  have HRI := Lib.hid hri
  have HM0 : Hid (knowsL x.deps m (ikeys (l.take 0)) = true) := rfl
  clear hC hS hl hok hr hd hri
  go_enter Tryz.func121, Tryz.ntmps121
  go_wp2_with fail
  go_loopw [13] (fun iv wr => ∃ k : Nat, iv = .int .i64 (k : Int) ∧ k ≤ l.length ∧ Hid (knowsL x.deps m (ikeys (l.take k)) = true) ∧ Hid (Below w.heap.size w wr)) (fun iv _ => l.length - (intOf iv).toNat)
  case atStart => exact ⟨0, rfl, Nat.zero_le _, HM0.out, HG0.out⟩
  case round =>
    clear HM0 HG0
    obtain ⟨k, rfl, hk, HM, HG⟩ := hrel
    by_cases hlt : k < l.length
    · obtain ⟨b, off, rfl, hbB, d0, d1⟩ := ids_get (HL0.out.on HG.out) hlt
      have hyo : l[k].Ok := HOK.out l[k] (List.getElem_mem _)
      have hst := knows_take x.deps m l k hlt
      rw [HM.out, Bool.true_and] at hst
      have hpart : knowsL x.deps m (ikeys (l.take (k + 1))) = false → knowsL x.deps m (ikeys l) = false := knows_part (k + 1)
      obtain ⟨y, hy⟩ : ∃ y, l[k] = y := ⟨_, rfl⟩
      rw [hy] at d0 d1 hyo hst
      have hal : Below wr.heap.size wr (wr.alloc (.cells #[.string y.p, .int .i64 y.n] 40)) := (Below.refl _ _).alloc (Nat.le_refl _) _
      have HY := Lib.hid (id_new wr y.p y.n)
      have HG1 := Lib.hid (HG.out.trans (hal.mono HG.out.size))
      have HYO := Lib.hid hyo
      have HST := Lib.hid hst
      have HPT := Lib.hid hpart
      have u0 : (0 : Int) ≤ (k : Int) := by omega
      have u1 : (k : Int) < (l.length : Int) := by omega
      clear hyo hst hpart hy hal HG HM
      go_upto_region 4 with (fail)
      generalize (wr.alloc (.cells #[.string y.p, .int .i64 y.n] 40)) = wa at *
      generalize wr.heap.size = gy at *
      clear d0 d1 hbB
      have y0 := id_c0 HY.out
      have y1 := id_c1 HY.out
      have c0 := (HC0.out.on HG1.out).c
      have HS1 := Lib.hid (HS0.out.on HG1.out)
      obtain ⟨q, hq⟩ : ∃ q, decide (y.key ∈ m) = q := ⟨_, rfl⟩
      have HQ := Lib.hid hq
      rw [hq] at HST
      clear hq
      go_upto_region 5 with (at_lookup; refine wpList_look_id rfl _ _ rfl bm m y rfl rfl HS1.out HYO.out q HQ.out ?_)
      have hal : Below wa.heap.size wa (wa.alloc (.cells #[] 129)) := (Below.refl _ _).alloc (Nat.le_refl _) _
      replace HY := Lib.hid (HY.out.on hal)
      replace HG1 := Lib.hid (HG1.out.trans (hal.mono HG1.out.size))
      clear hal y0 y1 c0 HS1
      generalize (wa.alloc (.cells #[] 129)) = wb at *
      have y0 := id_c0 HY.out
      have y1 := id_c1 HY.out
      have p1 := (HC0.out.on HG1.out).p.c1
      obtain ⟨o, ho⟩ : ∃ o, decide (y.p.data.toList ∈ x.deps) = o := ⟨_, rfl⟩
      have CB := Lib.hid (pbsearch_any x.a1 x.deps x.c1 y.p wb (HD0.out.on HG1.out) HRI.out hdn o ho)
      rw [show decide (y.key.1 ∈ x.deps) = o from ho] at HST
      clear ho
      go_upto_region 6 with (go_at_call 122; refine CB.out.mono ?_; rintro e w2 ⟨ix, rfl, hb2⟩)
      have HG2 := Lib.hid (HG1.out.trans (hb2.mono HG1.out.size))
      clear hb2 CB y0 y1 p1 HY HG1
      cases hv : (q || o)
      · have hqo : q = false ∧ o = false := by cases q <;> cases o <;> simp_all
        obtain ⟨rfl, rfl⟩ := hqo
        have HF : Hid (r = false) := by
          show _ = _
          rw [← HR.out]
          exact HPT.out HST.out
        clear HST HPT hv
        go_wp2
        go_ret
        exact ⟨by rw [HF.out]; rfl, HG2.out⟩
      · rw [hv] at HST
        have HM2 := HST
        clear HST HPT
        cases q
        · have ho : o = true := by simpa using hv
          subst ho
          clear hv
          go_wp2
          go_roundw
          case rel => exact ⟨k + 1, by go_num, by omega, HM2.out, HG2.out⟩
          case measure => simp [intOf]; omega
        · clear hv
          go_wp2
          go_roundw
          case rel => exact ⟨k + 1, by go_num, by omega, HM2.out, HG2.out⟩
          case measure => simp [intOf]; omega
    · obtain rfl : k = l.length := by omega
      have HT : Hid (r = true) := by
        show _ = _
        rw [← HR.out]
        have h := HM.out
        rwa [List.take_length] at h
      clear HM
      go_wp2
      go_ret
      exact ⟨by rw [HT.out]; rfl, HG.out⟩
end Go.Proofs.YtoajckhfnadhjaaGreatDoor
