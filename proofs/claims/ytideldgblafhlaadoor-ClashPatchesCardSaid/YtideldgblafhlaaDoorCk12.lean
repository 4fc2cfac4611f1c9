/- Package clash: places found in rows of places: shared, within. The library's IndexFunc, ContainsFunc of ids over any function. -/
import Derived.Lib.SlicesCompact
import Derived.Test.YtideldgblafhlaaDoorShelf
import Derived.BigQuiet
import Derived.Deep.QuietTactic
import Derived.Shelf.Abstract
import Derived.Test.YtideldgblafhlaaDoorCk11
namespace Go.Proofs.YtideldgblafhlaaDoor
open Go.RowKit
set_option linter.unusedVariables false

set_option maxHeartbeats 2000000 in
set_option maxRecDepth 100000 in
theorem clindex_any (A : Option Addr) (l : List Plm) (cap : Nat) (x : Plm) (w : World) (hs : clR.Row w w.heap.size A l) (hn : l.length ≤ 1000000) :
    Calls Tryd.prog 67 #[.slice A l.length cap, .agg #[.string x.dir.p, .int .i64 x.dir.n, .string x.name]] w fun e w' => ∃ r : Int, e = .returned (.int .i64 r) ∧ Hid (decide (0 ≤ r) = decide (x ∈ l)) ∧ Below w.heap.size w w' := by
  obtain ⟨hb, hx⟩ := cl_box w x
  have HS := Lib.hid (hs.on hb)
  have HX := Lib.hid hx
  have HB := Lib.hid hb
  clear hs hb hx
  go_enter Tryd.func67, Tryd.ntmps67
  go_wp2
  generalize (w.alloc (.cells #[.string x.dir.p, .int .i64 x.dir.n, .string x.name] 50)) = wb at *
  go_loopw [8] (fun i wr => ∃ k : Nat, k ≤ l.length ∧ i = .int .i64 (k : Int) ∧ Hid (∀ j (hj : j < l.length), j < k → l[j] ≠ x) ∧ Hid (Below wb.heap.size wb wr)) (fun i _ => l.length - (intOf i).toNat)
  case atStart => exact ⟨0, Nat.zero_le _, rfl, fun j _ h => absurd h (by omega), Below.refl _ _⟩
  case round =>
    obtain ⟨k, hk, rfl, hall, hbr⟩ := hrel
    by_cases hlt : k < l.length
    · have hS := HS.out.on hbr.out
      have hX := HX.out.on hbr.out
      obtain ⟨g, off, rfl, hg, c0, c1, c2⟩ := cl_get hS hlt
      have d0 := cl_c0 hX
      have d1 := cl_c1 hX
      have d2 := cl_c2 hX
      have hq : ∀ q, Hid (Below wb.heap.size wb (wr.drewN q)) := fun q => below_drewN hbr.out q
      have hfin : ∀ q, Hid (Below w.heap.size w (wr.drewN q)) := fun q => HB.out.trans (((hq q).out).mono HB.out.size)
      have EQ := fun W => eql_cl x l[k] W
      by_cases he : x = l[k]
      · have hyes : Hid (decide (0 ≤ (k : Int)) = decide (x ∈ l)) := by
          show _ = _
          have h1 : x ∈ l := by rw [he]; exact List.getElem_mem _
          simp [h1]
        rw [decide_eq_true he] at EQ
        generalize l[k] = y at *
        clear hS hX hall hbr he
        go_wp2
        go_quiet (fail)
        go_wp2
        go_ret
        exact ⟨_, rfl, hyes, (hfin _).out⟩
      · rw [decide_eq_false he] at EQ
        have hnew : Hid (∀ j (hj : j < l.length), j < k + 1 → l[j] ≠ x) := by
          intro j hj hjk
          by_cases e : j = k
          · subst e; exact fun e => he e.symm
          · exact hall.out j hj (by omega)
        generalize l[k] = y at *
        clear hS hX hall hbr he hfin
        go_wp2
        go_quiet (fail)
        go_wp2
        go_roundw
        case rel => exact ⟨k + 1, by omega, by go_num, hnew, hq _⟩
        case measure => simp [intOf]; omega
    · obtain rfl : k = l.length := by omega
      have hno : Hid (decide (0 ≤ (-1 : Int)) = decide (x ∈ l)) := by
        show _ = _
        rw [decide_eq_false (by decide), eq_comm, decide_eq_false_iff_not]
        intro h
        obtain ⟨j, hj, e⟩ := List.getElem_of_mem h
        exact hall.out j hj hj e
      have hfin := Lib.hid (HB.out.trans (hbr.out.mono HB.out.size))
      clear hall
      go_wp2
      go_ret
      exact ⟨_, rfl, hno, hfin.out⟩
set_option maxHeartbeats 2000000 in
set_option maxRecDepth 100000 in
theorem clcontains_any (A : Option Addr) (l : List Plm) (cap : Nat) (x : Plm) (w : World) (hs : clR.Row w w.heap.size A l) (hn : l.length ≤ 1000000) :
    Calls Tryd.prog 55 #[.slice A l.length cap, .agg #[.string x.dir.p, .int .i64 x.dir.n, .string x.name]] w fun e w' => e = .returned (.bool (decide (x ∈ l))) ∧ Below w.heap.size w w' := by
  obtain ⟨hb, hx⟩ := cl_box w x
  have HB := Lib.hid hb
  have x0 := cl_c0 hx
  have x1 := cl_c1 hx
  have x2 := cl_c2 hx
  have CI := Lib.hid (clindex_any A l cap x _ (hs.on hb) hn)
  clear hs hb hx
  go_enter Tryd.func55, Tryd.ntmps55
  go_wp2_with fail
  refine CI.out.mono ?_
  rintro e w1 ⟨r, rfl, hr, hb1⟩
  have HF := Lib.hid (HB.out.trans (hb1.mono HB.out.size))
  clear hb1 x0 x1 x2 CI
  go_wp2
  go_ret
  rw [← hr.out]
  exact ⟨rfl, HF.out⟩
set_option maxHeartbeats 4000000 in
set_option maxRecDepth 100000 in
theorem iindexg_any (A : Option Addr) (l : List Im) (cap : Nat) (f : Nat) (caps : Array Value) (eg : ∀ args w, (callFunc f args).run Tryd.prog w = .ok (.enter f args) w) (p : Im → Bool) (w : World) (hs : Ids w w.heap.size A l) (k : ∀ W x, x ∈ l → Below w.heap.size w W → Calls Tryd.prog f (#[.agg #[.string x.p, .int .i64 x.n]] ++ caps) W fun e w' => e = .returned (.bool (p x)) ∧ Below W.heap.size W w') (hn : l.length ≤ 100000) :
    Calls Tryd.prog 66 #[.slice A l.length cap, .func (.func f) #[] caps] w fun e w' => ∃ r : Int, e = .returned (.int .i64 r) ∧ Hid (decide (0 ≤ r) = l.any p) ∧ Below w.heap.size w w' := by
  have HS := Lib.hid hs
  have HK := Lib.hid k
  clear hs k
  go_enter Tryd.func66, Tryd.ntmps66
  go_wp2
  go_loopw [8] (fun i wr => ∃ k : Nat, k ≤ l.length ∧ i = .int .i64 (k : Int) ∧ Hid (∀ j (hj : j < l.length), j < k → p l[j] = false) ∧ Hid (Below w.heap.size w wr)) (fun i _ => l.length - (intOf i).toNat)
  case atStart => exact ⟨0, Nat.zero_le _, rfl, fun j _ h => absurd h (by omega), Below.refl _ _⟩
  case round =>
    obtain ⟨k, hk, rfl, hall, hb⟩ := hrel
    by_cases hlt : k < l.length
    · have hS := HS.out.on hb.out
      obtain ⟨b, off, rfl, bl1, h1, h2⟩ := ids_get hS hlt
      have C := Lib.hid (HK.out wr l[k] (List.getElem_mem _) hb.out)
      by_cases he : p l[k] = true
      · have hres : Hid (decide (0 ≤ (k : Int)) = l.any p) := by
          show _ = _
          rw [show l.any p = true from List.any_eq_true.2 ⟨l[k], List.getElem_mem _, he⟩]
          simp
        rw [he] at C
        clear he hall hS
        generalize l[k] = y at *
        go_wp2_with fail
        refine C.out.mono ?_
        rintro e w1 ⟨rfl, hb1⟩
        have HB2 := Lib.hid (hb.out.trans (hb1.mono hb.out.size))
        clear hb1 C h1 h2
        go_wp2
        go_ret
        exact ⟨_, rfl, hres, HB2.out⟩
      · have hnew : Hid (∀ j (hj : j < l.length), j < k + 1 → p l[j] = false) := by
          intro j hj hjk
          by_cases e : j = k
          · subst e; simpa using he
          · exact hall.out j hj (by omega)
        rw [show p l[k] = false by simpa using he] at C
        clear he hall hS
        generalize l[k] = y at h1 h2 C
        go_wp2_with fail
        refine C.out.mono ?_
        rintro e w1 ⟨rfl, hb1⟩
        have HB2 : Hid (Below w.heap.size w w1) := hb.out.trans (hb1.mono hb.out.size)
        clear hb1 C h1 h2
        go_wp2
        go_roundw
        case rel => exact ⟨k + 1, by omega, by go_num, hnew, HB2⟩
        case measure => simp [intOf]; omega
    · obtain rfl : k = l.length := by omega
      have hres : Hid (decide (0 ≤ (-1 : Int)) = l.any p) := by
        show _ = _
        rw [decide_eq_false (by decide), eq_comm, List.any_eq_false]
        intro x hx
        obtain ⟨j, hj, rfl⟩ := List.getElem_of_mem hx
        simpa using hall.out j hj hj
      clear hall
      go_wp2
      go_ret
      exact ⟨_, rfl, hres, hb.out⟩
set_option maxHeartbeats 4000000 in
set_option maxRecDepth 100000 in
theorem icontg_any (A : Option Addr) (l : List Im) (cap : Nat) (f : Nat) (caps : Array Value) (eg : ∀ args w, (callFunc f args).run Tryd.prog w = .ok (.enter f args) w) (p : Im → Bool) (w : World) (hs : Ids w w.heap.size A l) (k : ∀ W x, x ∈ l → Below w.heap.size w W → Calls Tryd.prog f (#[.agg #[.string x.p, .int .i64 x.n]] ++ caps) W fun e w' => e = .returned (.bool (p x)) ∧ Below W.heap.size W w') (hn : l.length ≤ 100000) (r : Bool) (hr : (l.any p) = r) :
    Calls Tryd.prog 54 #[.slice A l.length cap, .func (.func f) #[] caps] w fun e w' => e = .returned (.bool r) ∧ Below w.heap.size w w' := by
  have C := Lib.hid (iindexg_any A l cap f caps eg p w hs k hn)
  rw [hr] at C
  clear hs k hr
  go_enter Tryd.func54, Tryd.ntmps54
  go_wp2_with fail
  refine C.out.mono ?_
  rintro e w1 ⟨q, rfl, hq, hb⟩
  have HB := Lib.hid hb
  clear hb C
  go_wp2
  go_ret
  rw [← hq.out]
  exact ⟨rfl, HB.out⟩
set_option maxHeartbeats 4000000 in
set_option maxRecDepth 100000 in
theorem cshared_any (A B : Option Addr) (l m : List Plm) (c d : Nat) (w : World) (hl : clR.Row w w.heap.size A l) (hm : clR.Row w w.heap.size B m) (nl : l.length ≤ 1000000) (nm : m.length ≤ 1000000) (r : Bool) (hr : (l.any fun x => decide (x ∈ m)) = r) :
    Calls Tryd.prog 45 #[.slice A l.length c, .slice B m.length d] w fun e w' => e = .returned (.bool r) ∧ Below w.heap.size w w' := by
  have HL := Lib.hid hl
  have HM := Lib.hid hm
  have HR := Lib.hid hr
  clear hl hm hr
  go_enter Tryd.func45, Tryd.ntmps45
  go_wp2
  go_loopw [9] (fun i wr => ∃ k : Nat, k ≤ l.length ∧ i = .int .i64 (k : Int) ∧ Hid (∀ j (hj : j < l.length), j < k → l[j] ∉ m) ∧ Hid (Below w.heap.size w wr)) (fun i _ => l.length - (intOf i).toNat)
  case atStart => exact ⟨0, Nat.zero_le _, rfl, fun j _ h => absurd h (by omega), Below.refl _ _⟩
  case round =>
    obtain ⟨k, hk, rfl, hall, hb⟩ := hrel
    by_cases hlt : k < l.length
    · obtain ⟨b, off, rfl, bl1, h1, h2, h3⟩ := cl_get (HL.out.on hb.out) hlt
      obtain ⟨hal, hx⟩ := cl_box wr l[k]
      have HX := Lib.hid hx
      have HAL := Lib.hid (hb.out.trans (hal.mono hb.out.size))
      have C := Lib.hid (clcontains_any B m d l[k] _ ((HM.out.on hb.out).on hal) nm)
      have u0 : (0 : Int) ≤ (k : Int) := by omega
      have u1 : (k : Int) < (l.length : Int) := by omega
      by_cases he : l[k] ∈ m
      · have hres : Hid (r = true) := by
          show _ = _
          rw [← HR.out, show l.any (fun x => decide (x ∈ m)) = true from List.any_eq_true.2 ⟨l[k], List.getElem_mem _, decide_eq_true he⟩]
        rw [decide_eq_true he] at C
        clear he hall hx hal
        generalize l[k] = y at *
        go_upto_region 4 with (fail)
        generalize (wr.alloc (.cells #[.string y.dir.p, .int .i64 y.dir.n, .string y.name] 50)) = wa at *
        have y0 := cl_c0 HX.out
        have y1 := cl_c1 HX.out
        have y2 := cl_c2 HX.out
        clear h1 h2 h3
        go_wp2_with fail
        refine C.out.mono ?_
        rintro e w1 ⟨rfl, hb1⟩
        have HB2 := Lib.hid (HAL.out.trans (hb1.mono HAL.out.size))
        clear hb1 C y0 y1 y2
        go_wp2
        go_ret
        exact ⟨by rw [hres.out]; rfl, HB2.out⟩
      · have hnew : Hid (∀ j (hj : j < l.length), j < k + 1 → l[j] ∉ m) := by
          intro j hj hjk
          by_cases e : j = k
          · subst e; exact he
          · exact hall.out j hj (by omega)
        rw [decide_eq_false he] at C
        clear he hall hx hal
        generalize l[k] = y at h1 h2 h3 C HX HAL
        go_upto_region 4 with (fail)
        generalize (wr.alloc (.cells #[.string y.dir.p, .int .i64 y.dir.n, .string y.name] 50)) = wa at *
        have y0 := cl_c0 HX.out
        have y1 := cl_c1 HX.out
        have y2 := cl_c2 HX.out
        clear h1 h2 h3
        go_wp2_with fail
        refine C.out.mono ?_
        rintro e w1 ⟨rfl, hb1⟩
        have HB2 : Hid (Below w.heap.size w w1) := HAL.out.trans (hb1.mono HAL.out.size)
        clear hb1 C y0 y1 y2
        go_wp2
        go_roundw
        case rel => exact ⟨k + 1, by omega, by go_num, hnew, HB2⟩
        case measure => simp [intOf]; omega
    · obtain rfl : k = l.length := by omega
      have hres : Hid (r = false) := by
        show _ = _
        rw [← HR.out, List.any_eq_false]
        intro x hx
        obtain ⟨j, hj, rfl⟩ := List.getElem_of_mem hx
        simpa using hall.out j hj hj
      clear hall
      go_wp2
      go_ret
      exact ⟨by rw [hres.out]; rfl, hb.out⟩
set_option maxHeartbeats 4000000 in
set_option maxRecDepth 100000 in
theorem cwithin_any (A : Option Addr) (l : List Plm) (c : Nat) (x : Im) (w : World) (hl : clR.Row w w.heap.size A l) (nl : l.length ≤ 1000000) (r : Bool) (hr : (l.any fun p => decide (p.dir = x)) = r) :
    Calls Tryd.prog 47 #[.slice A l.length c, .agg #[.string x.p, .int .i64 x.n]] w fun e w' => e = .returned (.bool r) ∧ Below w.heap.size w w' := by
  obtain ⟨hb, hx⟩ := id_box w x
  have HL := Lib.hid (hl.on hb)
  have HX := Lib.hid hx
  have HB := Lib.hid hb
  have HR := Lib.hid hr
  clear hl hb hx hr
  go_enter Tryd.func47, Tryd.ntmps47
  go_wp2
  generalize (w.alloc (.cells #[.string x.p, .int .i64 x.n] 23)) = wb at *
  have HSZ : Hid (w.heap.size ≤ wb.heap.size) := HB.out.size
  go_loopw [9] (fun i wr => ∃ k : Nat, k ≤ l.length ∧ i = .int .i64 (k : Int) ∧ Hid (∀ j (hj : j < l.length), j < k → ¬ l[j].dir = x) ∧ Hid (Below wb.heap.size wb wr)) (fun i _ => l.length - (intOf i).toNat)
  case atStart => exact ⟨0, Nat.zero_le _, rfl, fun j _ h => absurd h (by omega), Below.refl _ _⟩
  case round =>
    obtain ⟨k, hk, rfl, hall, hb⟩ := hrel
    by_cases hlt : k < l.length
    · obtain ⟨b, off, rfl, bl1, h1, h2, h3⟩ := cl_get (HL.out.on hb.out) hlt
      obtain ⟨hal, hp⟩ := cl_box wr l[k]
      have HP := Lib.hid hp
      have HX2 := Lib.hid ((HX.out.on hb.out).on hal)
      have HN := Lib.hid (hb.out.trans (hal.mono hb.out.size))
      have HF : Hid (Below w.heap.size w (wr.alloc (.cells #[.string l[k].dir.p, .int .i64 l[k].dir.n, .string l[k].name] 50))) := HB.out.trans (HN.out.mono HSZ.out)
      have EQ := fun W => eql_id l[k].dir x W
      have u0 : (0 : Int) ≤ (k : Int) := by omega
      have u1 : (k : Int) < (l.length : Int) := by omega
      by_cases he : l[k].dir = x
      · have hres : Hid (r = true) := by
          show _ = _
          rw [← HR.out, show l.any (fun p => decide (p.dir = x)) = true from List.any_eq_true.2 ⟨l[k], List.getElem_mem _, decide_eq_true he⟩]
        rw [decide_eq_true he] at EQ
        clear he hall hp hal
        generalize l[k] = y at *
        go_upto_region 4 with (fail)
        generalize (wr.alloc (.cells #[.string y.dir.p, .int .i64 y.dir.n, .string y.name] 50)) = wa at *
        have y0 := cl_c0 HP.out
        have y1 := cl_c1 HP.out
        have x0 := id_c0 HX2.out
        have x1 := id_c1 HX2.out
        clear h1 h2 h3
        go_wp2
        go_ret
        exact ⟨by rw [hres.out]; rfl, HF.out⟩
      · have hnew : Hid (∀ j (hj : j < l.length), j < k + 1 → ¬ l[j].dir = x) := by
          intro j hj hjk
          by_cases e : j = k
          · subst e; exact he
          · exact hall.out j hj (by omega)
        rw [decide_eq_false he] at EQ
        clear he hall hp hal
        generalize l[k] = y at h1 h2 h3 EQ HP HX2 HN HF
        go_upto_region 4 with (fail)
        generalize (wr.alloc (.cells #[.string y.dir.p, .int .i64 y.dir.n, .string y.name] 50)) = wa at *
        have y0 := cl_c0 HP.out
        have y1 := cl_c1 HP.out
        have x0 := id_c0 HX2.out
        have x1 := id_c1 HX2.out
        clear h1 h2 h3
        go_wp2
        go_roundw
        case rel => exact ⟨k + 1, by omega, by go_num, hnew, HN⟩
        case measure => simp [intOf]; omega
    · obtain rfl : k = l.length := by omega
      have hres : Hid (r = false) := by
        show _ = _
        rw [← HR.out, List.any_eq_false]
        intro z hz
        obtain ⟨j, hj, rfl⟩ := List.getElem_of_mem hz
        simpa using hall.out j hj hj
      have HF := Lib.hid (HB.out.trans (hb.out.mono HSZ.out))
      clear hall
      go_wp2
      go_ret
      exact ⟨by rw [hres.out]; rfl, HF.out⟩
end Go.Proofs.YtideldgblafhlaaDoor
