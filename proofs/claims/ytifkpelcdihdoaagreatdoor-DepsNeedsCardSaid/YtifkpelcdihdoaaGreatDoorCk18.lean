/- Package deps: functions that are made for a set of texts; the library's ContainsFunc over them. -/
import Derived.Test.YtifkpelcdihdoaaGreatDoorCk17
namespace Go.Proofs.YtifkpelcdihdoaaGreatDoor
open Go.RowKit
set_option linter.unusedVariables false

/-- A variable that holds a map of these texts. -/
def SetV (w : World) (g m : Nat) (ns : List (List UInt8)) : Prop := ∃ b, w.cell? ⟨g, 0, none⟩ = some (.map (some b)) ∧ SetM w b m ns
theorem SetV.on {w w' : World} {g m : Nat} {ns : List (List UInt8)} (h : SetV w g m ns) (hb : Below w.heap.size w w') : SetV w' g m ns := by
  obtain ⟨b, h1, h2⟩ := h
  exact ⟨b, cell_on h1 hb, StrMap.on h2 hb⟩
theorem set_zero (w : World) : (zeroValue 47).run Tryz.prog w = .ok (.agg #[]) w := by kernel_rfl
theorem below_box {w : World} {t : TypeId} (cs : Array Value) : Below w.heap.size w (w.alloc (.cells cs t)) := (Below.refl _ _).alloc (Nat.le_refl _) _
set_option maxHeartbeats 1000000 in
set_option maxRecDepth 100000 in
theorem damong1_any (g m : Nat) (ns : List (List UInt8)) (s : ByteArray) (w : World) (hV : SetV w g m ns) (hz : s.size ≤ 9223372036854775807) (r : Bool) (hr : decide (s.data.toList ∈ ns) = r) :
    Calls Tryz.prog 51 #[.string s, .pointer (some ⟨g, 0, none⟩)] w fun e w' => e = .returned (.bool r) ∧ Below w.heap.size w w' := by
  obtain ⟨b, c0, hS⟩ := hV
  have HS := Lib.hid hS
  have HB : Hid (Below w.heap.size w (w.alloc (.cells #[.agg #[]] 47))) := below_box _
  have HB2 : Hid (Below w.heap.size w (w.alloc (.cells #[] 47))) := below_box _
  have HR : Hid (setF ns s = if r then some (.agg #[]) else none) := by
    show _ = _
    rw [← hr]
    unfold setF
    simp
  clear hS hr
  go_enter Tryz.func51, Tryz.ntmps51
  -- @P1
  cases r
  · go_wp2_with (at_lookup; refine wpList_look_str _ _ Tryz.underlying46 rfl _ _ rfl (set_zero _) b m (setF ns) s rfl rfl HS.out hz none HR.out ?_)
    go_ret
    exact ⟨rfl, HB2.out⟩
  · go_wp2_with (at_lookup; refine wpList_look_str _ _ Tryz.underlying46 rfl _ _ rfl (set_zero _) b m (setF ns) s rfl rfl HS.out hz (some (.agg #[])) HR.out ?_)
    go_ret
    exact ⟨rfl, HB2.out⟩
set_option maxHeartbeats 1000000 in
set_option maxRecDepth 100000 in
theorem dordered1_any (g m : Nat) (ns : List (List UInt8)) (s : ByteArray) (w : World) (hV : SetV w g m ns) (hz : s.size ≤ 9223372036854775807) (r : Bool) (hr : decide (s.data.toList ∈ ns) = r) :
    Calls Tryz.prog 44 #[.string s, .pointer (some ⟨g, 0, none⟩)] w fun e w' => e = .returned (.bool r) ∧ Below w.heap.size w w' := by
  obtain ⟨b, c0, hS⟩ := hV
  have HS := Lib.hid hS
  have HB : Hid (Below w.heap.size w (w.alloc (.cells #[.agg #[]] 47))) := below_box _
  have HB2 : Hid (Below w.heap.size w (w.alloc (.cells #[] 47))) := below_box _
  have HR : Hid (setF ns s = if r then some (.agg #[]) else none) := by
    show _ = _
    rw [← hr]
    unfold setF
    simp
  clear hS hr
  go_enter Tryz.func44, Tryz.ntmps44
  -- @P1
  cases r
  · go_wp2_with (at_lookup; refine wpList_look_str _ _ Tryz.underlying46 rfl _ _ rfl (set_zero _) b m (setF ns) s rfl rfl HS.out hz none HR.out ?_)
    go_ret
    exact ⟨rfl, HB2.out⟩
  · go_wp2_with (at_lookup; refine wpList_look_str _ _ Tryz.underlying46 rfl _ _ rfl (set_zero _) b m (setF ns) s rfl rfl HS.out hz (some (.agg #[])) HR.out ?_)
    go_ret
    exact ⟨rfl, HB2.out⟩
theorem damong_no {ls ns : List (List UInt8)} (h : ∀ k (hk : k < ls.length), ls[k] ∉ ns) : (ls.any fun n => decide (n ∈ ns)) = false := by
  rw [List.any_eq_false]
  intro x hx
  obtain ⟨k, hk, rfl⟩ := List.getElem_of_mem hx
  simpa using h k hk
theorem damong_yes {ls ns : List (List UInt8)} {k : Nat} (hk : k < ls.length) (h : ls[k] ∈ ns) : (ls.any fun n => decide (n ∈ ns)) = true := by
  rw [List.any_eq_true]
  exact ⟨ls[k], List.getElem_mem _, by simpa using h⟩
set_option maxHeartbeats 1000000 in
set_option maxRecDepth 100000 in
theorem damong_index (g m : Nat) (ns : List (List UInt8)) (A : Option Addr) (ls : List (List UInt8)) (cap : Nat) (w : World) (hV : SetV w g m ns) (hs : Strs w w.heap.size A (toBs ls)) (hn : ls.length ≤ 1000000) (hl : ∀ x ∈ ls, x.length ≤ 9223372036854775807) :
    Calls Tryz.prog 52 #[.slice A ls.length cap, .func (.func 51) #[] #[.pointer (some ⟨g, 0, none⟩)]] w fun e w' => ∃ r : Int, e = .returned (.int .i64 r) ∧ decide (0 ≤ r) = (ls.any fun n => decide (n ∈ ns)) ∧ Below w.heap.size w w' := by
  have HS := Lib.hid hs
  have HL := Lib.hid hl
  have HV := Lib.hid hV
  clear hs hl hV
  go_enter Tryz.func52, Tryz.ntmps52
  go_wp2
  go_loopw [8] (fun i wr => ∃ k : Nat, k ≤ ls.length ∧ i = .int .i64 (k : Int) ∧ Hid (∀ j (hj : j < ls.length), j < k → ls[j] ∉ ns) ∧ Below w.heap.size w wr) (fun i _ => ls.length - (intOf i).toNat)
  case atStart => exact ⟨0, Nat.zero_le _, rfl, fun j _ h => absurd h (by omega), Below.refl _ _⟩
  case round =>
    obtain ⟨k, hk, rfl, hall, hb⟩ := hrel
    by_cases hlt : k < ls.length
    · obtain ⟨b, off, rfl, hg, hc⟩ := (HS.out.on hb).at_ (k := k) (by rw [toBs_len]; exact hlt)
      have e1 : (toBs ls)[k]'(by rw [toBs_len]; exact hlt) = toB ls[k] := by simp [toBs]
      rw [e1] at hc
      have hz : (toB ls[k]).size ≤ 9223372036854775807 := by
        have := HL.out ls[k] (List.getElem_mem _)
        simpa [toB, ByteArray.size] using this
      obtain ⟨r, hr⟩ : ∃ r, decide ((toB ls[k]).data.toList ∈ ns) = r := ⟨_, rfl⟩
      have C := Lib.hid (damong1_any g m ns (toB ls[k]) wr (HV.out.on hb) hz r hr)
      rw [of_toB] at hr
      cases r with
      | true =>
        have hfin : Hid ((ls.any fun n => decide (n ∈ ns)) = true) := damong_yes hlt (of_decide_eq_true hr)
        have HB := Lib.hid hb
        clear hall hr e1 hz hb
        generalize toB ls[k] = z at *
        go_wp2_with fail
        refine C.out.mono ?_
        rintro e w1 ⟨rfl, hb1⟩
        have HB2 := Lib.hid (HB.out.trans (hb1.mono HB.out.size))
        clear hb1
        go_wp2
        go_ret
        exact ⟨k, rfl, by rw [hfin.out]; simp, HB2.out⟩
      | false =>
        have hyes : Hid (∀ j (hj : j < ls.length), j < k + 1 → ls[j] ∉ ns) := by
          intro j hj hjk
          by_cases hjk2 : j = k
          · subst hjk2; exact of_decide_eq_false hr
          · exact hall.out j hj (by omega)
        have HB := Lib.hid hb
        clear hall hr e1 hz hb
        generalize toB ls[k] = z at *
        go_wp2_with fail
        refine C.out.mono ?_
        rintro e w1 ⟨rfl, hb1⟩
        have HB2 := Lib.hid (HB.out.trans (hb1.mono HB.out.size))
        clear hb1
        go_wp2
        go_roundw
        case rel => exact ⟨k + 1, by omega, by go_num, hyes, HB2.out⟩
        case measure => simp [intOf]; omega
    · obtain rfl : k = ls.length := by omega
      have hfin : Hid ((ls.any fun n => decide (n ∈ ns)) = false) := damong_no fun j hj => hall.out j hj hj
      clear hall
      go_wp2
      go_ret
      exact ⟨-1, rfl, by rw [hfin.out]; rfl, hb⟩
theorem damong_contains (g m : Nat) (ns : List (List UInt8)) (A : Option Addr) (ls : List (List UInt8)) (cap : Nat) (w : World) (hV : SetV w g m ns) (hs : Strs w w.heap.size A (toBs ls)) (hn : ls.length ≤ 1000000) (hl : ∀ x ∈ ls, x.length ≤ 9223372036854775807) (r : Bool) (hr : (ls.any fun n => decide (n ∈ ns)) = r) :
    Calls Tryz.prog 30 #[.slice A ls.length cap, .func (.func 51) #[] #[.pointer (some ⟨g, 0, none⟩)]] w fun e w' => e = .returned (.bool r) ∧ Below w.heap.size w w' := by
  have C := Lib.hid (damong_index g m ns A ls cap w hV hs hn hl)
  rw [hr] at C
  clear hs hl hr hV
  go_enter Tryz.func30, Tryz.ntmps30
  go_wp2_with fail
  refine C.out.mono ?_
  rintro e w1 ⟨r, rfl, hr, hb⟩
  have HR := Lib.hid hr
  clear hr C
  go_wp2
  go_ret
  rw [← HR.out]
  exact ⟨rfl, hb⟩
theorem dordered_no {ls ns : List (List UInt8)} (h : ∀ k (hk : k < ls.length), ls[k] ∉ ns) : (ls.any fun n => decide (n ∈ ns)) = false := by
  rw [List.any_eq_false]
  intro x hx
  obtain ⟨k, hk, rfl⟩ := List.getElem_of_mem hx
  simpa using h k hk
theorem dordered_yes {ls ns : List (List UInt8)} {k : Nat} (hk : k < ls.length) (h : ls[k] ∈ ns) : (ls.any fun n => decide (n ∈ ns)) = true := by
  rw [List.any_eq_true]
  exact ⟨ls[k], List.getElem_mem _, by simpa using h⟩
set_option maxHeartbeats 1000000 in
set_option maxRecDepth 100000 in
theorem dordered_index (g m : Nat) (ns : List (List UInt8)) (A : Option Addr) (ls : List (List UInt8)) (cap : Nat) (w : World) (hV : SetV w g m ns) (hs : Strs w w.heap.size A (toBs ls)) (hn : ls.length ≤ 1000000) (hl : ∀ x ∈ ls, x.length ≤ 9223372036854775807) :
    Calls Tryz.prog 52 #[.slice A ls.length cap, .func (.func 44) #[] #[.pointer (some ⟨g, 0, none⟩)]] w fun e w' => ∃ r : Int, e = .returned (.int .i64 r) ∧ decide (0 ≤ r) = (ls.any fun n => decide (n ∈ ns)) ∧ Below w.heap.size w w' := by
  have HS := Lib.hid hs
  have HL := Lib.hid hl
  have HV := Lib.hid hV
  clear hs hl hV
  go_enter Tryz.func52, Tryz.ntmps52
  go_wp2
  go_loopw [8] (fun i wr => ∃ k : Nat, k ≤ ls.length ∧ i = .int .i64 (k : Int) ∧ Hid (∀ j (hj : j < ls.length), j < k → ls[j] ∉ ns) ∧ Below w.heap.size w wr) (fun i _ => ls.length - (intOf i).toNat)
  case atStart => exact ⟨0, Nat.zero_le _, rfl, fun j _ h => absurd h (by omega), Below.refl _ _⟩
  case round =>
    obtain ⟨k, hk, rfl, hall, hb⟩ := hrel
    by_cases hlt : k < ls.length
    · obtain ⟨b, off, rfl, hg, hc⟩ := (HS.out.on hb).at_ (k := k) (by rw [toBs_len]; exact hlt)
      have e1 : (toBs ls)[k]'(by rw [toBs_len]; exact hlt) = toB ls[k] := by simp [toBs]
      rw [e1] at hc
      have hz : (toB ls[k]).size ≤ 9223372036854775807 := by
        have := HL.out ls[k] (List.getElem_mem _)
        simpa [toB, ByteArray.size] using this
      obtain ⟨r, hr⟩ : ∃ r, decide ((toB ls[k]).data.toList ∈ ns) = r := ⟨_, rfl⟩
      have C := Lib.hid (dordered1_any g m ns (toB ls[k]) wr (HV.out.on hb) hz r hr)
      rw [of_toB] at hr
      cases r with
      | true =>
        have hfin : Hid ((ls.any fun n => decide (n ∈ ns)) = true) := dordered_yes hlt (of_decide_eq_true hr)
        have HB := Lib.hid hb
        clear hall hr e1 hz hb
        generalize toB ls[k] = z at *
        go_wp2_with fail
        refine C.out.mono ?_
        rintro e w1 ⟨rfl, hb1⟩
        have HB2 := Lib.hid (HB.out.trans (hb1.mono HB.out.size))
        clear hb1
        go_wp2
        go_ret
        exact ⟨k, rfl, by rw [hfin.out]; simp, HB2.out⟩
      | false =>
        have hyes : Hid (∀ j (hj : j < ls.length), j < k + 1 → ls[j] ∉ ns) := by
          intro j hj hjk
          by_cases hjk2 : j = k
          · subst hjk2; exact of_decide_eq_false hr
          · exact hall.out j hj (by omega)
        have HB := Lib.hid hb
        clear hall hr e1 hz hb
        generalize toB ls[k] = z at *
        go_wp2_with fail
        refine C.out.mono ?_
        rintro e w1 ⟨rfl, hb1⟩
        have HB2 := Lib.hid (HB.out.trans (hb1.mono HB.out.size))
        clear hb1
        go_wp2
        go_roundw
        case rel => exact ⟨k + 1, by omega, by go_num, hyes, HB2.out⟩
        case measure => simp [intOf]; omega
    · obtain rfl : k = ls.length := by omega
      have hfin : Hid ((ls.any fun n => decide (n ∈ ns)) = false) := dordered_no fun j hj => hall.out j hj hj
      clear hall
      go_wp2
      go_ret
      exact ⟨-1, rfl, by rw [hfin.out]; rfl, hb⟩
theorem dordered_contains (g m : Nat) (ns : List (List UInt8)) (A : Option Addr) (ls : List (List UInt8)) (cap : Nat) (w : World) (hV : SetV w g m ns) (hs : Strs w w.heap.size A (toBs ls)) (hn : ls.length ≤ 1000000) (hl : ∀ x ∈ ls, x.length ≤ 9223372036854775807) (r : Bool) (hr : (ls.any fun n => decide (n ∈ ns)) = r) :
    Calls Tryz.prog 30 #[.slice A ls.length cap, .func (.func 44) #[] #[.pointer (some ⟨g, 0, none⟩)]] w fun e w' => e = .returned (.bool r) ∧ Below w.heap.size w w' := by
  have C := Lib.hid (dordered_index g m ns A ls cap w hV hs hn hl)
  rw [hr] at C
  clear hs hl hr hV
  go_enter Tryz.func30, Tryz.ntmps30
  go_wp2_with fail
  refine C.out.mono ?_
  rintro e w1 ⟨r, rfl, hr, hb⟩
  have HR := Lib.hid hr
  clear hr C
  go_wp2
  go_ret
  rw [← HR.out]
  exact ⟨rfl, hb⟩
set_option maxHeartbeats 2000000 in
set_option maxRecDepth 100000 in
theorem damong_any (B : Option Addr) (ns : List (List UInt8)) (d : Nat) (w : World) (hs : Strs w w.heap.size B (toBs ns)) (hn : ns.length ≤ 100000) (hl : ∀ x ∈ ns, x.length ≤ 9223372036854775807) :
    Calls Tryz.prog 28 #[.slice B ns.length d] w fun e w' => ∃ g, e = .returned (.func (.func 51) #[] #[.pointer (some ⟨g, 0, none⟩)]) ∧ SetV w' g ns.length ns ∧ Below w.heap.size w w' := by
  have HS := Lib.hid hs
  have HL := Lib.hid hl
  clear hs hl
  go_enter Tryz.func28, Tryz.ntmps28
  have q1 : ∀ (W : World), (Instr.makeMap 46 (some (.int .i64 (ns.length : Int)))).run Tryz.prog W = .ok (.map (some W.heap.size)) (W.alloc (.map #[] 0)) := fun W => mk_map Tryz.underlying46 _ W
  go_upto_region 1 with (fail)
  -- @P1
  have hM0 : SetM (w.alloc (.map #[] 0)) w.heap.size 0 (ns.take 0) := by
    have h := StrMap.made w
    rw [← setF_nil] at h
    exact h
  have HM0 : Hid (SetM ((w.alloc (.map #[] 0)).alloc (.cells #[.map (some w.heap.size)] 46)) w.heap.size 0 (ns.take 0)) := StrMap.on hM0 (below_box _)
  have hs1 : (w.alloc (.map #[] 0)).heap.size = w.heap.size + 1 := by simp
  have HC0 : Hid (((w.alloc (.map #[] 0)).alloc (.cells #[.map (some w.heap.size)] 46)).cell? ⟨w.heap.size + 1, 0, none⟩ = some (.map (some w.heap.size))) := by
    rw [← hs1]
    rw [World.cell?_alloc_new]
    rfl
  have hbm : Below w.heap.size w (w.alloc (.map #[] 0)) := (Below.refl _ _).alloc (Nat.le_refl _) _
  have HB0 : Hid (Below w.heap.size w ((w.alloc (.map #[] 0)).alloc (.cells #[.map (some w.heap.size)] 46))) := hbm.trans ((below_box _).mono hbm.size)
  clear hM0 hs1 hbm
  go_upto_region 2 with (fail)
  generalize ((w.alloc (.map #[] 0)).alloc (.cells #[.map (some w.heap.size)] 46)) = w2 at *
  go_wp2_with fail
  go_loopw [11] (fun i wr => ∃ k : Nat, k ≤ ns.length ∧ i = .int .i64 (k : Int) ∧ Hid (SetM wr w.heap.size k (ns.take k)) ∧ Hid (wr.cell? ⟨w.heap.size + 1, 0, none⟩ = some (.map (some w.heap.size))) ∧ Hid (Below w.heap.size w wr)) (fun i _ => ns.length - (intOf i).toNat)
  case atStart => exact ⟨0, Nat.zero_le _, rfl, HM0.out, HC0.out, HB0.out⟩
  case round =>
    clear HM0 HC0 HB0
    obtain ⟨k, hk, rfl, HM, HC, HB⟩ := hrel
    by_cases hlt : k < ns.length
    · obtain ⟨b, off, rfl, hg, hc⟩ := (HS.out.on HB.out).at_ (k := k) (by rw [toBs_len]; exact hlt)
      have e1 : (toBs ns)[k]'(by rw [toBs_len]; exact hlt) = toB ns[k] := by simp [toBs]
      rw [e1] at hc
      have hz : (toB ns[k]).size ≤ 9223372036854775807 := by
        have := HL.out ns[k] (List.getElem_mem _)
        simpa [toB, ByteArray.size] using this
      have HST : Hid (ns.take (k + 1) = ns.take k ++ [(toB ns[k]).data.toList]) := by
        show _ = _
        rw [of_toB]
        exact List.take_succ_eq_append_getElem hlt
      have c0 := HC.out
      clear e1
      generalize toB ns[k] = s at *
      go_wp2_with (at_mapUpdate; refine wpList_put_str _ _ Tryz.underlying46 rfl _ _ _ rfl w.heap.size k (setF (ns.take k)) s (.agg #[]) rfl rfl rfl HM.out hz (by omega) ?_)
      intro w3 hs3 hg3
      have HC3 := Lib.hid (StrMap.cell HM.out hg3 c0)
      have HM3 : Hid (SetM w3 w.heap.size (k + 1) (ns.take (k + 1))) := by
        show StrMap _ _ _ _
        rw [HST.out, ← setF_put]
        exact hs3
      have HB3 : Hid (Below w.heap.size w w3) := HB.out.grown hg3 HB.out.size (fun q hq => by simp only [Option.some.injEq] at hq; omega)
      clear hs3 hg3 HM HC HB c0 hz HST hc
      go_wp2
      go_roundw
      case rel => exact ⟨k + 1, by omega, by go_num, HM3.out, HC3.out, HB3.out⟩
      case measure => simp [intOf]; omega
    · obtain rfl : k = ns.length := by omega
      have HV : Hid (SetV wr (w.heap.size + 1) ns.length ns) := ⟨_, HC.out, by have h := HM.out; rwa [List.take_length] at h⟩
      clear HM HC
      go_wp2
      go_ret
      exact ⟨_, rfl, HV.out, HB.out⟩
end Go.Proofs.YtifkpelcdihdoaaGreatDoor
