
/- The library's BinarySearchFunc over package ident's order. -/
import Derived.Test.YthenlajknoddcaaGreatDoorIdOrd
import Derived.Test.YthenlajknoddcaaGreatDoorRecAt
import Derived.BigQuiet
import Derived.Deep.QuietTactic
namespace Go.Proofs.YthenlajknoddcaaGreatDoor
open Go.RowKit
set_option linter.unusedVariables false

set_option maxHeartbeats 4000000 in
set_option maxRecDepth 100000 in
theorem ibsearch_any (A : Option Addr) (l : List Im) (cap : Nat) (t : Im) (i : Nat) (hi : i ≤ l.length) (h1 : ∀ j (hj : j < l.length), j < i → ordI l[j] t < 0) (h2 : ∀ j (hj : j < l.length), i ≤ j → ¬ ordI l[j] t < 0) (w : World) (hs : Ids w w.heap.size A l) (hn : l.length ≤ 1000000) :
    Calls Tryz.prog 44 #[.slice A l.length cap, .agg #[.string t.p, .int .i64 t.n], .func (.func 24) #[] #[]] w fun e w' => ∃ b, e = .returned (.tuple #[.int .i64 (i : Int), .bool b]) ∧ Below w.heap.size w w' := by
  obtain ⟨hal, ht⟩ := id_box w t
  have HT := Lib.hid ht
  have HS := Lib.hid (hs.on hal)
  have HA := Lib.hid hal
  have H1 := Lib.hid h1
  have H2 := Lib.hid h2
  have HI := Lib.hid hi
  clear hal hs h1 h2 hi ht
  go_enter Tryz.func44, Tryz.ntmps44
  go_wp2
  generalize (w.alloc (.cells #[.string t.p, .int .i64 t.n] 24)) = wb at *
  generalize hgt : w.heap.size = gt at HT
  clear hgt
  go_loopw [9, 10] (fun s9 s10 wr => ∃ (lo hi : Nat), s9 = .int .i64 (lo : Int) ∧ s10 = .int .i64 (hi : Int) ∧ lo ≤ hi ∧ hi ≤ l.length ∧ Hid (lo ≤ i ∧ i ≤ hi) ∧ Hid (Below wb.heap.size wb wr)) (fun s9 s10 _ => (intOf s10).toNat - (intOf s9).toNat)
  case atStart => exact ⟨0, l.length, rfl, rfl, Nat.zero_le _, Nat.le_refl _, ⟨Nat.zero_le _, HI.out⟩, Below.refl _ _⟩
  case round =>
    obtain ⟨lo, hi, rfl, rfl, hlh, hhn, HLH, HB⟩ := hrel
    by_cases hlt : lo < hi
    · obtain ⟨m, hm⟩ : ∃ m, m = (lo + hi) / 2 := ⟨_, rfl⟩
      have hmid : m < l.length := by omega
      have HM : Hid (lo ≤ m ∧ m < hi ∧ m = (lo + hi) / 2) := ⟨by omega, by omega, hm⟩
      have hmz : ((lo : Int) + (hi : Int)) / 2 = (m : Int) := by omega
      have hmz0 : (0 : Int) ≤ (m : Int) := by omega
      have hmz1 : (m : Int) < (l.length : Int) := by omega
      have hmz2 : (m : Int) ≤ (l.length : Int) := by omega
      clear hm
      obtain ⟨b, off, e, bl, c0, c1⟩ := ids_get (HS.out.on HB.out) hmid
      subst e
      have hT := HT.out.on HB.out
      have t0 := id_c0 hT
      have t1 := id_c1 hT
      have hltz : (lo : Int) < (hi : Int) := by omega
      have C := Lib.hid (fun W => order_any l[m] t W)
      have hz : (m < i ∧ ordI l[m] t < 0) ∨ (¬ m < i ∧ ¬ ordI l[m] t < 0) := by
        by_cases h : m < i
        · exact .inl ⟨h, H1.out _ hmid h⟩
        · exact .inr ⟨h, by have h9 := H2.out _ hmid (by omega); omega⟩
      generalize ordI l[m] t = z at *
      generalize l[m] = x at *
      unfold Im.val at C
      clear hT
      rcases hz with ⟨hmi, hz⟩ | ⟨hmi, hz⟩
      · have HN : Hid (m + 1 ≤ i ∧ i ≤ hi) := ⟨by omega, HLH.out.2⟩
        clear hmi
        go_wp2_with fail
        go_region_held3 (fun w' => w'.cell? ⟨b, off + m * 2, none⟩ = some (.string x.p) ∧ w'.cell? ⟨b, off + m * 2 + 1, none⟩ = some (.int .i64 x.n) ∧ w'.cell? ⟨gt, 0, none⟩ = some (.string t.p) ∧ w'.cell? ⟨gt, 1, none⟩ = some (.int .i64 t.n)) (first | exact ⟨c0, c1, t0, t1⟩ | exact ⟨cell_on2 c0 hb7, cell_on2 c1 hb7, cell_on2 t0 hb7, cell_on2 t1 hb7⟩ | (go_keep; done)) (first | (go_at_call 24; refine (C.out _).mono ?_; rintro e w7 ⟨rfl, hd7⟩; have hb7 := hd7.b; clear hd7))
        have hb8 := HB.out.trans ((below_dr hb7).mono HB.out.size)
        have HB8 := Lib.hid hb8
        clear hb7 hb8 c0 c1 t0 t1 C
        go_wp2
        go_roundw
        case rel => exact ⟨m + 1, hi, by go_num, by go_num, by have := HM.out; omega, by have := HM.out; omega, HN.out, HB8.out⟩
        case measure => have := HM.out; simp [intOf]; omega
      · have HN : Hid (lo ≤ i ∧ i ≤ m) := ⟨HLH.out.1, by omega⟩
        clear hmi
        go_wp2_with fail
        go_region_held3 (fun w' => w'.cell? ⟨b, off + m * 2, none⟩ = some (.string x.p) ∧ w'.cell? ⟨b, off + m * 2 + 1, none⟩ = some (.int .i64 x.n) ∧ w'.cell? ⟨gt, 0, none⟩ = some (.string t.p) ∧ w'.cell? ⟨gt, 1, none⟩ = some (.int .i64 t.n)) (first | exact ⟨c0, c1, t0, t1⟩ | exact ⟨cell_on2 c0 hb7, cell_on2 c1 hb7, cell_on2 t0 hb7, cell_on2 t1 hb7⟩ | (go_keep; done)) (first | (go_at_call 24; refine (C.out _).mono ?_; rintro e w7 ⟨rfl, hd7⟩; have hb7 := hd7.b; clear hd7))
        have hb8 := HB.out.trans ((below_dr hb7).mono HB.out.size)
        have HB8 := Lib.hid hb8
        clear hb7 hb8 c0 c1 t0 t1 C
        go_wp2
        go_roundw
        case rel => exact ⟨lo, m, by go_num, by go_num, by have := HM.out; omega, by have := HM.out; omega, HN.out, HB8.out⟩
        case measure => have := HM.out; simp [intOf]; omega
    · have hil : lo = i := by have := HLH.out; omega
      have hih : hi = i := by have := HLH.out; omega
      subst hil
      subst hih
      have hltz : ¬ (hi : Int) < (hi : Int) := by omega
      by_cases hin : hi < l.length
      · obtain ⟨b, off, e, bl, c0, c1⟩ := ids_get (HS.out.on HB.out) hin
        subst e
        have hT := HT.out.on HB.out
        have t0 := id_c0 hT
        have t1 := id_c1 hT
        have C := Lib.hid (fun W => order_any l[hi] t W)
        have hz0 : (0 : Int) ≤ (hi : Int) := by omega
        have hz1 : (hi : Int) < (l.length : Int) := by omega
        generalize ordI l[hi] t = z at *
        generalize l[hi] = x at *
        unfold Im.val at C
        clear hT
        go_wp2_with fail
        go_region_held3 (fun w' => w'.cell? ⟨b, off + hi * 2, none⟩ = some (.string x.p) ∧ w'.cell? ⟨b, off + hi * 2 + 1, none⟩ = some (.int .i64 x.n) ∧ w'.cell? ⟨gt, 0, none⟩ = some (.string t.p) ∧ w'.cell? ⟨gt, 1, none⟩ = some (.int .i64 t.n)) (first | exact ⟨c0, c1, t0, t1⟩ | exact ⟨cell_on2 c0 hb7, cell_on2 c1 hb7, cell_on2 t0 hb7, cell_on2 t1 hb7⟩ | (go_keep; done)) (first | (go_at_call 24; refine (C.out _).mono ?_; rintro e w7 ⟨rfl, hd7⟩; have hb7 := hd7.b; clear hd7))
        have hb8 := HB.out.trans ((below_dr hb7).mono HB.out.size)
        have HB8 := Lib.hid (HA.out.trans (hb8.mono HA.out.size))
        clear hb7 hb8 c0 c1 t0 t1 C
        go_wp2
        go_ret2
        exact ⟨_, rfl, HB8.out⟩
      · have hz1 : decide ((hi : Int) < (l.length : Int)) = false := decide_eq_false (by omega)
        have HB8 := Lib.hid (HA.out.trans (HB.out.mono HA.out.size))
        have hz2 : ¬ (hi : Int) < (l.length : Int) := by omega
        clear hhn
        go_wp2_with fail
        go_quiet (fail)
        go_wp2
        go_ret2
        exact ⟨_, rfl, below_drewN HB8.out _⟩
end Go.Proofs.YthenlajknoddcaaGreatDoor
