/- The statements of layer 7: awake. -/
import Derived.Test.YtaepfahpbnpeiaaGreatDoorCk33
import Derived.Test.YtaepfahpbnpeiaaGreatDoorCk34
import Derived.Test.YtaepfahpbnpeiaaGreatDoorCk14
namespace Go.Proofs.YtaepfahpbnpeiaaGreatDoor
open Go.RowKit
set_option linter.unusedVariables false

def kps : List Pk := [⟨1, [97], [], 0, [], []⟩, ⟨3, [97, 47, 98], [], 0, [], []⟩, ⟨6, [97, 47, 98], [], 0, [], [[120]]⟩, ⟨5, [97, 47, 98], [99], 0, [], []⟩]
def kfs : List PF := [([97], true, []), ([99], false, [[120]])]
theorem kps_do : apAll [] kps = (0, kfs) := by decide +kernel
theorem kps_back : apAll kfs (backP kps) = (0, []) := by decide +kernel
def awP (X : Nat) : List Pm := [⟨1, ⟨#[97]⟩, ⟨#[]⟩, 0, none, 0, [], none, 0, []⟩, ⟨3, ⟨#[97, 47, 98]⟩, ⟨#[]⟩, 0, none, 0, [], none, 0, []⟩, ⟨6, ⟨#[97, 47, 98]⟩, ⟨#[]⟩, 0, none, 0, [], some ⟨X, 0, none⟩, 1, [[120]]⟩, ⟨5, ⟨#[97, 47, 98]⟩, ⟨#[99]⟩, 0, none, 0, [], none, 0, []⟩]
theorem awP_keys (X : Nat) : pkeys (awP X) = kps := rfl
theorem awP_light (X : Nat) : ∀ x ∈ awP X, x.Light := by
  intro x hx
  simp only [awP, List.mem_cons, List.not_mem_nil, or_false] at hx
  rcases hx with rfl | rfl | rfl | rfl
  all_goals exact ⟨(by first | decide | (show ByteArray.size ⟨#[97, 47, 98]⟩ ≤ 300; decide)), (by first | decide | (show ByteArray.size ⟨#[]⟩ ≤ 300; decide)), ⟨by simp, by simp⟩, ⟨by simp, by simp⟩⟩
/-- Steps in a block of their own. -/
theorem ps_new {w : World} {ps : List Pm} (hok : ∀ x ∈ ps, x.Ok w w.heap.size) : Ps (w.alloc (.cells (pcells ps).toArray 38)) (w.heap.size + 1) (some ⟨w.heap.size, 0, none⟩) ps := by
  have hb : Below w.heap.size w (w.alloc (.cells (pcells ps).toArray 38)) := (Below.refl _ _).alloc (Nat.le_refl _) _
  have hn := heap_alloc_new w (.cells (pcells ps).toArray 38)
  have hc : ∀ i v, (pcells ps)[i]? = some v → (w.alloc (.cells (pcells ps).toArray 38)).cell? ⟨w.heap.size, i, none⟩ = some v := fun i v h => by
    simp only [World.cell?, hn]
    simpa using h
  refine ⟨fun hp => ⟨w.heap.size, 0, rfl, Nat.lt_succ_self _, fun j hj => ?_⟩, fun x hx => ((hok x hx).below hb).more (Nat.le_succ _)⟩
  obtain ⟨c0, c1, c2, c3, c4, c5⟩ := pcells_get ps j hj
  simp only [Nat.zero_add]
  exact ⟨hc _ _ c0, hc _ _ c1, hc _ _ c2, hc _ _ c3, hc _ _ c4, hc _ _ c5⟩
theorem awP_ok {w : World} {X : Nat} (h : Strs w w.heap.size (some ⟨X, 0, none⟩) (toBs [[120]])) : ∀ x ∈ awP X, x.Ok w w.heap.size := by
  intro x hx
  simp only [awP, List.mem_cons, List.not_mem_nil, or_false] at hx
  rcases hx with rfl | rfl | rfl | rfl
  all_goals
    refine ⟨⟨Strs.none_, ?_, ⟨fun h => (by first | rfl | cases h), Nat.le_refl _⟩, ⟨fun h => (by first | rfl | cases h), Nat.le_refl _⟩, (by first | decide | (show (-9223372036854775808 : Int) ≤ 0; decide) | (show (0 : Int) ≤ 9223372036854775807; decide) | (show (0 : Nat) ≤ 9223372036854775807; decide) | (show (1 : Nat) ≤ 9223372036854775807; decide) | (show ByteArray.size ⟨#[97, 47, 98]⟩ ≤ 9223372036854775807; decide) | (show ByteArray.size ⟨#[]⟩ ≤ 9223372036854775807; decide) | (show (-9223372036854775808 : Int) ≤ 6; decide) | (show (6 : Int) ≤ 9223372036854775807; decide)), (by first | decide | (show (-9223372036854775808 : Int) ≤ 0; decide) | (show (0 : Int) ≤ 9223372036854775807; decide) | (show (0 : Nat) ≤ 9223372036854775807; decide) | (show (1 : Nat) ≤ 9223372036854775807; decide) | (show ByteArray.size ⟨#[97, 47, 98]⟩ ≤ 9223372036854775807; decide) | (show ByteArray.size ⟨#[]⟩ ≤ 9223372036854775807; decide) | (show (-9223372036854775808 : Int) ≤ 6; decide) | (show (6 : Int) ≤ 9223372036854775807; decide)), (by first | decide | (show (-9223372036854775808 : Int) ≤ 0; decide) | (show (0 : Int) ≤ 9223372036854775807; decide) | (show (0 : Nat) ≤ 9223372036854775807; decide) | (show (1 : Nat) ≤ 9223372036854775807; decide) | (show ByteArray.size ⟨#[97, 47, 98]⟩ ≤ 9223372036854775807; decide) | (show ByteArray.size ⟨#[]⟩ ≤ 9223372036854775807; decide) | (show (-9223372036854775808 : Int) ≤ 6; decide) | (show (6 : Int) ≤ 9223372036854775807; decide)), (by first | decide | (show (-9223372036854775808 : Int) ≤ 0; decide) | (show (0 : Int) ≤ 9223372036854775807; decide) | (show (0 : Nat) ≤ 9223372036854775807; decide) | (show (1 : Nat) ≤ 9223372036854775807; decide) | (show ByteArray.size ⟨#[97, 47, 98]⟩ ≤ 9223372036854775807; decide) | (show ByteArray.size ⟨#[]⟩ ≤ 9223372036854775807; decide) | (show (-9223372036854775808 : Int) ≤ 6; decide) | (show (6 : Int) ≤ 9223372036854775807; decide))⟩, (by first | decide | (show (-9223372036854775808 : Int) ≤ 0; decide) | (show (0 : Int) ≤ 9223372036854775807; decide) | (show (0 : Nat) ≤ 9223372036854775807; decide) | (show (1 : Nat) ≤ 9223372036854775807; decide) | (show ByteArray.size ⟨#[97, 47, 98]⟩ ≤ 9223372036854775807; decide) | (show ByteArray.size ⟨#[]⟩ ≤ 9223372036854775807; decide) | (show (-9223372036854775808 : Int) ≤ 6; decide) | (show (6 : Int) ≤ 9223372036854775807; decide)), (by first | decide | (show (-9223372036854775808 : Int) ≤ 0; decide) | (show (0 : Int) ≤ 9223372036854775807; decide) | (show (0 : Nat) ≤ 9223372036854775807; decide) | (show (1 : Nat) ≤ 9223372036854775807; decide) | (show ByteArray.size ⟨#[97, 47, 98]⟩ ≤ 9223372036854775807; decide) | (show ByteArray.size ⟨#[]⟩ ≤ 9223372036854775807; decide) | (show (-9223372036854775808 : Int) ≤ 6; decide) | (show (6 : Int) ≤ 9223372036854775807; decide)), (by first | decide | (show (-9223372036854775808 : Int) ≤ 0; decide) | (show (0 : Int) ≤ 9223372036854775807; decide) | (show (0 : Nat) ≤ 9223372036854775807; decide) | (show (1 : Nat) ≤ 9223372036854775807; decide) | (show ByteArray.size ⟨#[97, 47, 98]⟩ ≤ 9223372036854775807; decide) | (show ByteArray.size ⟨#[]⟩ ≤ 9223372036854775807; decide) | (show (-9223372036854775808 : Int) ≤ 6; decide) | (show (6 : Int) ≤ 9223372036854775807; decide)), (by first | decide | (show (-9223372036854775808 : Int) ≤ 0; decide) | (show (0 : Int) ≤ 9223372036854775807; decide) | (show (0 : Nat) ≤ 9223372036854775807; decide) | (show (1 : Nat) ≤ 9223372036854775807; decide) | (show ByteArray.size ⟨#[97, 47, 98]⟩ ≤ 9223372036854775807; decide) | (show ByteArray.size ⟨#[]⟩ ≤ 9223372036854775807; decide) | (show (-9223372036854775808 : Int) ≤ 6; decide) | (show (6 : Int) ≤ 9223372036854775807; decide))⟩
    first
      | exact h
      | exact Strs.none_
def kp2 : Pk := ⟨6, [97, 47, 98], [], 0, [], [[120]]⟩
theorem kp2_ck : ckP kp2 = 0 := by decide +kernel
theorem kp2_ck2 : ckP (invP kp2) = 0 := by decide +kernel
theorem kp0_ck : ckP ⟨1, [97], [], 0, [], []⟩ = 0 := by decide +kernel
theorem fkeys_nil {l : List Fm} (h : fkeys l = []) : l = [] := List.length_eq_zero_iff.1 (by rw [← fkeys_len, h]; rfl)
theorem awP_mem2 (X : Nat) : (⟨6, ⟨#[97, 47, 98]⟩, ⟨#[]⟩, 0, none, 0, [], some ⟨X, 0, none⟩, 1, [[120]]⟩ : Pm) ∈ awP X := by simp [awP]
theorem awP_mem0 (X : Nat) : (⟨1, ⟨#[97]⟩, ⟨#[]⟩, 0, none, 0, [], none, 0, []⟩ : Pm) ∈ awP X := by simp [awP]
theorem aw_cells {w : World} {R B X : Nat} (h : Ps w B (some ⟨R, 0, none⟩) (awP X)) : w.cell? ⟨R, 12, none⟩ = some (.int .i64 6) ∧ w.cell? ⟨R, 13, none⟩ = some (.string ⟨#[97, 47, 98]⟩) ∧ w.cell? ⟨R, 14, none⟩ = some (.string ⟨#[]⟩) ∧ w.cell? ⟨R, 15, none⟩ = some (.int .i64 0) ∧ w.cell? ⟨R, 16, none⟩ = some (.slice none 0 0) ∧ w.cell? ⟨R, 17, none⟩ = some (.slice (some ⟨X, 0, none⟩) 1 1) ∧ w.cell? ⟨R, 0, none⟩ = some (.int .i64 1) ∧ w.cell? ⟨R, 1, none⟩ = some (.string ⟨#[97]⟩) ∧ w.cell? ⟨R, 2, none⟩ = some (.string ⟨#[]⟩) ∧ w.cell? ⟨R, 3, none⟩ = some (.int .i64 0) ∧ w.cell? ⟨R, 4, none⟩ = some (.slice none 0 0) ∧ w.cell? ⟨R, 5, none⟩ = some (.slice none 0 0) := by
  obtain ⟨b, off, e, _, h0, h1, h2, h3, h4, h5⟩ := h.get (j := 0) (by simp [awP])
  obtain ⟨b', off', e', _, g0, g1, g2, g3, g4, g5⟩ := h.get (j := 2) (by simp [awP])
  simp only [Option.some.injEq, Addr.mk.injEq, and_true] at e e'
  obtain ⟨rfl, rfl⟩ := e
  obtain ⟨rfl, rfl⟩ := e'
  exact ⟨g0, g1, g2, g3, g4, g5, h0, h1, h2, h3, h4, h5⟩
theorem keep14 {w w2 : World} {b0 b1 b2 b3 b4 b5 b6 b7 b8 b9 b10 b11 b12 b13 o0 o1 o2 o3 o4 o5 o6 o7 o8 o9 o10 o11 o12 o13 : Nat} {v0 v1 v2 v3 v4 v5 v6 v7 v8 v9 v10 v11 v12 v13 : Value} (h : w.cell? ⟨b0, o0, none⟩ = some v0 ∧ w.cell? ⟨b1, o1, none⟩ = some v1 ∧ w.cell? ⟨b2, o2, none⟩ = some v2 ∧ w.cell? ⟨b3, o3, none⟩ = some v3 ∧ w.cell? ⟨b4, o4, none⟩ = some v4 ∧ w.cell? ⟨b5, o5, none⟩ = some v5 ∧ w.cell? ⟨b6, o6, none⟩ = some v6 ∧ w.cell? ⟨b7, o7, none⟩ = some v7 ∧ w.cell? ⟨b8, o8, none⟩ = some v8 ∧ w.cell? ⟨b9, o9, none⟩ = some v9 ∧ w.cell? ⟨b10, o10, none⟩ = some v10 ∧ w.cell? ⟨b11, o11, none⟩ = some v11 ∧ w.cell? ⟨b12, o12, none⟩ = some v12 ∧ w.cell? ⟨b13, o13, none⟩ = some v13) (hb : Below w.heap.size w w2) : w2.cell? ⟨b0, o0, none⟩ = some v0 ∧ w2.cell? ⟨b1, o1, none⟩ = some v1 ∧ w2.cell? ⟨b2, o2, none⟩ = some v2 ∧ w2.cell? ⟨b3, o3, none⟩ = some v3 ∧ w2.cell? ⟨b4, o4, none⟩ = some v4 ∧ w2.cell? ⟨b5, o5, none⟩ = some v5 ∧ w2.cell? ⟨b6, o6, none⟩ = some v6 ∧ w2.cell? ⟨b7, o7, none⟩ = some v7 ∧ w2.cell? ⟨b8, o8, none⟩ = some v8 ∧ w2.cell? ⟨b9, o9, none⟩ = some v9 ∧ w2.cell? ⟨b10, o10, none⟩ = some v10 ∧ w2.cell? ⟨b11, o11, none⟩ = some v11 ∧ w2.cell? ⟨b12, o12, none⟩ = some v12 ∧ w2.cell? ⟨b13, o13, none⟩ = some v13 := by
  obtain ⟨h0, h1, h2, h3, h4, h5, h6, h7, h8, h9, h10, h11, h12, h13⟩ := h
  exact ⟨cell_on h0 hb, cell_on h1 hb, cell_on h2 hb, cell_on h3 hb, cell_on h4 hb, cell_on h5 hb, cell_on h6 hb, cell_on h7 hb, cell_on h8 hb, cell_on h9 hb, cell_on h10 hb, cell_on h11 hb, cell_on h12 hb, cell_on h13 hb⟩
theorem kfs_well : Well kfs := apAll_well (l := kps) (ks := []) Well.nil kps_do
set_option maxHeartbeats 8000000 in
set_option maxRecDepth 100000 in
theorem pawake_any (w : World) (hT : Tabs w) : Calls Tryz.prog 7 #[] w fun e w' => e = .returned (.bool true) ∧ Below w.heap.size w w' := by
  have hal0 : Below w.heap.size w (w.alloc (.cells #[.string ⟨#[120]⟩] 9)) := (Below.refl _ _).alloc (Nat.le_refl _) _
  have hal1 : Below (w.alloc (.cells #[.string ⟨#[120]⟩] 9)).heap.size (w.alloc (.cells #[.string ⟨#[120]⟩] 9)) ((w.alloc (.cells #[.string ⟨#[120]⟩] 9)).alloc (.cells #[.int .i64 1, .string ⟨#[97]⟩, .string ⟨#[]⟩, .int .i64 0, .slice none 0 0, .slice none 0 0, .int .i64 3, .string ⟨#[97, 47, 98]⟩, .string ⟨#[]⟩, .int .i64 0, .slice none 0 0, .slice none 0 0, .int .i64 6, .string ⟨#[97, 47, 98]⟩, .string ⟨#[]⟩, .int .i64 0, .slice none 0 0, .slice (some ⟨w.heap.size, 0, none⟩) 1 1, .int .i64 5, .string ⟨#[97, 47, 98]⟩, .string ⟨#[99]⟩, .int .i64 0, .slice none 0 0, .slice none 0 0] 38)) := (Below.refl _ _).alloc (Nat.le_refl _) _
  have HB1 := Lib.hid (hal0.trans (hal1.mono hal0.size))
  have HPS : Hid (Ps ((w.alloc (.cells #[.string ⟨#[120]⟩] 9)).alloc (.cells #[.int .i64 1, .string ⟨#[97]⟩, .string ⟨#[]⟩, .int .i64 0, .slice none 0 0, .slice none 0 0, .int .i64 3, .string ⟨#[97, 47, 98]⟩, .string ⟨#[]⟩, .int .i64 0, .slice none 0 0, .slice none 0 0, .int .i64 6, .string ⟨#[97, 47, 98]⟩, .string ⟨#[]⟩, .int .i64 0, .slice none 0 0, .slice (some ⟨w.heap.size, 0, none⟩) 1 1, .int .i64 5, .string ⟨#[97, 47, 98]⟩, .string ⟨#[99]⟩, .int .i64 0, .slice none 0 0, .slice none 0 0] 38)) ((w.alloc (.cells #[.string ⟨#[120]⟩] 9)).alloc (.cells #[.int .i64 1, .string ⟨#[97]⟩, .string ⟨#[]⟩, .int .i64 0, .slice none 0 0, .slice none 0 0, .int .i64 3, .string ⟨#[97, 47, 98]⟩, .string ⟨#[]⟩, .int .i64 0, .slice none 0 0, .slice none 0 0, .int .i64 6, .string ⟨#[97, 47, 98]⟩, .string ⟨#[]⟩, .int .i64 0, .slice none 0 0, .slice (some ⟨w.heap.size, 0, none⟩) 1 1, .int .i64 5, .string ⟨#[97, 47, 98]⟩, .string ⟨#[99]⟩, .int .i64 0, .slice none 0 0, .slice none 0 0] 38)).heap.size (some ⟨w.heap.size + 1, 0, none⟩) (awP w.heap.size)) := by
    have h := ps_new (awP_ok (strs_one w ⟨#[120]⟩))
    rw [World.size_alloc] at h
    rw [World.size_alloc, World.size_alloc]
    exact h
  have HTB := Lib.hid (Tabs.on hT HB1.out)
  have CL := Lib.hid (pall_any tree_c none 0 0 [] (some ⟨w.heap.size + 1, 0, none⟩) (awP w.heap.size) 4 0 kfs ((w.alloc (.cells #[.string ⟨#[120]⟩] 9)).alloc (.cells #[.int .i64 1, .string ⟨#[97]⟩, .string ⟨#[]⟩, .int .i64 0, .slice none 0 0, .slice none 0 0, .int .i64 3, .string ⟨#[97, 47, 98]⟩, .string ⟨#[]⟩, .int .i64 0, .slice none 0 0, .slice none 0 0, .int .i64 6, .string ⟨#[97, 47, 98]⟩, .string ⟨#[]⟩, .int .i64 0, .slice none 0 0, .slice (some ⟨w.heap.size, 0, none⟩) 1 1, .int .i64 5, .string ⟨#[97, 47, 98]⟩, .string ⟨#[99]⟩, .int .i64 0, .slice none 0 0, .slice none 0 0] 38)) (tree_c.zero _) (by simp [awP]) Well.nil HPS.out (awP_light _) HTB.out kps_do)
  clear hal0 hal1 hT
  go_enter Tryz.func7, Tryz.ntmps7
  go_wp2_with fail
  generalize ((w.alloc (.cells #[.string ⟨#[120]⟩] 9)).alloc (.cells #[.int .i64 1, .string ⟨#[97]⟩, .string ⟨#[]⟩, .int .i64 0, .slice none 0 0, .slice none 0 0, .int .i64 3, .string ⟨#[97, 47, 98]⟩, .string ⟨#[]⟩, .int .i64 0, .slice none 0 0, .slice none 0 0, .int .i64 6, .string ⟨#[97, 47, 98]⟩, .string ⟨#[]⟩, .int .i64 0, .slice none 0 0, .slice (some ⟨w.heap.size, 0, none⟩) 1 1, .int .i64 5, .string ⟨#[97, 47, 98]⟩, .string ⟨#[99]⟩, .int .i64 0, .slice none 0 0, .slice none 0 0] 38)) = wa at *
  refine CL.out.mono ?_
  rintro e w2 ⟨B2, n2, c2, rfl, ht, hb⟩
  have hal : Below w2.heap.size w2 (w2.alloc (.cells #[.slice B2 n2 c2] 28)) := (Below.refl _ _).alloc (Nat.le_refl _) _
  have hb3 := hb.trans (hal.mono hb.size)
  have HT3 := Lib.hid (tree_c.on (ht.out.1 rfl) hal)
  have HA3 := Lib.hid (TAt.new_ w2 B2 n2 c2)
  have HP3 := Lib.hid (HPS.out.on hb3)
  have HB3 := Lib.hid (HB1.out.trans (hb3.mono HB1.out.size))
  have HTB3 := Lib.hid (Tabs.on HTB.out hb3)
  clear ht hb hal hb3 CL HPS HTB HB1
  have t0 := HA3.out.c0
  go_wp2_with fail
  generalize hG2 : w2.heap.size = G2 at *
  generalize hw3 : (w2.alloc (.cells #[.slice B2 n2 c2] 28)) = w3 at *
  clear hw3 hG2
  refine (tree_c.get B2 n2 c2 kfs ⟨#[99]⟩ w3 HT3.out (by decide) (by decide)).mono ?_
  rw [show (kfs.find? fun k => decide (k.1 = (⟨#[99]⟩ : ByteArray).data.toList)) = some ([99], false, [[120]]) from by decide]
  rintro e w4 ⟨f, rfl, hf, hb⟩
  have hlen : f.ls.length = 1 := by
    have : f.ls = [[120]] := congrArg (fun k : PF => k.2.2) (hf.out.2 _ rfl)
    rw [this]
    rfl
  have hal : Below w4.heap.size w4 (w4.alloc (.cells #[.string f.p, .bool f.d, .slice f.a f.ls.length f.c] 49)) := (Below.refl _ _).alloc (Nat.le_refl _) _
  have hb5 := hb.trans (hal.mono hb.size)
  have HT5 := Lib.hid (tree_c.on HT3.out hb5)
  have HA5 := Lib.hid (HA3.out.on hb5)
  have HP5 := Lib.hid (HP3.out.on hb5)
  have HB5 := Lib.hid (HB3.out.trans (hb5.mono HB3.out.size))
  have HTB5 := Lib.hid (Tabs.on HTB3.out hb5)
  have HX5 : Hid (FileAt (w4.alloc (.cells #[.string f.p, .bool f.d, .slice f.a f.ls.length f.c] 49)) w4.heap.size f) := FileAt.new_ w4 f
  have HLN := Lib.hid hlen
  clear hf hb hal hb5 hlen HT3 HA3 HP3 HB3 HTB3 t0
  have u0 := HA5.out.c0
  go_wp2_with fail
  generalize hG4 : w4.heap.size = G4 at *
  generalize hw5 : (w4.alloc (.cells #[.string f.p, .bool f.d, .slice f.a f.ls.length f.c] 49)) = w5 at *
  clear hw5 hG4
  have hck : ∀ x ∈ awP w.heap.size, ckP x.key = 0 := fun x hx => apAll_ck kps_do x.key (List.mem_map.2 ⟨x, hx, rfl⟩)
  have CB := Lib.hid (fun W (hb : Below w5.heap.size w5 W) => pback_any (some ⟨w.heap.size + 1, 0, none⟩) (awP w.heap.size) 4 W (HP5.out.on hb) (by simp [awP]) hck (awP_light _))
  have CA := Lib.hid (fun (A7 : Option Addr) (q7 : List Pm) (c7 : Nat) W (hb : Below w5.heap.size w5 W) (hq : Ps W W.heap.size A7 q7 ∧ Room A7 q7.length c7 ∧ pkeys q7 = backP (pkeys (awP w.heap.size)) ∧ ∀ x ∈ q7, x.Light) => pall_any tree_c B2 n2 c2 kfs A7 q7 c7 0 [] W (tree_c.on HT5.out hb) (by
    have := congrArg List.length hq.2.2.1
    rw [pkeys_len] at this
    rw [this]
    simp [backP, pkeys, awP, kfs]) kfs_well hq.1 hq.2.2.2 (Tabs.on HTB5.out hb) (by rw [hq.2.2.1]; exact kps_back))
  have hdr : Below w5.heap.size w5 w5.drew := (Below.refl _ _).drew
  have HDR := Lib.hid hdr
  have HDA : Hid (Below w5.heap.size w5 (w5.drew.alloc (.cells #[.slice none 0 0] 28))) := hdr.alloc (Nat.le_refl _) _
  have hglt : G2 < w5.heap.size := HA5.out.lt
  clear hck hdr
  have q2 := hglt
  go_region_held3 (fun w' => w'.cell? ⟨G2, 0, none⟩ = some (.slice B2 n2 c2)) (first | with_reducible exact u0 | with_reducible exact cell_on u0 HDA.out | with_reducible exact cell_on u0 hB7 | with_reducible exact cell_on u0 hB7a | with_reducible exact cell_on u0 hB8 | with_reducible exact cell_on u0 hB8a | with_reducible exact cell_on (cell_on u0 hB8) ((Below.refl _ _).alloc (Nat.le_refl _) _) | exact keep_cell (cell_on u0 hB8) (by omega) | exact keep_cell (cell_on u0 hB8a) (by omega) | (go_keep; done)) (first
    | (go_at_call 12; refine (CB.out _ HDR.out).mono ?_; rintro e w7 ⟨A7, q7, c7, rfl, hq7, hb7⟩; have hB7 : Below w5.heap.size w5 w7 := HDR.out.trans (hb7.mono HDR.out.size); have hs7 := hB7.size; have hB7a : Below w5.heap.size w5 (w7.alloc (.cells #[.slice none 0 0] 28)) := hB7.alloc hB7.size _; have hq7a : Ps (w7.alloc (.cells #[.slice none 0 0] 28)) (w7.alloc (.cells #[.slice none 0 0] 28)).heap.size A7 q7 ∧ Room A7 q7.length c7 ∧ pkeys q7 = backP (pkeys (awP w.heap.size)) ∧ ∀ x ∈ q7, x.Light := ⟨hq7.out.1.on ((Below.refl _ _).alloc (Nat.le_refl _) _), hq7.out.2⟩)
    | (go_at_call 12; refine (CB.out _ HDA.out).mono ?_; rintro e w7 ⟨A7, q7, c7, rfl, hq7, hb7⟩; have hB7 : Below w5.heap.size w5 w7 := HDA.out.trans (hb7.mono HDA.out.size); have hs7 := hB7.size; have hB7a : Below w5.heap.size w5 (w7.alloc (.cells #[.slice none 0 0] 28)) := hB7.alloc hB7.size _; have hq7a : Ps (w7.alloc (.cells #[.slice none 0 0] 28)) (w7.alloc (.cells #[.slice none 0 0] 28)).heap.size A7 q7 ∧ Room A7 q7.length c7 ∧ pkeys q7 = backP (pkeys (awP w.heap.size)) ∧ ∀ x ∈ q7, x.Light := ⟨hq7.out.1.on ((Below.refl _ _).alloc (Nat.le_refl _) _), hq7.out.2⟩)
    | (go_at_call 9; refine (CA.out A7 q7 c7 _ (by first | with_reducible exact hB7 | with_reducible exact hB7a) (by first | with_reducible exact hq7.out | with_reducible exact hq7a)).mono ?_; rintro e w8 ⟨B8, n8, c8, rfl, ht8, hb8⟩; have hB8 : Below w5.heap.size w5 w8 := (by first | exact hB7.trans (hb8.mono hB7.size) | exact hB7a.trans (hb8.mono hB7a.size)); have hB8a : Below w5.heap.size w5 (w8.alloc (.cells #[.slice none 0 0] 28)) := hB8.alloc hB8.size _; first | (have hx8 : TAt w8 w5.heap.size none 0 0 := ((TAt.new_ w5.drew none 0 0).on hb7).on hb8; have x0 := hx8.c0; have x1 := hx8.fz 0) | (have hx8 : TAt w8 w7.heap.size none 0 0 := (TAt.new_ w7 none 0 0).on hb8; have x0 := hx8.c0; have x1 := hx8.fz 0) | skip))
  all_goals
    first
    | (have HQ : Hid (TAt (w8.setCell ⟨w5.heap.size, 0, none⟩ (.slice B8 n8 c8)) w5.heap.size B8 n8 c8 ∧ TrC (w8.setCell ⟨w5.heap.size, 0, none⟩ (.slice B8 n8 c8)) B8 n8 c8 [] ∧ Below w5.heap.size w5 (w8.setCell ⟨w5.heap.size, 0, none⟩ (.slice B8 n8 c8))) := ⟨hx8.set B8 n8 c8, tree_c.set (ht8.out.1 (by simp)) hx8 (grown_cell _ _ _ _), below_set hB8 (by have := hB8.size; omega) hB8.size⟩
       clear x0 x1 hx8 ht8 hb8 hB8 hB8a hq7 hq7a hb7 hs7 hB7 hB7a CB CA HDR HDA
       have HP9 := Lib.hid (HP5.out.on HQ.out.2.2)
       have HTB9 := Lib.hid (Tabs.on HTB5.out HQ.out.2.2)
       have HB9 := Lib.hid (HB5.out.trans (HQ.out.2.2.mono HB5.out.size))
       have HX9 := Lib.hid (HX5.out.on HQ.out.2.2)
       have HQ1 := Lib.hid HQ.out.1
       have HQ2 := Lib.hid HQ.out.2.1
       clear HQ HP5 HTB5 HB5 HX5 HT5 HA5 u0 q2 hglt
       generalize (w8.setCell ⟨w5.heap.size, 0, none⟩ (.slice B8 n8 c8)) = w9 at *
       generalize w5.heap.size = G6 at *)
    | (have HQ : Hid (TAt (w8.setCell ⟨w7.heap.size, 0, none⟩ (.slice B8 n8 c8)) w7.heap.size B8 n8 c8 ∧ TrC (w8.setCell ⟨w7.heap.size, 0, none⟩ (.slice B8 n8 c8)) B8 n8 c8 [] ∧ Below w5.heap.size w5 (w8.setCell ⟨w7.heap.size, 0, none⟩ (.slice B8 n8 c8))) := ⟨hx8.set B8 n8 c8, tree_c.set (ht8.out.1 (by simp)) hx8 (grown_cell _ _ _ _), below_set hB8 (by have := hB8.size; omega) hB8.size⟩
       clear x0 x1 hx8 ht8 hb8 hB8 hB8a hq7 hq7a hb7 hs7 hB7 hB7a CB CA HDR HDA
       have HP9 := Lib.hid (HP5.out.on HQ.out.2.2)
       have HTB9 := Lib.hid (Tabs.on HTB5.out HQ.out.2.2)
       have HB9 := Lib.hid (HB5.out.trans (HQ.out.2.2.mono HB5.out.size))
       have HX9 := Lib.hid (HX5.out.on HQ.out.2.2)
       have HQ1 := Lib.hid HQ.out.1
       have HQ2 := Lib.hid HQ.out.2.1
       clear HQ HP5 HTB5 HB5 HX5 HT5 HA5 u0 q2 hglt
       generalize (w8.setCell ⟨w7.heap.size, 0, none⟩ (.slice B8 n8 c8)) = w9 at *
       generalize w7.heap.size = G6 at *)
    | (have HQ : Hid (TAt (w8.alloc (.cells #[.slice B8 n8 c8] 28)) w8.heap.size B8 n8 c8 ∧ TrC (w8.alloc (.cells #[.slice B8 n8 c8] 28)) B8 n8 c8 [] ∧ Below w5.heap.size w5 (w8.alloc (.cells #[.slice B8 n8 c8] 28))) := ⟨TAt.new_ w8 B8 n8 c8, tree_c.on (ht8.out.1 (by simp)) ((Below.refl _ _).alloc (Nat.le_refl _) _), hB8.alloc hB8.size _⟩
       clear ht8 hb8 hB8 hB8a hq7 hq7a hb7 hs7 hB7 hB7a CB CA HDR HDA
       have HP9 := Lib.hid (HP5.out.on HQ.out.2.2)
       have HTB9 := Lib.hid (Tabs.on HTB5.out HQ.out.2.2)
       have HB9 := Lib.hid (HB5.out.trans (HQ.out.2.2.mono HB5.out.size))
       have HX9 := Lib.hid (HX5.out.on HQ.out.2.2)
       have HQ1 := Lib.hid HQ.out.1
       have HQ2 := Lib.hid HQ.out.2.1
       clear HQ HP5 HTB5 HB5 HX5 HT5 HA5 u0 q2 hglt
       generalize (w8.alloc (.cells #[.slice B8 n8 c8] 28)) = w9 at *
       generalize w8.heap.size = G6 at *)
    have hS : w9.cell? ⟨G6, 0, none⟩ = some (.slice B8 n8 c8) ∧ w9.cell? ⟨G4, 2, none⟩ = some (.slice f.a 1 f.c) ∧ w9.cell? ⟨w.heap.size + 1, 12, none⟩ = some (.int .i64 6) ∧ w9.cell? ⟨w.heap.size + 1, 13, none⟩ = some (.string ⟨#[97, 47, 98]⟩) ∧ w9.cell? ⟨w.heap.size + 1, 14, none⟩ = some (.string ⟨#[]⟩) ∧ w9.cell? ⟨w.heap.size + 1, 15, none⟩ = some (.int .i64 0) ∧ w9.cell? ⟨w.heap.size + 1, 16, none⟩ = some (.slice none 0 0) ∧ w9.cell? ⟨w.heap.size + 1, 17, none⟩ = some (.slice (some ⟨w.heap.size, 0, none⟩) 1 1) ∧ w9.cell? ⟨w.heap.size + 1, 0, none⟩ = some (.int .i64 1) ∧ w9.cell? ⟨w.heap.size + 1, 1, none⟩ = some (.string ⟨#[97]⟩) ∧ w9.cell? ⟨w.heap.size + 1, 2, none⟩ = some (.string ⟨#[]⟩) ∧ w9.cell? ⟨w.heap.size + 1, 3, none⟩ = some (.int .i64 0) ∧ w9.cell? ⟨w.heap.size + 1, 4, none⟩ = some (.slice none 0 0) ∧ w9.cell? ⟨w.heap.size + 1, 5, none⟩ = some (.slice none 0 0) := by
      have h2 := HX9.out.c2
      rw [HLN.out] at h2
      exact ⟨HQ1.out.c0, h2, aw_cells HP9.out⟩
    have CL2 := Lib.hid (fun W (hb : Below w9.heap.size w9 W) => tree_c.all B8 n8 c8 [] W (tree_c.on HQ2.out hb) (by simp))
    have CI1 : Hid (∀ W, Below w9.heap.size w9 W → Calls Tryz.prog 26 #[.agg #[.int .i64 6, .string ⟨#[97, 47, 98]⟩, .string ⟨#[]⟩, .int .i64 0, .slice none 0 0, .slice (some ⟨w.heap.size, 0, none⟩) 1 1]] W (PrimLeft W (invP kp2))) := fun W (hb : Below w9.heap.size w9 W) => pinvert_any ⟨6, ⟨#[97, 47, 98]⟩, ⟨#[]⟩, 0, none, 0, [], some ⟨w.heap.size, 0, none⟩, 1, [[120]]⟩ W ((HP9.out.ok _ (awP_mem2 _)).on hb) (by simp) (by simp) kp2_ck
    have CI2 : Hid (∀ (y : Pm) W, (y.Sep W ∧ y.key = invP kp2) → Calls Tryz.prog 26 #[.agg #[.int .i64 y.kind, .string y.p, .string y.dst, .int .i64 y.at_, .slice y.a1 y.old.length y.c1, .slice y.a2 y.new.length y.c2]] W (PrimLeft W (invP y.key))) := fun (y : Pm) W (hy : y.Sep W ∧ y.key = invP kp2) => pinvert_any y W hy.1.1 (by rw [show y.old = [[120]] from congrArg Pk.old hy.2]; simp) (by rw [show y.new = [] from congrArg Pk.new hy.2]; simp) (by rw [hy.2]; exact kp2_ck2)
    have CS : Hid (∀ (z : Pm) W, Below w9.heap.size w9 W → (z.Sep W ∧ z.key = invP (invP kp2)) → Calls Tryz.prog 25 #[.agg #[.int .i64 z.kind, .string z.p, .string z.dst, .int .i64 z.at_, .slice z.a1 z.old.length z.c1, .slice z.a2 z.new.length z.c2], .agg #[.int .i64 6, .string ⟨#[97, 47, 98]⟩, .string ⟨#[]⟩, .int .i64 0, .slice none 0 0, .slice (some ⟨w.heap.size, 0, none⟩) 1 1]] W fun e w' => e = .returned (.bool true) ∧ Below W.heap.size W w') := fun (z : Pm) W (hb : Below w9.heap.size w9 W) (hz : z.Sep W ∧ z.key = invP (invP kp2)) => psame_any z ⟨6, ⟨#[97, 47, 98]⟩, ⟨#[]⟩, 0, none, 0, [], some ⟨w.heap.size, 0, none⟩, 1, [[120]]⟩ W true (decide_eq_true (hz.2.trans (invP_inv kp2))) hz.1.1 ((HP9.out.ok _ (awP_mem2 _)).on hb) (by rw [show z.old = [] from congrArg Pk.old hz.2]; simp) (by rw [show z.new = [[120]] from congrArg Pk.new hz.2]; simp) (by simp) (by simp)
    have CC : Hid (∀ W, Below w9.heap.size w9 W → Calls Tryz.prog 27 #[.agg #[.int .i64 1, .string ⟨#[97]⟩, .string ⟨#[]⟩, .int .i64 0, .slice none 0 0, .slice none 0 0]] W fun e w' => e = .returned (.int .i64 0) ∧ Below W.heap.size W w') := fun W hb => by
      have h := pcheck_any ⟨1, ⟨#[97]⟩, ⟨#[]⟩, 0, none, 0, [], none, 0, []⟩ W ((HP9.out.ok _ (awP_mem0 _)).on hb) (by decide) (by decide) (by simp) (by simp) (by simp) (by simp) (Tabs.on HTB9.out hb)
      rw [show ckP (Pm.key ⟨1, ⟨#[97]⟩, ⟨#[]⟩, 0, none, 0, [], none, 0, []⟩) = 0 from kp0_ck] at h
      exact h
    have HDR : Hid (Below w9.heap.size w9 w9.drew) := (Below.refl _ _).drew
    clear HP9 HTB9 HX9 HQ1 HQ2 HLN
    go_wp2_with fail
    go_region_held3 (fun w' => w'.cell? ⟨G6, 0, none⟩ = some (.slice B8 n8 c8) ∧ w'.cell? ⟨G4, 2, none⟩ = some (.slice f.a 1 f.c) ∧ w'.cell? ⟨w.heap.size + 1, 12, none⟩ = some (.int .i64 6) ∧ w'.cell? ⟨w.heap.size + 1, 13, none⟩ = some (.string ⟨#[97, 47, 98]⟩) ∧ w'.cell? ⟨w.heap.size + 1, 14, none⟩ = some (.string ⟨#[]⟩) ∧ w'.cell? ⟨w.heap.size + 1, 15, none⟩ = some (.int .i64 0) ∧ w'.cell? ⟨w.heap.size + 1, 16, none⟩ = some (.slice none 0 0) ∧ w'.cell? ⟨w.heap.size + 1, 17, none⟩ = some (.slice (some ⟨w.heap.size, 0, none⟩) 1 1) ∧ w'.cell? ⟨w.heap.size + 1, 0, none⟩ = some (.int .i64 1) ∧ w'.cell? ⟨w.heap.size + 1, 1, none⟩ = some (.string ⟨#[97]⟩) ∧ w'.cell? ⟨w.heap.size + 1, 2, none⟩ = some (.string ⟨#[]⟩) ∧ w'.cell? ⟨w.heap.size + 1, 3, none⟩ = some (.int .i64 0) ∧ w'.cell? ⟨w.heap.size + 1, 4, none⟩ = some (.slice none 0 0) ∧ w'.cell? ⟨w.heap.size + 1, 5, none⟩ = some (.slice none 0 0)) (first | with_reducible exact hS | with_reducible exact keep14 hS hB11 | with_reducible exact keep14 hS hB12 | with_reducible exact keep14 hS hB13 | with_reducible exact keep14 hS hB14 | with_reducible exact keep14 hS hB15 | (go_keep; done)) (first
      | (go_at_call 10; refine (CL2.out _ HDR.out).mono ?_; rintro e w11 ⟨A11, f11, k11, rfl, hf11, hb11⟩; obtain rfl : f11 = [] := (fkeys_nil hf11.out.2.2); have hB11 : Below w9.heap.size w9 w11 := HDR.out.trans (hb11.mono HDR.out.size))
      | (go_at_call 26; (with_reducible refine (CI2.out y _ hy.out).mono ?_); rintro e w13 ⟨z, rfl, hz, hb13⟩; have hB13 : Below w9.heap.size w9 w13 := hB12.trans (hb13.mono hB12.size); have hzk : z.key = invP (invP kp2) := by rw [hz.out.2, hy.out.2])
      | (go_at_call 25; refine (CS.out z _ hB13 ⟨hz.out.1, hzk⟩).mono ?_; rintro e w14 ⟨rfl, hb14⟩; have hB14 : Below w9.heap.size w9 w14 := hB13.trans (hb14.mono hB13.size))
      | (go_at_call 27; refine (CC.out _ hB14).mono ?_; rintro e w15 ⟨rfl, hb15⟩; have hB15 : Below w9.heap.size w9 w15 := hB14.trans (hb15.mono hB14.size))
      | (go_at_call 26; (with_reducible refine (CI1.out _ hB11).mono ?_); rintro e w12 ⟨y, rfl, hy, hb12⟩; have hB12 : Below w9.heap.size w9 w12 := hB11.trans (hb12.mono hB11.size)))
    clear CL2 CI1 CI2 CS CC hS
    go_wp2
    go_ret
    exact ⟨rfl, HB9.out.trans (hB15.mono HB9.out.size)⟩
end Go.Proofs.YtaepfahpbnpeiaaGreatDoor
