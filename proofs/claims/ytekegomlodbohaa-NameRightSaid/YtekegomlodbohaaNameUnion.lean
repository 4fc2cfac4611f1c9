/- name.Union. -/
import Derived.Test.YtekegomlodbohaaNameOps
import Derived.Test.YtekegomlodbohaaAppend
namespace Go.Proofs.Ytekegomlodbohaa
open Go.RowKit
set_option linter.unusedVariables false

theorem made_own (w : World) (n G : Nat) (h1 : n ≤ G) (h2 : G ≤ maxLen) :
    OwnS (w.drew.alloc (.cells ((([] : List Value).toArray ++ Builtin.zeroCells (Value.string ByteArray.empty).cells n) ++ Builtin.zeroCells (Value.string ByteArray.empty).cells (G - n)) 9)) w.heap.size (.slice (some ⟨w.heap.size, 0, none⟩) 0 G) [] := by
  refine World.ownsRow_made w.drew _ G (Nat.le_refl _) h2 ?_
  simp [Builtin.zeroCells, Value.cells]
  omega

theorem grow_any (n : Nat) (w : World) (hn : n ≤ 1000000) :
    Calls Try.prog 37 #[.slice none 0 0, .int .i64 n] w fun e w' => ∃ v, e = .returned v ∧ OwnS w' w.heap.size v [] ∧ Below w.heap.size w w' := by
  by_cases h0 : n = 0
  · subst h0
    have h := Any8.slices_Grow_room Try.laysGrow none 0 0 0 w (Nat.le_refl _) (by omega) (by omega) (Nat.le_refl _)
    change Calls _ 37 _ _ _ at h
    refine h.mono ?_
    rintro e w' ⟨rfl, rfl⟩
    exact ⟨_, rfl, OwnS.nil _ _, Below.refl _ _⟩
  · obtain ⟨i0, hi, hz0, hz1, hz2⟩ := info_parts info_str
    have h := Any8.slices_Grow_grow Try.laysGrow i0 (.string ByteArray.empty) hi hz0 (by omega) none 0 0 n [] w (Nat.le_refl _) (by omega) (by rw [hz2]; omega) (by omega) (by simp) (fun _ => rfl) (fun a h => by cases h)
    change Calls _ 37 _ _ _ at h
    refine h.mono ?_
    rintro e w' ⟨rfl, rfl⟩
    have h1 := grownCap_ge w (0 + n) 0 9
    have h2 := grownCap_le_maxLen w (0 + n) 0 9 (by unfold maxLen; omega)
    have h3 := made_own w (0 + n) _ h1 h2
    refine ⟨_, rfl, ?_, (Below.refl _ w).drew.alloc (Nat.le_refl _) _⟩
    exact h3

set_option maxRecDepth 100000 in
theorem concat_any (g : Nat) (A A2 : Option Addr) (la lc : List (List UInt8)) (cap cap2 : Nat) (w : World) (hs : Strs w w.heap.size A (toBs la)) (ht : Strs w w.heap.size A2 (toBs lc)) (hA : A = none → cap = 0) (hA2 : A2 = none → cap2 = 0) (hn : la.length ≤ 100000) (hn2 : lc.length ≤ 100000)
    (hg : g < w.heap.size) (h0 : w.cell? ⟨g, 0, none⟩ = some (.slice A la.length cap)) (h1 : w.cell? ⟨g, 1, none⟩ = some (.slice A2 lc.length cap2)) :
    Calls Try.prog 27 #[.slice (some ⟨g, 0, none⟩) 2 2] w fun e w' => ∃ v, e = .returned v ∧ OwnS w' w.heap.size v (la ++ lc) ∧ Below w.heap.size w w' := by
  have HS := Lib.hid hs
  have HT := Lib.hid ht
  have HA := Lib.hid hA
  have HA2 := Lib.hid hA2
  clear hs ht hA hA2
  go_enter Try.func27, Try.ntmps27
  go_wp2
  go_loop [3, 11] (fun z i => (i = .int .i64 0 ∧ z = .int .i64 0) ∨ (i = .int .i64 1 ∧ z = .int .i64 la.length) ∨ (i = .int .i64 2 ∧ z = .int .i64 ((la.length : Int) + lc.length))) (fun _ i => 2 - (intOf i).toNat)
  case atStart => exact .inl ⟨rfl, rfl⟩
  case round =>
    rcases hrel with ⟨rfl, rfl⟩ | ⟨rfl, rfl⟩ | ⟨rfl, rfl⟩
    · go_wp2
      go_round
      case rel => exact .inr (.inl ⟨rfl, by go_num⟩)
      case measure => simp [intOf]
    · go_wp2
      go_round
      case rel => exact .inr (.inr ⟨rfl, by go_num⟩)
      case measure => simp [intOf]
    · have hgr := grow_any (la.length + lc.length) w (by omega)
      have e : (((la.length + lc.length : Nat)) : Int) = (la.length : Int) + lc.length := by omega
      rw [e] at hgr
      clear e
      go_wp2_with (go_at_call 37; refine hgr.mono ?_; rintro e w1 ⟨v1, rfl, ho1, hb1⟩)
      have HO1 := Lib.hid ho1
      clear ho1 hgr
      go_loopw [6, 27] (fun v i wr => Below w.heap.size w wr ∧ ∃ (k : Nat) (ls : List (List UInt8)), i = .int .i64 (k : Int) ∧ Hid (OwnS wr w.heap.size v ls) ∧ ((k = 0 ∧ ls = []) ∨ (k = 1 ∧ ls = la) ∨ (k = 2 ∧ ls = la ++ lc))) (fun _ i _ => 2 - (intOf i).toNat)
      case atStart => exact ⟨hb1, 0, [], rfl, HO1.out, .inl ⟨rfl, rfl⟩⟩
      case round =>
        clear HO1 hb1
        obtain ⟨hb, k, ls, rfl, hown, hk⟩ := hrel
        have hB := hb.size
        have c0 : wr.cell? ⟨g, 0, none⟩ = some (.slice A la.length cap) := (hb.cell (p := ⟨g, 0, none⟩) hg).trans h0
        have c1 : wr.cell? ⟨g, 1, none⟩ = some (.slice A2 lc.length cap2) := (hb.cell (p := ⟨g, 1, none⟩) hg).trans h1
        clear h0 h1
        rcases hk with ⟨rfl, rfl⟩ | ⟨rfl, rfl⟩ | ⟨rfl, rfl⟩
        · have hl : ([] : List (List UInt8)).length + la.length ≤ 1000000 := by simp; omega
          go_wp2_with (at_builtin; refine wpList_append_strs rfl _ _ rfl w.heap.size _ [] la rfl hown.out A cap la.length rfl rfl HA.out (HS.out.on hb) hB hl ?_)
          intro v2 w2 ho2 hg2
          have hb2 := below_append hb hown.out hg2 (Nat.le_refl _)
          have HO2 := Lib.hid ho2
          clear ho2 hg2
          go_wp2
          go_roundw
          case rel => exact ⟨hb2, 1, la, by go_num, HO2.out, .inr (.inl ⟨rfl, rfl⟩)⟩
          case measure => simp [intOf]
        · have hl : ls.length + lc.length ≤ 1000000 := by omega
          go_wp2_with (at_builtin; refine wpList_append_strs rfl _ _ rfl w.heap.size _ ls lc rfl hown.out A2 cap2 lc.length rfl rfl HA2.out (HT.out.on hb) hB hl ?_)
          intro v2 w2 ho2 hg2
          have hb2 := below_append hb hown.out hg2 (Nat.le_refl _)
          have HO2 := Lib.hid ho2
          clear ho2 hg2
          go_wp2
          go_roundw
          case rel => exact ⟨hb2, 2, ls ++ lc, by go_num, HO2.out, .inr (.inr ⟨rfl, rfl⟩)⟩
          case measure => simp [intOf]
        · go_wp2
          go_ret
          exact ⟨_, rfl, hown.out, hb⟩
end Go.Proofs.Ytekegomlodbohaa
