
/- The reference's Without of layer 6. -/
import Derived.Test.YtcjiipmageddhaaDoorRefFiles
namespace Go.Proofs.YtcjiipmageddhaaDoor
open Go.RowKit
set_option linter.unusedVariables false

def withoutF (fs : List Fm) (p : ByteArray) : List Fm := fs.filter fun f => decide (f.p ≠ p)
theorem without_take (fs : List Fm) (p : ByteArray) (k : Nat) (h : k < fs.length) : withoutF (fs.take (k + 1)) p = withoutF (fs.take k) p ++ if fs[k].p ≠ p then [fs[k]] else [] := by
  unfold withoutF
  rw [List.take_succ_eq_append_getElem h, List.filter_append]
  congr 1
  by_cases hp : fs[k].p = p <;> simp [hp]
theorem without_len (fs : List Fm) (p : ByteArray) : (withoutF fs p).length ≤ fs.length := List.length_filter_le _ _

set_option maxHeartbeats 2000000 in
set_option maxRecDepth 100000 in
theorem refwithout_any (A : Option Addr) (fs : List Fm) (cap : Nat) (p : ByteArray) (w : World) (hs : Fs w w.heap.size A fs) (hn : fs.length ≤ 100000) :
    Calls Tryd.prog 25 #[.slice A fs.length cap, .string p] w (RowF w (withoutF fs p)) := by
  have HS := Lib.hid hs
  clear hs
  go_enter Tryd.func25, Tryd.ntmps25
  go_wp2
  go_loopw [5, 6] (fun v i wr => ∃ (k m : Nat) (A : Option Addr) (c : Nat), k ≤ fs.length ∧ v = .slice A m c ∧ i = .int .i64 (k : Int) ∧ Hid (OwnF wr w.heap.size (.slice A m c) (withoutF (fs.take k) p)) ∧ Hid (Below w.heap.size w wr)) (fun _ i _ => fs.length - (intOf i).toNat)
  case atStart => exact ⟨0, 0, none, 0, Nat.zero_le _, rfl, rfl, OwnF.nil _ _, Below.refl _ _⟩
  case round =>
    obtain ⟨k, m, A5, c5, hk, rfl, rfl, hown, hb⟩ := hrel
    by_cases hlt : k < fs.length
    · obtain ⟨b, off, rfl, hbb, c0, c1, c2⟩ := (HS.out.on hb.out).get hlt
      have htk := without_take fs p k hlt
      by_cases he : fs[k].p = p
      · rw [if_neg (by simp [he]), List.append_nil] at htk
        have hown2 : Hid (OwnF wr w.heap.size (.slice A5 m c5) (withoutF (fs.take (k + 1)) p)) := by show OwnF _ _ _ _; rw [htk]; exact hown.out
        have hbe : (p.toList == p.toList) = true := by simp
        rw [he] at c0
        clear htk hown he c1 c2
        go_wp2
        go_roundw
        case rel => exact ⟨k + 1, m, A5, c5, by omega, rfl, by go_num, hown2, hb⟩
        case measure => simp [intOf]; omega
      · rw [if_pos he] at htk
        have HTK := Lib.hid htk
        have hbe := str_ne he
        have hal : Below wr.heap.size wr (wr.alloc (.cells fs[k].cells.toArray 41)) := (Below.refl _ _).alloc (Nat.le_refl _) _
        have HO := Lib.hid (hown.out.kept hal)
        have HC := Lib.hid (FileAt.new_ wr fs[k]).cells
        have HBA := Lib.hid (hb.out.trans (hal.mono hb.out.size))
        have hbs : w.heap.size ≤ (wr.alloc (.cells fs[k].cells.toArray 41)).heap.size := HBA.out.size
        have hle : Hid ((withoutF (fs.take k) p).length + [fs[k]].length ≤ 1000000) := by
          show _ ≤ _
          have := without_len (fs.take k) p
          rw [List.length_take] at this
          simp only [List.length_cons, List.length_nil]
          omega
        obtain ⟨m4, hm40⟩ : ∃ m4, m4 = (withoutF (fs.take k) p).length + [fs[k]].length := ⟨_, rfl⟩
        have hm4 := Lib.hid hm40
        clear hm40
        clear hal hown hb he htk
        go_wp2_with (at_builtin; refine wpList_append_frow rfl _ _ rfl w.heap.size _ (withoutF (fs.take k) p) [fs[k]] rfl HO.out (some ⟨wr.heap.size, 0, none⟩) 1 1 rfl rfl (fun h => by cases h) HC.out hbs hle.out m4 hm4.out ?_)
        intro A4 c4 w4 ho4 hg4
        have HB4 := Lib.hid (below_appendf HBA.out HO.out hg4 (Nat.le_refl _))
        rw [← HTK.out] at ho4
        have HO4 := Lib.hid ho4
        clear ho4 hg4 HO HC HBA
        go_wp2
        go_roundw
        case rel => exact ⟨k + 1, m4, A4, c4, by omega, rfl, by go_num, HO4, HB4⟩
        case measure => simp [intOf]; omega
    · obtain rfl : k = fs.length := by omega
      rw [List.take_length] at hown
      go_wp2
      go_ret
      exact ⟨_, rfl, hown.out, hb.out⟩
end Go.Proofs.YtcjiipmageddhaaDoor
