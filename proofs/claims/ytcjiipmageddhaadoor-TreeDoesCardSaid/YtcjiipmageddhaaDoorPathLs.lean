
/- Package path's Less, Ups, Join. -/
import Derived.Test.YtcjiipmageddhaaDoorPathOrd
import Derived.Sort.OwnSorted
namespace Go.Proofs.YtcjiipmageddhaaDoor
open Go.RowKit
set_option linter.unusedVariables false

theorem strcompare_any (s t : ByteArray) (c : Int) (hc : Lib.compareBytes s.data.toList t.data.toList = c) (w : World) :
    Calls Tryd.prog 74 #[.string s, .string t] w fun e w' => e = .returned (.int .i64 c) ∧ w' = w := by
  have h := Tryd.strings_Compare s t w
  rwa [hc] at h
theorem pnames_len (s : ByteArray) : (pnames s).length ≤ 16 := by
  unfold pnames names
  split
  · rename_i h; exact h.2.2
  · simp
set_option maxHeartbeats 2000000 in
set_option maxRecDepth 100000 in
theorem less_c : LessC := by
  intro s t w hs ht
  rw [less_or nameP s.data.toList t.data.toList _ (compareBytes_lt _ _)]
  obtain ⟨d, hd⟩ : ∃ d, Lib.compareBytes s.data.toList t.data.toList = d := ⟨_, rfl⟩
  obtain ⟨c, hc⟩ : ∃ c, cmpL (pnames s) (pnames t) = c := ⟨_, rfl⟩
  rw [show cmpL (names nameP s.data.toList) (names nameP t.data.toList) = c from hc, hd]
  obtain ⟨z, hz⟩ : ∃ z, (if c = 0 then d else c) = z := ⟨_, rfl⟩
  rw [hz]
  have CA := Lib.hid (fun w => split_any s w (by omega))
  have CB := Lib.hid (fun w => split_any t w (by omega))
  have CS := Lib.hid (strcompare_any s t d hd)
  have hn1 := pnames_len s
  have hn2 := pnames_len t
  have HC := Lib.hid hc
  have HZ := Lib.hid hz
  generalize pnames s = l1 at *
  generalize pnames t = l2 at *
  clear hd hc hz
  go_enter Tryd.func62, Tryd.ntmps62
  go_wp2_with fail
  refine (CA.out _).mono ?_
  rintro e w1 ⟨A1, k1, rfl, hA1, hs1, hb1⟩
  have HB1 := Lib.hid hb1
  have S1 := Lib.hid hs1
  clear hb1 hs1 hA1
  go_wp2_with fail
  refine (CB.out _).mono ?_
  rintro e w2 ⟨A2, k2, rfl, hA2, hs2, hb2⟩
  have HB2 := Lib.hid (HB1.out.trans (hb2.mono HB1.out.size))
  have S2 := Lib.hid hs2
  have S1 := Lib.hid (S1.out.on hb2)
  clear hb2 hs2 hA2 HB1
  have CC := Lib.hid (scompare_any A1 A2 l1 l2 k1 k2 w2 c HC.out S1.out S2.out (by omega) (by omega))
  go_wp2_with fail
  refine CC.out.mono ?_
  rintro e w3 ⟨rfl, rfl⟩
  go_wp2_with fail
  refine (CS.out _).mono ?_
  rintro e w4 ⟨rfl, rfl⟩
  clear CC CS
  have CO := Lib.hid (fun ty => or_any w4.heap.size c d z (w4.alloc (.cells #[.int .i64 c, .int .i64 d] ty)) (by rw [World.cell?_alloc_new]; rfl) (by rw [World.cell?_alloc_new]; rfl) HZ.out.symm)
  have HA := Lib.hid (fun ty => HB2.out.trans (((Below.refl _ _).alloc (Nat.le_refl _) (.cells #[.int .i64 c, .int .i64 d] ty) : Below w4.heap.size w4 _).mono HB2.out.size))
  go_wp2_with fail
  refine (CO.out _).mono ?_
  rintro e w5 ⟨rfl, rfl⟩
  go_wp2
  go_ret
  exact ⟨rfl, HA.out _⟩

theorem putRow_under {B : Nat} {w0 w : World} {g q : Nat} {d : Array (List UInt8)} (h : Below B w0 w) (hg : B ≤ g) : Below B w0 (Sort.putRow encStr (Sort.ahead w q) g 0 d) := Lib.below_putRow h hg
theorem joined_le {p : List UInt8} (m : Nat) : (joinB ((names nameP p).take m)).length ≤ 200 := by
  by_cases h : names nameP p = []
  · rw [h]; simp [joinB]
  · have h1 := join_take_le (names nameP p) m
    rw [join_names nameP h] at h1
    have := (names_pieces nameP h).2.1
    omega
def lenV : Value → Nat
  | .slice _ k _ => k
  | _ => 0
end Go.Proofs.YtcjiipmageddhaaDoor
