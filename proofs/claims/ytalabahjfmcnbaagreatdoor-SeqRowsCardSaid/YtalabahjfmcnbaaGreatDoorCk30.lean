/- The reference's Same of rows of steps that say the same. -/
import Derived.Test.YtalabahjfmcnbaaGreatDoorCk24
namespace Go.Proofs.YtalabahjfmcnbaaGreatDoor
open Go.RowKit
set_option linter.unusedVariables false

set_option maxHeartbeats 4000000 in
set_option maxRecDepth 100000 in
theorem refsamep_eq (A A2 : Option Addr) (hs ks : List Pm) (cap cap2 : Nat) (w : World) (hd : pkeys hs = pkeys ks) (hk : Ps w w.heap.size A hs) (gk : Ps w w.heap.size A2 ks) (hn : hs.length ≤ 1000000) (hm : ∀ x ∈ hs, x.old.length ≤ 1000000 ∧ x.new.length ≤ 1000000) :
    Calls Tryz.prog 12 #[.slice A hs.length cap, .slice A2 ks.length cap2] w fun e w' => e = .returned (.bool true) ∧ ∃ q, w' = w.drewN q := by
  have hl : hs.length = ks.length := by have := congrArg List.length hd; rwa [pkeys_len, pkeys_len] at this
  have HD : Hid (∀ j (hj : j < hs.length) (hj2 : j < ks.length), hs[j].key = ks[j].key) := by
    intro j hj hj2
    have e2 := congrArg (fun l => l[j]?) hd
    simpa only [pkeys, List.getElem?_map, List.getElem?_eq_getElem hj, List.getElem?_eq_getElem hj2, Option.map_some, Option.some.injEq] using e2
  have Hl := Lib.hid hl
  have hb1 : (((hs.length : Int)) != (ks.length : Int)) = false := by simp; omega
  have HK := Lib.hid hk
  have GK := Lib.hid gk
  have HS := Lib.hid hm
  clear hl hk gk hm hd
  go_enter Tryz.func12, Tryz.ntmps12
  go_wp2
  go_loopw [5] (fun i wr => ∃ k : Nat, k ≤ hs.length ∧ i = .int .i64 (k : Int) ∧ Hid (∃ q, wr = w.drewN q)) (fun i _ => hs.length - (intOf i).toNat)
  case atStart => exact ⟨0, Nat.zero_le _, rfl, 0, rfl⟩
  case round =>
    obtain ⟨k, hk, rfl, hq⟩ := hrel
    have hb : Below w.heap.size w wr := by obtain ⟨q, rfl⟩ := hq.out; exact below_drewN (Below.refl _ _) q
    by_cases hlt : k < hs.length
    · have hlt2 : k < ks.length := by have := Hl.out; omega
      have hK := HK.out.on hb
      have gK := GK.out.on hb
      obtain ⟨b, off, rfl, _, h1, h2, h3, h4, h5, h6⟩ := hK.get hlt
      obtain ⟨b2, off2, rfl, _, g1, g2, g3, g4, g5, g6⟩ := gK.get hlt2
      have ok := hK.ok hs[k] (List.getElem_mem _)
      have ok2 := gK.ok ks[k] (List.getElem_mem _)
      have s1 := HS.out hs[k] (List.getElem_mem _)
      have he := HD.out k hlt hlt2
      obtain ⟨e1, e2, e3, e4, e5, e6⟩ : hs[k].kind = ks[k].kind ∧ hs[k].p = ks[k].p ∧ hs[k].dst = ks[k].dst ∧ hs[k].at_ = ks[k].at_ ∧ hs[k].old = ks[k].old ∧ hs[k].new = ks[k].new := by
        simp only [Pm.key, Pk.mk.injEq] at he
        exact ⟨he.1, bytes_inj he.2.1, bytes_inj he.2.2.1, he.2.2.2⟩
      have CO := Lib.hid (rsame_d hs[k].a1 ks[k].a1 hs[k].old ks[k].old hs[k].c1 ks[k].c1 wr true (decide_eq_true e5) ok.h.old ok2.h.old s1.1 (by rw [← e5]; exact s1.1))
      have CN := Lib.hid (rsame_d hs[k].a2 ks[k].a2 hs[k].new ks[k].new hs[k].c2 ks[k].c2 wr true (decide_eq_true e6) ok.h.new ok2.h.new s1.2 (by rw [← e6]; exact s1.2))
      have w1 : (hs[k].kind != ks[k].kind) = false := by rw [e1]; simp
      have w2 : (hs[k].p.toList == ks[k].p.toList) = true := by rw [e2]; simp
      have w3 : (hs[k].dst.toList == ks[k].dst.toList) = true := by rw [e3]; simp
      have w4 : (hs[k].at_ != ks[k].at_) = false := by rw [e4]; simp
      clear ok ok2 hK gK s1 he e1 e2 e3 e4 e5 e6
      generalize hs[k].kind = k1 at *
      generalize ks[k].kind = k2 at *
      generalize hs[k].p = n1 at *
      generalize ks[k].p = n2 at *
      generalize hs[k].dst = m1 at *
      generalize ks[k].dst = m2 at *
      generalize hs[k].at_ = t1 at *
      generalize ks[k].at_ = t2 at *
      generalize hs[k].old.length = o1 at *
      generalize ks[k].old.length = o2 at *
      generalize hs[k].new.length = e1 at *
      generalize ks[k].new.length = e2 at *
      generalize hs[k].a1 = xa1 at *
      generalize ks[k].a1 = ya1 at *
      generalize hs[k].c1 = xc1 at *
      generalize ks[k].c1 = yc1 at *
      generalize hs[k].a2 = xa2 at *
      generalize ks[k].a2 = ya2 at *
      generalize hs[k].c2 = xc2 at *
      generalize ks[k].c2 = yc2 at *
      have fin : ∀ m, Hid (∃ q, wr.drewN m = w.drewN q) := by
        obtain ⟨q, rfl⟩ := hq.out
        exact fun m => ⟨q + m, World.drewN_drewN _ _ _⟩
      clear hq hb
      go_wp2
      go_quiet ((go_at_call 23; first | with_reducible exact CO.out _ | with_reducible exact CN.out _))
      go_wp2
      go_roundw
      case rel => exact ⟨k + 1, by omega, by go_num, (fin _).out⟩
      case measure => simp [intOf]; omega
    · have hk2 : k = hs.length := by omega
      subst hk2
      go_wp2
      go_ret
      exact ⟨rfl, hq.out⟩
end Go.Proofs.YtalabahjfmcnbaaGreatDoor
