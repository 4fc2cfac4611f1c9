/- Package tree's copied, copies, All, Get. Package tree's Same. What a tree is; package tree's All, Get, Size, Same. Package tree's In. -/
import Derived.BigQuiet
import Derived.Deep.QuietTactic
import Derived.Handy
import Derived.Deep.RegionLaw
import Derived.Test.YtalabahjfmcnbaaGreatDoorCk42
import Derived.Test.YtalabahjfmcnbaaGreatDoorCk43
namespace Go.Proofs.YtalabahjfmcnbaaGreatDoor
open Go.RowKit
set_option linter.unusedVariables false

set_option maxRecDepth 100000 in
theorem tcopied_any (A : Option Addr) (la : List (List UInt8)) (cap : Nat) (w : World) (hs : Strs w w.heap.size A (toBs la)) (hr : Room A la.length cap) (hn : la.length ≤ 1000000) :
    Calls Tryz.prog 48 #[.slice A la.length cap] w fun e w' => ∃ A' c', e = .returned (.slice A' la.length c') ∧ OwnS w' w.heap.size (.slice A' la.length c') la ∧ Below w.heap.size w w' := by
  have HS := Lib.hid hs
  have HR := Lib.hid hr
  clear hs hr
  go_enter Tryz.func48, Tryz.ntmps48
  go_wp2_with (at_builtin; refine wpList_append_strs rfl _ _ rfl w.heap.size _ [] la rfl (OwnS.nil w w.heap.size) A cap la.length rfl rfl HR.out.1 HS.out (Nat.le_refl _) (by simp; omega) ?_)
  intro v w' ho hg
  have hb : Below w.heap.size w w' := (Below.refl _ w).grown hg (Nat.le_refl _) fun k hk => by simp [Value.ownBlock] at hk
  have HO := Lib.hid ho
  clear ho hg
  go_wp2
  go_ret
  obtain ⟨A2, c2, rfl, _, _, _⟩ := HO.out.strs
  exact ⟨A2, c2, rfl, HO.out, hb⟩
theorem fkeys_app (a b : List Fm) : fkeys (a ++ b) = fkeys a ++ fkeys b := by simp [fkeys]
/-- The files so far, each with lines of its own. -/
structure Made (w w' : World) (A : Option Addr) (n c : Nat) (ks : List PF) : Prop where
  h : ∃ gs : List Fm, OwnF w' w.heap.size (.slice A n c) gs ∧ (∀ g ∈ gs, g.Sep w') ∧ fkeys gs = ks
  b : Below w.heap.size w w'

set_option maxHeartbeats 4000000 in
set_option maxRecDepth 100000 in
theorem copies_any (A : Option Addr) (fs : List Fm) (cap : Nat) (w : World) (hs : Fs w w.heap.size A fs) (hn : fs.length ≤ 10000) (hz : ∀ f ∈ fs, f.ls.length ≤ 1000000) :
    Calls Tryz.prog 31 #[.slice A fs.length cap] w fun e w' => ∃ A' n c, e = .returned (.slice A' n c) ∧ Hid (Made w w' A' n c (fkeys fs)) := by
  have HS := Lib.hid hs
  have HZ := Lib.hid hz
  clear hs hz
  go_enter Tryz.func31, Tryz.ntmps31
  go_wp2
  go_loopw [3, 8] (fun s3 s8 wr => ∃ (k : Nat) (A' : Option Addr) (n c : Nat), k ≤ fs.length ∧ s3 = .slice A' n c ∧ s8 = .int .i64 (k : Int) ∧ Hid (Made w wr A' n c (fkeys (fs.take k)))) (fun _ s8 _ => fs.length - (intOf s8).toNat)
  case atStart => exact ⟨0, none, 0, 0, Nat.zero_le _, rfl, rfl, ⟨⟨[], OwnF.nil _ _, by simp, rfl⟩, Below.refl _ _⟩⟩
  case round =>
    obtain ⟨k, A1, n1, c1, hk, rfl, rfl, HI⟩ := hrel
    by_cases hlt : k < fs.length
    · have hS := HS.out.on HI.out.b
      obtain ⟨b, off, e, bl, h1, h2, h3⟩ := hS.get hlt
      subst e
      have hok := hS.ok fs[k] (List.getElem_mem _)
      have hlz := HZ.out fs[k] (List.getElem_mem _)
      have HLEN : Hid (n1 = k) := by
        show _ = _
        obtain ⟨gs, g1, _, g3⟩ := HI.out.h
        have e1 := g1.addr.1
        have e2 := congrArg List.length g3
        rw [fkeys_len, fkeys_len, List.length_take] at e2
        omega
      have HKEY : Hid (∀ (a2 : Option Addr) (c2 : Nat), fkeys (fs.take (k + 1)) = fkeys (fs.take k) ++ fkeys [⟨(fs[k]'hlt).p, (fs[k]'hlt).d, a2, c2, (fs[k]'hlt).ls⟩]) := fun a2 c2 => by
        rw [List.take_succ_eq_append_getElem hlt, fkeys_app]
        rfl
      generalize fs[k] = f at *
      have hal : Below wr.heap.size wr (wr.alloc (.cells #[.string f.p, .bool f.d, .slice f.a f.ls.length f.c] 62)) := (Below.refl _ _).alloc (Nat.le_refl _) _
      have CC := Lib.hid (tcopied_any f.a f.ls f.c (wr.alloc (.cells #[.string f.p, .bool f.d, .slice f.a f.ls.length f.c] 62)) (hok.on hal).ls hok.r hlz)
      have HFA := Lib.hid (FileAt.new_ wr f)
      have HA := Lib.hid hal
      clear hal hok hS hlz
      go_wp2_with fail
      refine CC.out.mono ?_
      rintro e w2 ⟨A2, c2, rfl, ho2, hb2⟩
      have hFA2 := HFA.out.on hb2
      have f0 := hFA2.c0
      have f1 := hFA2.c1
      have f2 := hFA2.c2
      have z2 := hFA2.fz 2
      have hG2 : wr.heap.size < w2.heap.size := hFA2.lt
      have hB2 := HA.out.trans (hb2.mono HA.out.size)
      obtain ⟨gs, hgs⟩ : ∃ gs : List Fm, OwnF wr w.heap.size (.slice A1 n1 c1) gs ∧ (∀ g ∈ gs, g.Sep wr) ∧ fkeys gs = fkeys (fs.take k) := HI.out.h
      have hgr := grown_cell w2 wr.heap.size 2 (.slice A2 f.ls.length c2)
      have hOwn : OwnF (w2.setCell ⟨wr.heap.size, 2, none⟩ (.slice A2 f.ls.length c2)) w.heap.size (.slice A1 n1 c1) gs := (hgs.1.kept hB2).apart hgr fun q hq => by have := (World.ownsRow.lt hgs.1 q hq).2; omega
      have hF3 : FileAt (w2.setCell ⟨wr.heap.size, 2, none⟩ (.slice A2 f.ls.length c2)) wr.heap.size ⟨f.p, f.d, A2, c2, f.ls⟩ := hFA2.set2 A2 c2 _ rfl
      have hSepf : Fm.Sep ⟨f.p, f.d, A2, c2, f.ls⟩ w2 := ⟨⟨ho2.at_.1, ho2.at_.2.1⟩, ho2.blk⟩
      have hS3 : ∀ g ∈ gs ++ [⟨f.p, f.d, A2, c2, f.ls⟩], g.Sep (w2.setCell ⟨wr.heap.size, 2, none⟩ (.slice A2 f.ls.length c2)) := fun g hg => by
        rcases List.mem_append.1 hg with hg | hg
        · exact ((hgs.2.1 g hg).on hB2).grown hFA2 (by decide) hgr
        · rw [List.mem_singleton] at hg
          rw [hg]
          exact hSepf.grown hFA2 (by decide) hgr
      have hB3 : Below w.heap.size w (w2.setCell ⟨wr.heap.size, 2, none⟩ (.slice A2 f.ls.length c2)) := below_set (HI.out.b.trans (hB2.mono HI.out.b.size)) HI.out.b.size (HI.out.b.trans (hB2.mono HI.out.b.size)).size
      have hal3 : Below (w2.setCell ⟨wr.heap.size, 2, none⟩ (.slice A2 f.ls.length c2)).heap.size (w2.setCell ⟨wr.heap.size, 2, none⟩ (.slice A2 f.ls.length c2)) ((w2.setCell ⟨wr.heap.size, 2, none⟩ (.slice A2 f.ls.length c2)).alloc (.cells #[.string f.p, .bool f.d, .slice A2 f.ls.length c2] 62)) := (Below.refl _ _).alloc (Nat.le_refl _) _
      have hsz : (w2.setCell ⟨wr.heap.size, 2, none⟩ (.slice A2 f.ls.length c2)).heap.size = w2.heap.size := by simp [World.setCell]
      have HO4 := Lib.hid (hOwn.kept hal3)
      have HFC : Hid (FCells ((w2.setCell ⟨wr.heap.size, 2, none⟩ (.slice A2 f.ls.length c2)).alloc (.cells #[.string f.p, .bool f.d, .slice A2 f.ls.length c2] 62)) (some ⟨w2.heap.size, 0, none⟩) [⟨f.p, f.d, A2, c2, f.ls⟩]) := by
        have h := (FileAt.new_ (w2.setCell ⟨wr.heap.size, 2, none⟩ (.slice A2 f.ls.length c2)) ⟨f.p, f.d, A2, c2, f.ls⟩).cells
        rw [hsz] at h
        exact h
      have HS4 : Hid (∀ g ∈ gs ++ [⟨f.p, f.d, A2, c2, f.ls⟩], g.Sep ((w2.setCell ⟨wr.heap.size, 2, none⟩ (.slice A2 f.ls.length c2)).alloc (.cells #[.string f.p, .bool f.d, .slice A2 f.ls.length c2] 62))) := fun g hg => (hS3 g hg).on hal3
      have HB4 := Lib.hid (hB3.trans (hal3.mono hB3.size))
      have hgl : gs.length = n1 := hgs.1.addr.1.symm
      have HGL := Lib.hid hgl
      have HLE : Hid (gs.length + [(⟨f.p, f.d, A2, c2, f.ls⟩ : Fm)].length ≤ 1000000) := by show _ ≤ _; rw [hgl, HLEN.out]; simp; omega
      obtain ⟨n3, hn3⟩ : ∃ n3, n3 = gs.length + [(⟨f.p, f.d, A2, c2, f.ls⟩ : Fm)].length := ⟨_, rfl⟩
      have HN3 := Lib.hid hn3
      have HK : Hid (fkeys (gs ++ [⟨f.p, f.d, A2, c2, f.ls⟩]) = fkeys (fs.take (k + 1))) := by show _ = _; rw [HKEY.out A2 c2, fkeys_app, hgs.2.2]
      clear hgs hgr hOwn hF3 hSepf hS3 hB3 hal3 hsz hgl hn3 hB2 hFA2 ho2 hb2 HFA HA CC hG2
      go_wp2_with (at_builtin; refine wpList_append_frow rfl _ _ rfl w.heap.size (.slice A1 n1 c1) gs [⟨f.p, f.d, A2, c2, f.ls⟩] rfl HO4.out (some ⟨w2.heap.size, 0, none⟩) 1 1 rfl rfl (fun h => by cases h) HFC.out HB4.out.size HLE.out n3 HN3.out ?_)
      intro A5 c5 w5 ho5 hg5
      have HM5 : Hid (Made w w5 A5 n3 c5 (fkeys (fs.take (k + 1)))) := ⟨⟨_, ho5, fun g hg => (HS4.out g hg).row HO4.out hg5, HK.out⟩, below_appendf HB4.out HO4.out hg5 (Nat.le_refl _)⟩
      clear ho5 hg5
      go_wp2
      go_roundw
      case rel => exact ⟨k + 1, A5, n3, c5, by omega, rfl, by go_num, HM5⟩
      case measure => simp [intOf]; omega
    · have hke : k = fs.length := by omega
      subst hke
      have hfin : Hid (Made w wr A1 n1 c1 (fkeys fs)) := by have h := HI.out; rw [List.take_length] at h; exact h
      go_wp2
      go_ret
      exact ⟨_, _, _, rfl, hfin⟩
end Go.Proofs.YtalabahjfmcnbaaGreatDoor
namespace Go.Proofs.YtalabahjfmcnbaaGreatDoor
open Go.RowKit
set_option linter.unusedVariables false

set_option maxRecDepth 100000 in
theorem sequal_own (A A2 : Option Addr) (ss tt : List ByteArray) (cap cap2 : Nat) (w : World) (hs : Strs w w.heap.size A ss) (ht : Strs w w.heap.size A2 tt)
    (hn : ss.length ≤ 140737488351232) (hn2 : tt.length ≤ 140737488351232) :
    Calls Tryz.prog 99 #[.slice A ss.length cap, .slice A2 tt.length cap2] w fun e w' => e = .returned (.bool (decide (ss = tt))) ∧ ∃ q, w' = w.drewN q := by
  by_cases hl : ss.length = tt.length
  · have Hl := Lib.hid hl
    have hb1 : (((ss.length : Int)) != (tt.length : Int)) = false := by simp; omega
    clear hl
    go_enter Tryz.func99, Tryz.ntmps99
    go_wp2
    go_loopw [13] (fun i wr => ∃ k : Nat, k ≤ ss.length ∧ i = .int .i64 (k : Int) ∧ Hid (∀ j (hj : j < ss.length) (hj2 : j < tt.length), j < k → ss[j] = tt[j]) ∧ ∃ q, wr = w.drewN q) (fun i _ => ss.length - (intOf i).toNat)
    case atStart => exact ⟨0, Nat.zero_le _, rfl, fun j _ _ h => absurd h (by omega), 0, rfl⟩
    case round =>
      obtain ⟨k, hk, rfl, hall, q, rfl⟩ := hrel
      by_cases hlt : k < ss.length
      · have hlt2 : k < tt.length := by have := Hl.out; omega
        obtain ⟨g, off, rfl, hg, hc⟩ := hs.at_ hlt
        obtain ⟨g2, off2, rfl, hg2, hc2⟩ := ht.at_ hlt2
        by_cases he : ss[k] = tt[k]
        · have hyes : Hid (∀ j (hj : j < ss.length) (hj2 : j < tt.length), j < k + 1 → ss[j] = tt[j]) := by
            intro j hj hj2 hjk
            by_cases hjk2 : j = k
            · subst hjk2; exact he
            · exact hall.out j hj hj2 (by omega)
          rw [← he] at hc2
          generalize ss[k] = s at *
          clear he hall hs ht
          go_wp2
          go_quiet (fail)
          go_wp2
          go_roundw
          case rel => exact ⟨k + 1, by omega, by go_num, hyes, _, rfl⟩
          case measure => simp [intOf]; omega
        · have hno : Hid (decide (ss = tt) = false) := by
            show _ = _
            simp only [decide_eq_false_iff_not]
            intro h
            subst h
            exact he rfl
          have hne : (ss[k].toList == tt[k].toList) = false := by
            rw [beq_eq_false_iff_ne]
            intro h
            exact he (by apply ByteArray.ext; apply Array.ext'; simpa only [toList_eq] using h)
          generalize ss[k] = s at *
          generalize tt[k] = t at *
          clear he hall hs ht
          go_wp2
          go_quiet (fail)
          go_wp2
          go_ret
          rw [hno.out]
          exact ⟨rfl, _, World.drewN_drewN _ _ _⟩
      · have hk2 : k = ss.length := by omega
        subst hk2
        have hyes : Hid (decide (ss = tt) = true) := by
          show _ = _
          rw [decide_eq_true_eq]
          exact List.ext_getElem Hl.out fun j h1 h2 => hall.out j h1 h2 h1
        clear hall
        go_wp2
        go_ret
        rw [hyes.out]
        exact ⟨rfl, q, rfl⟩
  · have hno : Hid (decide (ss = tt) = false) := by
      show _ = _
      simp only [decide_eq_false_iff_not]
      intro h
      subst h
      exact hl rfl
    have hb1 : (((ss.length : Int)) != (tt.length : Int)) = true := by simp; omega
    go_enter Tryz.func99, Tryz.ntmps99
    go_wp2
    go_ret
    rw [hno.out]
    exact ⟨rfl, 0, rfl⟩
theorem tlsame_any (A A2 : Option Addr) (la lc : List (List UInt8)) (cap cap2 : Nat) (w : World) (d : Bool) (hd : decide (la = lc) = d) (hs : Strs w w.heap.size A (toBs la)) (ht : Strs w w.heap.size A2 (toBs lc)) (hn : la.length ≤ 1000000) (hn2 : lc.length ≤ 1000000) :
    Calls Tryz.prog 60 #[.slice A la.length cap, .slice A2 lc.length cap2] w fun e w' => e = .returned (.bool d) ∧ ∃ q, w' = w.drewN q := by
  have h := sequal_own A A2 (toBs la) (toBs lc) cap cap2 w hs ht (by rw [toBs_len]; omega) (by rw [toBs_len]; omega)
  rw [toBs_len, toBs_len, show decide (toBs la = toBs lc) = d from by
    rw [← hd]
    congr 1
    refine propext ⟨fun h => ?_, fun h => by rw [h]⟩
    have := congrArg lists h
    rwa [lists_toBs, lists_toBs] at this] at h
  have HH := Lib.hid h
  clear h hs ht hd
  go_enter Tryz.func60, Tryz.ntmps60
  go_wp2_with fail
  refine HH.out.mono ?_
  rintro e w' ⟨rfl, q, rfl⟩
  go_wp2
  go_ret
  exact ⟨rfl, q, rfl⟩
set_option maxHeartbeats 2000000 in
set_option maxRecDepth 100000 in
theorem samefile_any (h k : Fm) (w : World) (d : Bool) (hd : decide (h.key = k.key) = d) (ho : h.Ok w w.heap.size) (ko : k.Ok w w.heap.size) (hn : h.ls.length ≤ 1000000) (kn : k.ls.length ≤ 1000000) :
    Calls Tryz.prog 37 #[.agg #[.string h.p, .bool h.d, .slice h.a h.ls.length h.c], .agg #[.string k.p, .bool k.d, .slice k.a k.ls.length k.c]] w fun e w' => e = .returned (.bool d) ∧ Below w.heap.size w w' := by
  have hal : Below w.heap.size w ((w.alloc (.cells #[.string h.p, .bool h.d, .slice h.a h.ls.length h.c] 62)).alloc (.cells #[.string k.p, .bool k.d, .slice k.a k.ls.length k.c] 62)) := ((Below.refl _ _).alloc (Nat.le_refl _) _).alloc (by simp) _
  have hk : (h.key = k.key) ↔ (h.p = k.p ∧ h.d = k.d ∧ h.ls = k.ls) := by
    unfold Fm.key
    simp only [Prod.mk.injEq]
    exact ⟨fun ⟨a, b, c⟩ => ⟨bytes_inj a, b, c⟩, fun ⟨a, b, c⟩ => ⟨by rw [a], b, c⟩⟩
  have CL := fun (b : Bool) (hb : decide (h.ls = k.ls) = b) => tlsame_any h.a k.a h.ls k.ls h.c k.c _ b hb (ho.on hal).ls (ko.on hal).ls hn kn
  have HA := Lib.hid hal
  clear ho ko
  by_cases hp : h.p = k.p
  · by_cases hdd : h.d = k.d
    · have e1 : d = decide (h.ls = k.ls) := by
        rw [← hd]
        congr 1
        exact propext ⟨fun x => (hk.1 x).2.2, fun x => hk.2 ⟨hp, hdd, x⟩⟩
      have C := Lib.hid (CL d e1.symm)
      have s1 : (h.p.toList == k.p.toList) = true := by rw [str_beq]; exact decide_eq_true hp
      have s2 : (h.d == k.d) = true := by rw [hdd]; simp
      clear CL hk hd hal hp hdd e1
      generalize h.p = p1 at *
      generalize k.p = p2 at *
      generalize h.d = d1 at *
      generalize k.d = d2 at *
      go_enter Tryz.func37, Tryz.ntmps37
      go_wp2_with fail
      refine C.out.mono ?_
      rintro e w1 ⟨rfl, q, rfl⟩
      go_wp2
      go_ret
      exact ⟨rfl, below_drewN HA.out q⟩
    · have e1 : d = false := by
        rw [← hd]
        exact decide_eq_false fun x => hdd (hk.1 x).2.1
      subst e1
      have s1 : (h.p.toList == k.p.toList) = true := by rw [str_beq]; exact decide_eq_true hp
      have s2 : (h.d == k.d) = false := by rw [beq_eq_false_iff_ne]; exact hdd
      clear CL hk hd hal hp hdd
      generalize h.p = p1 at *
      generalize k.p = p2 at *
      generalize h.d = d1 at *
      generalize k.d = d2 at *
      go_enter Tryz.func37, Tryz.ntmps37
      go_wp2
      go_ret
      exact ⟨rfl, HA.out⟩
  · have e1 : d = false := by
      rw [← hd]
      exact decide_eq_false fun x => hp (hk.1 x).1
    subst e1
    have s1 : (h.p.toList == k.p.toList) = false := str_ne hp
    clear CL hk hd hal hp
    generalize h.p = p1 at *
    generalize k.p = p2 at *
    go_enter Tryz.func37, Tryz.ntmps37
    go_wp2
    go_ret
    exact ⟨rfl, HA.out⟩
set_option maxHeartbeats 1000000 in
set_option maxRecDepth 100000 in
theorem fequal_any (A A2 : Option Addr) (hs ks : List Fm) (cap cap2 : Nat) (w : World) (d : Bool) (hd : d = decide (fkeys hs = fkeys ks)) (hk : Fs w w.heap.size A hs) (gk : Fs w w.heap.size A2 ks) (hn : hs.length ≤ 1000000 ∧ ∀ f ∈ hs, f.ls.length ≤ 1000000) (gn : ks.length ≤ 1000000 ∧ ∀ f ∈ ks, f.ls.length ≤ 1000000) :
    Calls Tryz.prog 36 #[.slice A hs.length cap, .slice A2 ks.length cap2, .func (.func 37) #[] #[]] w fun e w' => e = .returned (.bool d) ∧ Below w.heap.size w w' := by
  have HN := hn.1
  have GN := gn.1
  have HD := Lib.hid hd
  clear hd
  by_cases hl : hs.length = ks.length
  · have Hl := Lib.hid hl
    have hb1 : (((hs.length : Int)) != (ks.length : Int)) = false := by simp; omega
    have HK := Lib.hid hk
    have GK := Lib.hid gk
    have HS := Lib.hid hn.2
    have GS := Lib.hid gn.2
    clear hl hk gk hn gn
    go_enter Tryz.func36, Tryz.ntmps36
    go_wp2
    go_loopw [17] (fun i wr => ∃ k : Nat, k ≤ hs.length ∧ i = .int .i64 (k : Int) ∧ Hid (∀ j (hj : j < hs.length) (hj2 : j < ks.length), j < k → hs[j].key = ks[j].key) ∧ Below w.heap.size w wr) (fun i _ => hs.length - (intOf i).toNat)
    case atStart => exact ⟨0, Nat.zero_le _, rfl, fun j _ _ h => absurd h (by omega), Below.refl _ _⟩
    case round =>
      obtain ⟨k, hk, rfl, hall, hb⟩ := hrel
      by_cases hlt : k < hs.length
      · have hlt2 : k < ks.length := by have := Hl.out; omega
        have hK := HK.out.on hb
        have gK := GK.out.on hb
        have hK2 := hK
        have gK2 := gK
        obtain ⟨b, off, rfl, bl1, h1, h2, h3⟩ := hK.get hlt
        obtain ⟨b2, off2, rfl, bl2, g1, g2, g3⟩ := gK.get hlt2
        have ok := hK.ok hs[k] (List.getElem_mem _)
        have ok2 := gK.ok ks[k] (List.getElem_mem _)
        have s1 := HS.out hs[k] (List.getElem_mem _)
        have s3 := GS.out ks[k] (List.getElem_mem _)
        have hba : Below wr.heap.size wr ((wr.alloc (.cells #[.string hs[k].p, .bool hs[k].d, .slice hs[k].a hs[k].ls.length hs[k].c] 62)).alloc (.cells #[.string ks[k].p, .bool ks[k].d, .slice ks[k].a ks[k].ls.length ks[k].c] 62)) :=
          ((Below.refl _ _).alloc (Nat.le_refl _) _).alloc (by simp) _
        have CS := samefile_any hs[k] ks[k] _ _ rfl (ok.on hba) (ok2.on hba) s1 s3
        have hbB := hb.trans (hba.mono hb.size)
        have hno : Hid (¬ (hs[k].key = ks[k].key) → decide (fkeys hs = fkeys ks) = false) := by
          intro hne
          rw [decide_eq_false_iff_not]
          intro e
          have e2 := congrArg (fun l => l[k]?) e
          simp only [fkeys, List.getElem?_map, List.getElem?_eq_getElem hlt, List.getElem?_eq_getElem hlt2, Option.map_some, Option.some.injEq] at e2
          exact hne e2
        have hyes : Hid (hs[k].key = ks[k].key → ∀ j (hj : j < hs.length) (hj2 : j < ks.length), j < k + 1 → hs[j].key = ks[j].key) := by
          intro he j hj hj2 hjk
          by_cases hjk2 : j = k
          · subst hjk2; exact he
          · exact hall.out j hj hj2 (by omega)
        by_cases he : hs[k].key = ks[k].key
        · have hnew := Lib.hid (hyes.out he)
          rw [decide_eq_true he] at CS
          have HC := Lib.hid CS
          have HB := Lib.hid hbB
          clear hyes hno he hall ok ok2 hK gK s1 s3 CS hba hbB hK2 gK2
          generalize hs[k].p = n at *
          generalize ks[k].p = n2 at *
          generalize hs[k].ls.length = o1 at *
          generalize ks[k].ls.length = o2 at *
          generalize hs[k].d = e1 at *
          generalize ks[k].d = e2 at *
          generalize hs[k].a = x1 at *
          generalize hs[k].c = x3 at *
          generalize ks[k].a = y1 at *
          generalize ks[k].c = y3 at *
          go_wp2_with fail
          refine HC.out.mono ?_
          rintro e w1 ⟨rfl, hb1⟩
          have HB2 := Lib.hid (HB.out.trans (hb1.mono HB.out.size))
          clear hb1
          go_wp2
          go_roundw
          case rel => exact ⟨k + 1, by omega, by go_num, hnew, HB2.out⟩
          case measure => simp [intOf]; omega
        · have hfin := Lib.hid (hno.out he)
          rw [decide_eq_false he] at CS
          have HC := Lib.hid CS
          have HB := Lib.hid hbB
          clear hyes hno he hall ok ok2 hK gK s1 s3 CS hba hbB hK2 gK2
          generalize hs[k].p = n at *
          generalize ks[k].p = n2 at *
          generalize hs[k].ls.length = o1 at *
          generalize ks[k].ls.length = o2 at *
          generalize hs[k].d = e1 at *
          generalize ks[k].d = e2 at *
          generalize hs[k].a = x1 at *
          generalize hs[k].c = x3 at *
          generalize ks[k].a = y1 at *
          generalize ks[k].c = y3 at *
          go_wp2_with fail
          refine HC.out.mono ?_
          rintro e w1 ⟨rfl, hb1⟩
          have HB2 := Lib.hid (HB.out.trans (hb1.mono HB.out.size))
          clear hb1
          go_wp2
          go_ret
          rw [HD.out, hfin.out]
          exact ⟨rfl, HB2.out⟩
      · have hk2 : k = hs.length := by omega
        subst hk2
        have hyes : Hid (decide (fkeys hs = fkeys ks) = true) := by
          show _ = _
          rw [decide_eq_true_eq]
          refine List.ext_getElem (by simp [fkeys]; exact Hl.out) fun j h1 h2 => ?_
          simp only [fkeys, List.getElem_map]
          simp only [fkeys, List.length_map] at h1 h2
          exact hall.out j h1 h2 h1
        clear hall
        go_wp2
        go_ret
        rw [HD.out, hyes.out]
        exact ⟨rfl, hb⟩
  · have hno : Hid (decide (fkeys hs = fkeys ks) = false) := by
      show _ = _
      rw [decide_eq_false_iff_not]
      intro h
      have := congrArg List.length h
      simp [fkeys] at this
      exact hl this
    have hb1 : (((hs.length : Int)) != (ks.length : Int)) = true := by simp; omega
    clear hk gk
    go_enter Tryz.func36, Tryz.ntmps36
    go_wp2
    go_ret
    rw [HD.out, hno.out]
    exact ⟨rfl, Below.refl _ _⟩
end Go.Proofs.YtalabahjfmcnbaaGreatDoor
namespace Go.Proofs.YtalabahjfmcnbaaGreatDoor
open Go.RowKit
set_option linter.unusedVariables false

section
variable {w : World} {A : Option Addr} {n c : Nat} {ks : List PF} {fs : List Fm}
theorem TreeIs.fl (h : TreeIs w A n c ks fs) : fs.length = ks.length := by rw [← h.keys, fkeys_len]
end
set_option maxHeartbeats 2000000 in
set_option maxRecDepth 100000 in
theorem get_any (B : Option Addr) (n c : Nat) (ks : List PF) (p : ByteArray) (w : World) (h : TrC w B n c ks) (hk : ks.length ≤ 400) : Calls Tryz.prog 94 #[.agg #[.slice B n c], .string p] w (FileLeft w (ks.find? fun k => decide (k.1 = p.data.toList))) := by
  obtain ⟨fs, h⟩ := h
  have hfl := h.fl
  have hlen := h.len
  subst hlen
  have hal : Below w.heap.size w ((w.alloc (.cells #[.slice B fs.length c] 43)).alloc (.cells #[.string ⟨#[]⟩, .bool false, .slice none 0 0] 62)) := ((Below.refl _ _).alloc (Nat.le_refl _) _).alloc (by simp) _
  have hT : TAt ((w.alloc (.cells #[.slice B fs.length c] 43)).alloc (.cells #[.string ⟨#[]⟩, .bool false, .slice none 0 0] 62)) w.heap.size B fs.length c := (TAt.new_ w B fs.length c).on ((Below.refl _ _).alloc (Nat.le_refl _) _)
  have hF : FileAt ((w.alloc (.cells #[.slice B fs.length c] 43)).alloc (.cells #[.string ⟨#[]⟩, .bool false, .slice none 0 0] 62)) (w.heap.size + 1) Fm.zero := by
    have h := FileAt.new_ (w.alloc (.cells #[.slice B fs.length c] 43)) Fm.zero
    exact (by simpa using h : FileAt _ (w.heap.size + 1) Fm.zero)
  have C0 := look_c B fs c p _ (h.row.on hal) (by omega)
  have hfind := key_find fs p
  rw [h.keys] at hfind
  rw [hfind]
  obtain ⟨o, ho⟩ : ∃ o, foundF fs p = o := ⟨_, rfl⟩
  rw [show (fs.find? fun f => decide (f.p = p)) = o from ho]
  unfold FoundLeft at C0
  rw [ho] at C0
  have C := Lib.hid C0
  have HO := Lib.hid ho
  clear C0 ho
  have HOK : Hid (∀ f ∈ fs, f.Ok w w.heap.size) := h.row.ok
  have HLS := Lib.hid h.lines
  have HA := Lib.hid hal
  have HF := Lib.hid hF
  clear h hal hT hF hfl hfind
  go_enter Tryz.func94, Tryz.ntmps94
  go_wp2_with fail
  generalize ((w.alloc (.cells #[.slice B fs.length c] 43)).alloc (.cells #[.string ⟨#[]⟩, .bool false, .slice none 0 0] 62)) = wa at *
  refine C.out.mono ?_
  rintro e w1 ⟨f, rfl, hf, hb1⟩
  have hb1' := HA.out.trans (hb1.mono HA.out.size)
  have hokf : f.Ok w1 w1.heap.size := by rw [hf.out, ← HO.out]; exact found_ok fun g hg => (HOK.out g hg).on hb1'
  have hlsf : f.ls.length ≤ 1000000 := by
    rw [hf.out, ← HO.out]
    unfold foundF
    cases hq : fs.find? fun f => decide (f.p = p) with
    | none => simp [Fm.zero]
    | some g => exact Nat.le_trans (HLS.out g (List.mem_of_find?_eq_some hq)) (by decide)
  have HKEY : Hid (∀ g, o = some g → g = f) := fun g hg => by rw [hf.out, hg]; rfl
  have hal2 : Below w1.heap.size w1 (w1.alloc (.cells #[.string f.p, .bool f.d, .slice f.a f.ls.length f.c] 62)) := (Below.refl _ _).alloc (Nat.le_refl _) _
  have CC := Lib.hid (tcopied_any f.a f.ls f.c _ (hokf.on hal2).ls hokf.r hlsf)
  have HF1 := Lib.hid ((HF.out.on hb1).on hal2)
  have HFA := Lib.hid (FileAt.new_ w1 f)
  have HA2 := Lib.hid hal2
  have HB1 := Lib.hid (hb1'.trans (hal2.mono hb1'.size))
  have HGs : Hid (w.heap.size + 1 < w1.heap.size) := Nat.lt_of_lt_of_le HF.out.lt hb1.size
  clear hb1 hb1' hokf hlsf hal2 hf C HF
  go_wp2_with fail
  refine CC.out.mono ?_
  rintro e w2 ⟨A2, c2, rfl, ho2, hb2⟩
  have hFA2 := HFA.out.on hb2
  have hF2 := HF1.out.on hb2
  have f0 := hFA2.c0
  have f1 := hFA2.c1
  have f2 := hFA2.c2
  have z2 := hFA2.fz 2
  have hB2 := HB1.out.trans (hb2.mono HB1.out.size)
  have hgr := grown_cell w2 w1.heap.size 2 (.slice A2 f.ls.length c2)
  have hF3 : FileAt (w2.setCell ⟨w1.heap.size, 2, none⟩ (.slice A2 f.ls.length c2)) (w.heap.size + 1) Fm.zero := (hgr.block _ hF2.lt (by have := HGs.out; simp; omega)).trans hF2
  have g0 := hF3.c0
  have g1 := hF3.c1
  have g2 := hF3.c2
  have y0 := hF3.fz 0
  have y1 := hF3.fz 1
  have y2 := hF3.fz 2
  unfold Fm.zero at g0 g1 g2
  simp only [] at g0 g1 g2
  have hB3 : Below w.heap.size w (w2.setCell ⟨w1.heap.size, 2, none⟩ (.slice A2 f.ls.length c2)) := below_set hB2 (by have := HGs.out; omega) hB2.size
  have hSep2 : Fm.Sep ⟨f.p, f.d, A2, c2, f.ls⟩ w2 := ⟨⟨ho2.at_.1, ho2.at_.2.1⟩, ho2.blk⟩
  have hSep3 := hSep2.grown hFA2 (by decide) hgr
  have HS4 := Lib.hid (hSep3.grown hF3 (by decide) (setFile_grown _ (w.heap.size + 1) ⟨f.p, f.d, A2, c2, f.ls⟩))
  have HB4 := Lib.hid (below_file (g := w.heap.size + 1) ⟨f.p, f.d, A2, c2, f.ls⟩ hB3 (Nat.le_succ _) hB3.size)
  have HF4 := Lib.hid (setFile_at hF3 ⟨f.p, f.d, A2, c2, f.ls⟩)
  clear hFA2 hF2 hB2 hgr hF3 hB3 hSep2 hSep3 ho2 hb2 HFA HF1 CC
  generalize hb : o.isSome = b at *
  have HB := Lib.hid hb
  clear hb
  go_wp2
  (try simp only [Exit.inBlock, Exit.then])
  refine bodyPost_ret (ret_file2 rfl _ _ _ ⟨f.p, f.d, A2, c2, f.ls⟩ (.bool b) rfl rfl HF4.out) rfl ?_
  refine ⟨⟨f.p, f.d, A2, c2, f.ls⟩, by rw [Option.isSome_map, HB.out]; rfl, ⟨HS4.out.1, fun k hk => ?_⟩, HB4.out⟩
  cases ho : o with
  | none => rw [ho] at hk; cases hk
  | some g =>
    rw [ho] at hk
    have := HKEY.out g ho
    rw [Option.map_some, Option.some.injEq, this] at hk
    rw [← hk]
    rfl
set_option maxHeartbeats 2000000 in
set_option maxRecDepth 100000 in
theorem tsame_any (B : Option Addr) (n c : Nat) (ks : List PF) (B2 : Option Addr) (n2 c2 : Nat) (js : List PF) (w : World) (h : TrC w B n c ks) (g : TrC w B2 n2 c2 js) (hk : ks.length ≤ 400) (hj : js.length ≤ 400) : Calls Tryz.prog 18 #[.agg #[.slice B n c], .agg #[.slice B2 n2 c2]] w fun e w' => e = .returned (.bool (decide (ks = js))) ∧ Below w.heap.size w w' := by
  obtain ⟨fs, h⟩ := h
  obtain ⟨gs, g⟩ := g
  have hfl := h.fl
  have hgl := g.fl
  have hlen := h.len
  have glen := g.len
  subst hlen
  subst glen
  have hal : Below w.heap.size w ((w.alloc (.cells #[.slice B fs.length c] 43)).alloc (.cells #[.slice B2 gs.length c2] 43)) := ((Below.refl _ _).alloc (Nat.le_refl _) _).alloc (by simp) _
  have C := Lib.hid (fequal_any B B2 fs gs c c2 _ (decide (ks = js)) (by rw [h.keys, g.keys]) (h.row.on hal) (g.row.on hal) ⟨by omega, fun f hf => Nat.le_trans (h.lines f hf) (by decide)⟩ ⟨by omega, fun f hf => Nat.le_trans (g.lines f hf) (by decide)⟩)
  have HA := Lib.hid hal
  generalize decide (ks = js) = d at *
  clear h g hal hfl hgl
  go_enter Tryz.func18, Tryz.ntmps18
  go_wp2_with fail
  refine C.out.mono ?_
  rintro e w1 ⟨rfl, hb⟩
  have HB := Lib.hid (HA.out.trans (hb.mono HA.out.size))
  clear hb
  go_wp2
  go_ret
  exact ⟨rfl, HB.out⟩
end Go.Proofs.YtalabahjfmcnbaaGreatDoor
namespace Go.Proofs.YtalabahjfmcnbaaGreatDoor
open Go.RowKit
set_option linter.unusedVariables false

theorem in_any (p : ByteArray) (w : World) : Calls Tryz.prog 161 #[.string p] w fun e w' => e = .returned (.func (.func 176) #[] #[.pointer (some ⟨w.heap.size, 0, none⟩)]) ∧ w' = w.alloc (.cells #[.string p] 9) := by
  go_enter Tryz.func161, Tryz.ntmps161
  go_wp2
  go_ret
  exact ⟨rfl, rfl⟩
set_option maxHeartbeats 1000000 in
set_option maxRecDepth 100000 in
theorem in1_any (B : Nat) (p q : ByteArray) (d : Bool) (a : Option Addr) (n c : Nat) (w : World) (hB : B < w.heap.size) (hc : w.cell? ⟨B, 0, none⟩ = some (.string p)) (hq : q.size ≤ 100000) (r : Bool) (hr : decide (updir q = p) = r) :
    Calls Tryz.prog 176 #[.agg #[.string q, .bool d, .slice a n c], .pointer (some ⟨B, 0, none⟩)] w fun e w' => e = .returned (.bool r) ∧ Below w.heap.size w w' := by
  have hb : Below w.heap.size w (w.alloc (.cells #[.string q, .bool d, .slice a n c] 62)) := (Below.refl _ _).alloc (Nat.le_refl _) _
  have CD := Lib.hid (fun W => dir_c q W hq)
  obtain ⟨u, hu⟩ : ∃ u, updir q = u := ⟨_, rfl⟩
  rw [hu] at hr
  have hu2 : toB (dirP nameP q.data.toList) = u := hu
  rw [hu2] at CD
  have hs : (u.toList == p.toList) = r := by rw [str_beq]; exact hr
  have b0 := (hb.cell (p := ⟨B, 0, none⟩) hB).trans hc
  have hnew := World.cell?_alloc_new w #[.string q, .bool d, .slice a n c] 62 0
  have q0 : (w.alloc (.cells #[.string q, .bool d, .slice a n c] 62)).cell? ⟨w.heap.size, 0, none⟩ = some (.string q) := hnew
  have HB := Lib.hid hb
  clear hb hr hu hu2 hnew hc
  go_enter Tryz.func176, Tryz.ntmps176
  go_wp2_with fail
  generalize (w.alloc (.cells #[.string q, .bool d, .slice a n c] 62)) = wa at *
  go_region_held3 (fun w' => w'.cell? ⟨w.heap.size, 0, none⟩ = some (.string q) ∧ w'.cell? ⟨B, 0, none⟩ = some (.string p)) (first | exact ⟨q0, b0⟩ | exact ⟨cell_on2 q0 hb7, cell_on2 b0 hb7⟩ | (go_keep; done)) (first | (go_at_call 86; refine (CD.out _).mono ?_; rintro e w7 ⟨rfl, hb7⟩))
  have HB8 := Lib.hid (HB.out.trans ((below_dr hb7).mono HB.out.size))
  clear hb7 q0 b0 CD
  go_wp2
  go_ret
  exact ⟨rfl, HB8.out⟩
def pathsIn (fs : List Fm) (p : ByteArray) : List (List UInt8) := (fs.filter fun f => decide (updir f.p = p)).map fun f => f.p.data.toList
theorem pathsIn_take (fs : List Fm) (p : ByteArray) (k : Nat) (h : k < fs.length) : pathsIn (fs.take (k + 1)) p = pathsIn (fs.take k) p ++ if decide (updir fs[k].p = p) = true then [fs[k].p.data.toList] else [] := by
  unfold pathsIn
  rw [List.take_succ_eq_append_getElem h, List.filter_append, List.map_append]
  congr 1
  by_cases hd : updir fs[k].p = p <;> simp [hd]
theorem inK_paths (fs : List Fm) (p : ByteArray) : inK (fkeys fs) p.data.toList = pathsIn fs p := by
  unfold inK pathsIn fkeys
  rw [List.filter_map, List.map_map]
  have e : (fun k : PF => decide (dirP nameP k.1 = p.data.toList)) ∘ Fm.key = fun f => decide (updir f.p = p) := by
    funext f
    simp only [Function.comp]
    rw [decide_eq_decide]
    unfold updir
    constructor
    · intro h
      apply bytes_inj
      rw [of_toB]
      exact h
    · intro h
      have := congrArg (fun s : ByteArray => s.data.toList) h
      simp only [of_toB] at this
      exact this
  rw [e]
  rfl
theorem pathsIn_len (fs : List Fm) (p : ByteArray) : (pathsIn fs p).length ≤ fs.length := by
  unfold pathsIn
  rw [List.length_map]
  exact List.length_filter_le _ _
set_option maxHeartbeats 4000000 in
set_option maxRecDepth 100000 in
theorem tin_any (B : Option Addr) (n c : Nat) (ks : List PF) (p : ByteArray) (w : World) (h : TrC w B n c ks) (hk : ks.length ≤ 400) : Calls Tryz.prog 140 #[.agg #[.slice B n c], .string p] w (RowLeft w (inK ks p.data.toList)) := by
  obtain ⟨fs, h⟩ := h
  have hfl := h.fl
  have hlen := h.len
  subst hlen
  rw [← h.keys, inK_paths]
  have hal : Below w.heap.size w (w.alloc (.cells #[.slice B fs.length c] 43)) := (Below.refl _ _).alloc (Nat.le_refl _) _
  have HS := Lib.hid (h.row.on hal)
  have HT := Lib.hid (TAt.new_ w B fs.length c)
  have HP := Lib.hid h.paths
  have HA := Lib.hid hal
  have hfn : fs.length ≤ 400 := by omega
  clear h hal hfl hk
  go_enter Tryz.func140, Tryz.ntmps140
  go_wp2_with fail
  generalize (w.alloc (.cells #[.slice B fs.length c] 43)) = wa at *
  refine (in_any p wa).mono ?_
  rintro e w1 ⟨rfl, rfl⟩
  have hal1 : Below wa.heap.size wa (wa.alloc (.cells #[.string p] 9)) := (Below.refl _ _).alloc (Nat.le_refl _) _
  have t0 := (HT.out.on hal1).c0
  have hc1 := World.cell?_alloc_new wa #[.string p] 9 0
  have HC1 : Hid ((wa.alloc (.cells #[.string p] 9)).cell? ⟨wa.heap.size, 0, none⟩ = some (.string p)) := hc1
  have HA1 := Lib.hid hal1
  have HL1 : Hid (wa.heap.size < (wa.alloc (.cells #[.string p] 9)).heap.size) := by show _ < _; simp
  clear hal1 hc1
  go_wp2_with fail
  generalize (wa.alloc (.cells #[.string p] 9)) = wb at *
  go_wp2
  go_loopw [6, 14] (fun s6 s14 wr => ∃ (k : Nat) (A' : Option Addr) (n c : Nat), k ≤ fs.length ∧ s6 = .slice A' n c ∧ s14 = .int .i64 (k : Int) ∧ Hid (OwnS wr wb.heap.size (.slice A' n c) (pathsIn (fs.take k) p) ∧ Below wb.heap.size wb wr)) (fun _ s14 _ => fs.length - (intOf s14).toNat)
  case atStart => exact ⟨0, none, 0, 0, Nat.zero_le _, rfl, rfl, OwnS.nil _ _, Below.refl _ _⟩
  case round =>
    obtain ⟨k, A1, n1, c1, hk2, rfl, rfl, HI⟩ := hrel
    by_cases hlt : k < fs.length
    · have hS := (HS.out.on HA1.out).on HI.out.2
      obtain ⟨b, off, e, bl, h1, h2, h3⟩ := hS.get hlt
      subst e
      have hpz := HP.out fs[k] (List.getElem_mem _)
      have hnext := pathsIn_take fs p k hlt
      have hbB := (HI.out.2.cell (p := ⟨wa.heap.size, 0, none⟩) HL1.out).trans HC1.out
      generalize fs[k] = f at *
      have hal2 : Below wr.heap.size wr (wr.alloc (.cells #[.string f.p, .bool f.d, .slice f.a f.ls.length f.c] 62)) := (Below.refl _ _).alloc (Nat.le_refl _) _
      have hBl : wa.heap.size < wr.heap.size := Nat.lt_of_lt_of_le HL1.out HI.out.2.size
      have CI := fun (r : Bool) (hr : decide (updir f.p = p) = r) => in1_any wa.heap.size p f.p f.d f.a f.ls.length f.c (wr.alloc (.cells #[.string f.p, .bool f.d, .slice f.a f.ls.length f.c] 62)) (Nat.lt_of_lt_of_le hBl hal2.size) ((hal2.cell (p := ⟨wa.heap.size, 0, none⟩) hBl).trans hbB) (by omega) r hr
      have HFA := Lib.hid (FileAt.new_ wr f)
      have HA2 := Lib.hid hal2
      cases hd : decide (updir f.p = p) with
      | false =>
        have C := Lib.hid (CI false hd)
        rw [hd, if_neg (by simp), List.append_nil] at hnext
        have HN := Lib.hid hnext
        clear CI hd hnext hS hpz hbB hal2 hBl
        go_wp2_with fail
        refine C.out.mono ?_
        rintro e w2 ⟨rfl, hb2⟩
        have hbb := HA2.out.trans (hb2.mono HA2.out.size)
        have HN2 : Hid (OwnS w2 wb.heap.size (.slice A1 n1 c1) (pathsIn (fs.take (k + 1)) p) ∧ Below wb.heap.size wb w2) := by
          show _ ∧ _
          rw [HN.out]
          exact ⟨HI.out.1.kept hbb, HI.out.2.trans (hbb.mono HI.out.2.size)⟩
        clear hb2 hbb
        go_wp2
        go_roundw
        case rel => exact ⟨k + 1, A1, n1, c1, by omega, rfl, by go_num, HN2.out⟩
        case measure => simp [intOf]; omega
      | true =>
        have C := Lib.hid (CI true hd)
        rw [hd, if_pos rfl] at hnext
        have HN := Lib.hid hnext
        have hple := pathsIn_len (fs.take k) p
        rw [List.length_take] at hple
        have HLE : Hid ((pathsIn (fs.take k) p).length + [f.p.data.toList].length ≤ 1000000) := by show _ ≤ _; simp; omega
        obtain ⟨n3, hn3⟩ : ∃ n3, n3 = (pathsIn (fs.take k) p).length + [f.p.data.toList].length := ⟨_, rfl⟩
        have HN3 := Lib.hid hn3
        clear CI hd hnext hS hpz hbB hal2 hBl hple hn3
        go_wp2_with fail
        refine C.out.mono ?_
        rintro e w2 ⟨rfl, hb2⟩
        have hbb := HA2.out.trans (hb2.mono HA2.out.size)
        have f0 := (HFA.out.on hb2).c0
        have hal3 : Below w2.heap.size w2 (w2.alloc (.cells #[.string f.p] 9)) := (Below.refl _ _).alloc (Nat.le_refl _) _
        have HO3 := Lib.hid ((HI.out.1.kept hbb).kept hal3)
        have HB3 := Lib.hid (HI.out.2.trans ((hbb.trans (hal3.mono hbb.size)).mono HI.out.2.size))
        have HST := Lib.hid (strs_one w2 f.p)
        clear hb2 hbb hal3
        go_wp2_with (at_builtin; refine wpList_append_row rfl _ _ rfl wb.heap.size (.slice A1 n1 c1) (pathsIn (fs.take k) p) [f.p.data.toList] rfl HO3.out (some ⟨w2.heap.size, 0, none⟩) 1 1 rfl rfl (fun h => by cases h) HST.out HB3.out.size HLE.out n3 HN3.out ?_)
        intro A5 c5 w5 ho5 hs5 hg5
        have HN2 : Hid (OwnS w5 wb.heap.size (.slice A5 n3 c5) (pathsIn (fs.take (k + 1)) p) ∧ Below wb.heap.size wb w5) := by
          show _ ∧ _
          rw [HN.out]
          exact ⟨ho5, below_append HB3.out HO3.out hg5 (Nat.le_refl _)⟩
        clear ho5 hs5 hg5
        go_wp2
        go_roundw
        case rel => exact ⟨k + 1, A5, n3, c5, by omega, rfl, by go_num, HN2.out⟩
        case measure => simp [intOf]; omega
    · have hke : k = fs.length := by omega
      subst hke
      have hfin := HI.out
      rw [List.take_length] at hfin
      have HF := Lib.hid hfin
      have HB2 := Lib.hid (HA.out.trans ((HA1.out.trans (hfin.2.mono HA1.out.size)).mono HA.out.size))
      clear hfin
      go_wp2
      go_ret
      exact own_row ⟨_, rfl, HF.out.1.more (Nat.le_trans HA.out.size HA1.out.size), HB2.out⟩
end Go.Proofs.YtalabahjfmcnbaaGreatDoor
