
/- The statements of layer 6, over what package tree's calls are to do: a call of a tree. -/
import Derived.Test.YtcjiipmageddhaaDoorTreeAwake
import Derived.Laws.Rows
import Derived.Laws.ResultCell
namespace Go.Proofs.YtcjiipmageddhaaDoor
open Go.RowKit
set_option linter.unusedVariables false

theorem doK0 (ks : List PF) (p q : List UInt8) (ls : List (List UInt8)) (ck : Int) : doK ks 0 p q ls ck = doK ks 0 p [] [] 0 := by simp [doK]
theorem doK1 (ks : List PF) (p q : List UInt8) (ls : List (List UInt8)) (ck : Int) : doK ks 1 p q ls ck = doK ks 1 p [] ls ck := by simp [doK]
theorem doK2 (ks : List PF) (p q : List UInt8) (ls : List (List UInt8)) (ck : Int) : doK ks 2 p q ls ck = doK ks 2 p [] [] 0 := by simp [doK]
theorem doK3 (ks : List PF) (kind : Int) (p q : List UInt8) (ls : List (List UInt8)) (ck : Int) (h : kind < 0 ∨ 2 < kind) : doK ks kind p q ls ck = doK ks 3 p q [] 0 := by
  have h0 : ¬ kind = 0 := by omega
  have h1 : ¬ kind = 1 := by omega
  have h2 : ¬ kind = 2 := by omega
  simp [doK, h, h0, h1, h2]
set_option maxHeartbeats 4000000 in
set_option maxRecDepth 100000 in
theorem lawdo_any {Tr : World → Option Addr → Nat → Nat → List PF → Prop} (T : TreeC Tr) (B : Option Addr) (n c : Nat) (ks : List PF) (kind : Int) (p q : ByteArray) (ca : Option Addr) (cc : Nat) (cls : List (List UInt8)) (er : Int) (res : List PF) (w : World) (hTr : Tr w B n c ks) (hk : ks.length ≤ 100) (hp : p.size ≤ 1000) (hq : q.size ≤ 1000) (hs : Strs w w.heap.size ca (toBs cls)) (hr : Room ca cls.length cc) (hl : LightK cls) (hT : Tabs w)
    (hd : doK ks kind p.data.toList q.data.toList cls (checkN (toBs cls)) = (er, res)) :
    Calls Tryd.prog 6 #[.agg #[.slice B n c], .agg #[.int .i64 kind, .string p, .string q, .slice ca cls.length cc]] w (TreeLeft Tr w er res) := by
  have hal : Below w.heap.size w (((w.alloc (.cells #[.slice B n c] 25)).alloc (.cells #[.int .i64 kind, .string p, .string q, .slice ca cls.length cc] 29)).alloc (.cells #[.slice none 0 0] 25)) := (((Below.refl _ _).alloc (Nat.le_refl _) _).alloc (by simp) _).alloc (by simp; omega) _
  by_cases h0 : kind = 0
  · skip
    subst h0
    rw [doK0] at hd
    have C := Lib.hid (T.mkdir B n c ks p er res _ (T.on hTr hal) hk hp hd)
    have HA := Lib.hid hal
    have HR0 : Hid (TAt (((w.alloc (.cells #[.slice B n c] 25)).alloc (.cells #[.int .i64 0, .string p, .string q, .slice ca cls.length cc] 29)).alloc (.cells #[.slice none 0 0] 25)) (w.heap.size + 1 + 1) none 0 0) := by
      have h := TAt.new_ ((w.alloc (.cells #[.slice B n c] 25)).alloc (.cells #[.int .i64 0, .string p, .string q, .slice ca cls.length cc] 29)) none 0 0
      exact (by simpa using h : TAt _ (w.heap.size + 1 + 1) none 0 0)
    clear hd hal hs hr hl hT hTr
    go_enter Tryd.func6, Tryd.ntmps6
    go_wp2_with fail
    refine C.out.mono ?_
    rintro e w2 ⟨B2, n2, c2, rfl, ht, hb⟩
    have HB := Lib.hid (HA.out.trans (hb.mono HA.out.size))
    have hR2 := HR0.out.on hb
    have x0 := hR2.c0
    have x1 := hR2.fz 0
    have hfin : Hid (TreeLeft Tr w er res (.returned (.tuple #[.agg #[.slice B2 n2 c2], .int .i64 er])) (w2.setCell ⟨w.heap.size + 1 + 1, 0, none⟩ (.slice B2 n2 c2))) :=
      ⟨B2, n2, c2, rfl, ⟨fun h => T.set (ht.out.1 h) hR2 (grown_cell _ _ _ _), fun h => T.set (ht.out.2 h) hR2 (grown_cell _ _ _ _)⟩, below_set (i := 0) HB.out (by omega) HB.out.size⟩
    have HS2 := Lib.hid (hR2.set B2 n2 c2)
    clear hb ht HR0 C
    go_wp2
    (try simp only [Exit.inBlock, Exit.then])
    refine bodyPost_ret (ret_tree2 rfl _ _ _ B2 n2 c2 _ rfl rfl HS2.out) rfl ?_
    exact hfin.out
  · by_cases h1 : kind = 1
    · skip
      subst h1
      rw [doK1] at hd
      have C := Lib.hid (T.write B n c ks p ca cls cc er res _ (T.on hTr hal) hk hp (hs.on hal) hr hl (Tabs.on hT hal) hd)
      have HA := Lib.hid hal
      have HR0 : Hid (TAt (((w.alloc (.cells #[.slice B n c] 25)).alloc (.cells #[.int .i64 1, .string p, .string q, .slice ca cls.length cc] 29)).alloc (.cells #[.slice none 0 0] 25)) (w.heap.size + 1 + 1) none 0 0) := by
        have h := TAt.new_ ((w.alloc (.cells #[.slice B n c] 25)).alloc (.cells #[.int .i64 1, .string p, .string q, .slice ca cls.length cc] 29)) none 0 0
        exact (by simpa using h : TAt _ (w.heap.size + 1 + 1) none 0 0)
      clear hd hal hs hr hl hT hTr
      go_enter Tryd.func6, Tryd.ntmps6
      go_wp2_with fail
      refine C.out.mono ?_
      rintro e w2 ⟨B2, n2, c2, rfl, ht, hb⟩
      have HB := Lib.hid (HA.out.trans (hb.mono HA.out.size))
      have hR2 := HR0.out.on hb
      have x0 := hR2.c0
      have x1 := hR2.fz 0
      have hfin : Hid (TreeLeft Tr w er res (.returned (.tuple #[.agg #[.slice B2 n2 c2], .int .i64 er])) (w2.setCell ⟨w.heap.size + 1 + 1, 0, none⟩ (.slice B2 n2 c2))) :=
        ⟨B2, n2, c2, rfl, ⟨fun h => T.set (ht.out.1 h) hR2 (grown_cell _ _ _ _), fun h => T.set (ht.out.2 h) hR2 (grown_cell _ _ _ _)⟩, below_set (i := 0) HB.out (by omega) HB.out.size⟩
      have HS2 := Lib.hid (hR2.set B2 n2 c2)
      clear hb ht HR0 C
      go_wp2
      (try simp only [Exit.inBlock, Exit.then])
      refine bodyPost_ret (ret_tree2 rfl _ _ _ B2 n2 c2 _ rfl rfl HS2.out) rfl ?_
      exact hfin.out
    · by_cases h2 : kind = 2
      · skip
        subst h2
        rw [doK2] at hd
        have C := Lib.hid (T.remove B n c ks p er res _ (T.on hTr hal) hk hp hd)
        have HA := Lib.hid hal
        have HR0 : Hid (TAt (((w.alloc (.cells #[.slice B n c] 25)).alloc (.cells #[.int .i64 2, .string p, .string q, .slice ca cls.length cc] 29)).alloc (.cells #[.slice none 0 0] 25)) (w.heap.size + 1 + 1) none 0 0) := by
          have h := TAt.new_ ((w.alloc (.cells #[.slice B n c] 25)).alloc (.cells #[.int .i64 2, .string p, .string q, .slice ca cls.length cc] 29)) none 0 0
          exact (by simpa using h : TAt _ (w.heap.size + 1 + 1) none 0 0)
        clear hd hal hs hr hl hT hTr
        go_enter Tryd.func6, Tryd.ntmps6
        go_wp2_with fail
        refine C.out.mono ?_
        rintro e w2 ⟨B2, n2, c2, rfl, ht, hb⟩
        have HB := Lib.hid (HA.out.trans (hb.mono HA.out.size))
        have hR2 := HR0.out.on hb
        have x0 := hR2.c0
        have x1 := hR2.fz 0
        have hfin : Hid (TreeLeft Tr w er res (.returned (.tuple #[.agg #[.slice B2 n2 c2], .int .i64 er])) (w2.setCell ⟨w.heap.size + 1 + 1, 0, none⟩ (.slice B2 n2 c2))) :=
          ⟨B2, n2, c2, rfl, ⟨fun h => T.set (ht.out.1 h) hR2 (grown_cell _ _ _ _), fun h => T.set (ht.out.2 h) hR2 (grown_cell _ _ _ _)⟩, below_set (i := 0) HB.out (by omega) HB.out.size⟩
        have HS2 := Lib.hid (hR2.set B2 n2 c2)
        clear hb ht HR0 C
        go_wp2
        (try simp only [Exit.inBlock, Exit.then])
        refine bodyPost_ret (ret_tree2 rfl _ _ _ B2 n2 c2 _ rfl rfl HS2.out) rfl ?_
        exact hfin.out
      · have h3 : kind < 0 ∨ 2 < kind := by omega
        rw [doK3 _ _ _ _ _ _ h3] at hd
        have C := Lib.hid (T.move B n c ks p q er res _ (T.on hTr hal) hk hp hq hd)
        have HA := Lib.hid hal
        have HR0 : Hid (TAt (((w.alloc (.cells #[.slice B n c] 25)).alloc (.cells #[.int .i64 kind, .string p, .string q, .slice ca cls.length cc] 29)).alloc (.cells #[.slice none 0 0] 25)) (w.heap.size + 1 + 1) none 0 0) := by
          have h := TAt.new_ ((w.alloc (.cells #[.slice B n c] 25)).alloc (.cells #[.int .i64 kind, .string p, .string q, .slice ca cls.length cc] 29)) none 0 0
          exact (by simpa using h : TAt _ (w.heap.size + 1 + 1) none 0 0)
        clear hd hal hs hr hl hT hTr
        go_enter Tryd.func6, Tryd.ntmps6
        go_wp2_with fail
        refine C.out.mono ?_
        rintro e w2 ⟨B2, n2, c2, rfl, ht, hb⟩
        have HB := Lib.hid (HA.out.trans (hb.mono HA.out.size))
        have hR2 := HR0.out.on hb
        have x0 := hR2.c0
        have x1 := hR2.fz 0
        have hfin : Hid (TreeLeft Tr w er res (.returned (.tuple #[.agg #[.slice B2 n2 c2], .int .i64 er])) (w2.setCell ⟨w.heap.size + 1 + 1, 0, none⟩ (.slice B2 n2 c2))) :=
          ⟨B2, n2, c2, rfl, ⟨fun h => T.set (ht.out.1 h) hR2 (grown_cell _ _ _ _), fun h => T.set (ht.out.2 h) hR2 (grown_cell _ _ _ _)⟩, below_set (i := 0) HB.out (by omega) HB.out.size⟩
        have HS2 := Lib.hid (hR2.set B2 n2 c2)
        clear hb ht HR0 C
        go_wp2
        (try simp only [Exit.inBlock, Exit.then])
        refine bodyPost_ret (ret_tree2 rfl _ _ _ B2 n2 c2 _ rfl rfl HS2.out) rfl ?_
        exact hfin.out
end Go.Proofs.YtcjiipmageddhaaDoor
