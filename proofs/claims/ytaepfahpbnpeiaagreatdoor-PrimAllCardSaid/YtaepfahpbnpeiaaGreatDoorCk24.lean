/- The reference's Hunks of layer 4: the walk through both lists. -/
import Derived.Test.YtaepfahpbnpeiaaGreatDoorCk23
import Derived.Test.YtaepfahpbnpeiaaGreatDoorCk21
import Derived.Test.YtaepfahpbnpeiaaGreatDoorCk22
namespace Go.Proofs.YtaepfahpbnpeiaaGreatDoor
open Go.RowKit
set_option linter.unusedVariables false

section
variable {la lc : List (List UInt8)} {f i k : Nat} {h : Hk (List UInt8)}
theorem walk_same (hi : i < la.length) (hk : k < lc.length) (he : la[i] = lc[k]) (hf : la.length - i + (lc.length - k) ≤ f) : walk f i (la.drop i) (lc.drop k) h = flush h (walk (f - 1) (i + 1) (la.drop (i + 1)) (lc.drop (k + 1)) ⟨i + 1, [], []⟩) := by
  obtain ⟨f', rfl⟩ : ∃ f', f = f' + 1 := ⟨f - 1, by omega⟩
  rw [List.drop_eq_getElem_cons hi, List.drop_eq_getElem_cons hk, walk, if_pos he]
  rfl
theorem walk_goes (hi : i < la.length) (hk : k < lc.length) (he : la[i] ≠ lc[k]) (hl : lcs (la.drop i) (lc.drop (k + 1)) ≤ lcs (la.drop (i + 1)) (lc.drop k)) (hf : la.length - i + (lc.length - k) ≤ f) :
    walk f i (la.drop i) (lc.drop k) h = walk (f - 1) (i + 1) (la.drop (i + 1)) (lc.drop k) ⟨h.at_, h.old ++ [la[i]], h.new⟩ := by
  obtain ⟨f', rfl⟩ : ∃ f', f = f' + 1 := ⟨f - 1, by omega⟩
  rw [List.drop_eq_getElem_cons hi, List.drop_eq_getElem_cons hk] at hl ⊢
  rw [walk, if_neg he, if_pos hl]
  rfl
theorem walk_comes (hi : i < la.length) (hk : k < lc.length) (he : la[i] ≠ lc[k]) (hl : ¬ lcs (la.drop i) (lc.drop (k + 1)) ≤ lcs (la.drop (i + 1)) (lc.drop k)) (hf : la.length - i + (lc.length - k) ≤ f) :
    walk f i (la.drop i) (lc.drop k) h = walk (f - 1) i (la.drop i) (lc.drop (k + 1)) ⟨h.at_, h.old, h.new ++ [lc[k]]⟩ := by
  obtain ⟨f', rfl⟩ : ∃ f', f = f' + 1 := ⟨f - 1, by omega⟩
  rw [List.drop_eq_getElem_cons hi, List.drop_eq_getElem_cons hk] at hl ⊢
  rw [walk, if_neg he, if_neg hl]
  rfl
theorem walk_goes' (hi : i < la.length) (hk : ¬ k < lc.length) (hf : la.length - i + (lc.length - k) ≤ f) :
    walk f i (la.drop i) (lc.drop k) h = walk (f - 1) (i + 1) (la.drop (i + 1)) (lc.drop k) ⟨h.at_, h.old ++ [la[i]], h.new⟩ := by
  obtain ⟨f', rfl⟩ : ∃ f', f = f' + 1 := ⟨f - 1, by omega⟩
  rw [List.drop_eq_getElem_cons hi, List.drop_of_length_le (Nat.le_of_not_lt hk), walk]
  rfl
theorem walk_comes' (hi : ¬ i < la.length) (hk : k < lc.length) (hf : la.length - i + (lc.length - k) ≤ f) :
    walk f i (la.drop i) (lc.drop k) h = walk (f - 1) i (la.drop i) (lc.drop (k + 1)) ⟨h.at_, h.old, h.new ++ [lc[k]]⟩ := by
  obtain ⟨f', rfl⟩ : ∃ f', f = f' + 1 := ⟨f - 1, by omega⟩
  rw [List.drop_eq_getElem_cons hk, List.drop_of_length_le (Nat.le_of_not_lt hi), walk]
  rfl
theorem walk_end (hi : ¬ i < la.length) (hk : ¬ k < lc.length) : walk f i (la.drop i) (lc.drop k) h = flush h [] := by
  rw [List.drop_of_length_le (Nat.le_of_not_lt hi), List.drop_of_length_le (Nat.le_of_not_lt hk)]
  cases f <;> rfl
end
theorem flush_empty {h : Hm} {l : List (Hk (List UInt8))} (h1 : h.old.length = 0) (h2 : h.new.length = 0) : flush h.plain l = l := by
  unfold flush
  rw [if_pos ⟨List.length_eq_zero_iff.1 h1, List.length_eq_zero_iff.1 h2⟩]
theorem flush_some {h : Hm} {l : List (Hk (List UInt8))} (h1 : h.old.length + h.new.length ≠ 0) : flush h.plain l = h.plain :: l := by
  unfold flush
  rw [if_neg]
  rintro ⟨e1, e2⟩
  exact h1 (by rw [show h.old = [] from e1, show h.new = [] from e2]; rfl)
theorem plains_snoc (hs : List Hm) (h : Hm) : plains (hs ++ [h]) = plains hs ++ [h.plain] := by simp [plains]

set_option maxHeartbeats 2000000 in
set_option maxRecDepth 100000 in
theorem refhunks_any (A A2 : Option Addr) (la lc : List (List UInt8)) (cap cap2 : Nat) (w : World) (hA : Strs w w.heap.size A (toBs la)) (hC : Strs w w.heap.size A2 (toBs lc)) (hn : la.length ≤ 10000) (hn2 : lc.length ≤ 10000) :
    Calls Tryz.prog 20 #[.slice A la.length cap, .slice A2 lc.length cap2] w (HunksTold w (hunks la lc)) := by
  have HA := Lib.hid hA
  have HC := Lib.hid hC
  clear hA hC
  go_enter Tryz.func20, Tryz.ntmps20
  go_wp2_with fail
  refine (refalike_any A A2 la lc cap cap2 w HA.out HC.out hn hn2).mono ?_
  rintro e w1 ⟨tv, rfl, htab, hb1⟩
  have HTAB := Lib.hid htab
  clear htab
  have hst0 : Walking (w1.alloc (.cells #[.int .i64 0, .slice none 0 0, .slice none 0 0] 55)) w1.heap.size (.slice none 0 0) [] ⟨0, none, 0, [], none, 0, []⟩ :=
    ⟨OwnH.nil _ _, HunkAt.new_ w1 ⟨0, none, 0, [], none, 0, []⟩, ⟨w1.heap.size + 1, fun x hx => (by cases hx), by simp, Nat.le_refl _, OwnS.nil _ _, OwnS.nil _ _⟩, fun k h => (by simp [Hm.v1, Value.ownBlock] at h), fun x hx => (by cases hx), fun x hx => (by cases hx), by decide, by decide⟩
  have hb0 : Below w1.heap.size w1 (w1.alloc (.cells #[.int .i64 0, .slice none 0 0, .slice none 0 0] 55)) := (Below.refl _ _).alloc (Nat.le_refl _) _
  have H0 := Lib.hid hst0
  clear hst0
  go_wp2
  go_loopw [6, 8, 9] (fun o iv kv wr => ∃ (i k f : Nat) (hs : List Hm) (h : Hm), iv = .int .i64 (i : Int) ∧ kv = .int .i64 (k : Int) ∧ i ≤ la.length ∧ k ≤ lc.length ∧ Hid (la.length - i + (lc.length - k) ≤ f) ∧ Hid (hunks la lc = plains hs ++ walk f i (la.drop i) (lc.drop k) h.plain) ∧
      Hid (Walking wr w1.heap.size o hs h) ∧ Hid (hs.length ≤ i + k) ∧ Hid (h.old.length ≤ i ∧ h.new.length ≤ k) ∧ Below w1.heap.size w1 wr) (fun _ iv kv _ => la.length + lc.length - ((intOf iv).toNat + (intOf kv).toNat))
  case atStart => exact ⟨0, 0, la.length + lc.length, [], ⟨0, none, 0, [], none, 0, []⟩, rfl, rfl, Nat.zero_le _, Nat.zero_le _, Nat.le_refl _, rfl, H0.out, Nat.le_refl _, ⟨Nat.le_refl _, Nat.le_refl _⟩, hb0⟩
  case round =>
    obtain ⟨i, k, f, hs, h, rfl, rfl, hi, hk, hf, hwalk, hst, hsl, hol, hb⟩ := hrel
    clear H0 hb0
    have hbw := hb1.trans (hb.mono hb1.size)
    have f0 := hst.out.at_.c0
    have f1 := hst.out.at_.c1
    have f2 := hst.out.at_.c2
    have g0 := hst.out.at_.f 0
    have g1 := hst.out.at_.f 1
    have g2 := hst.out.at_.f 2
    have ho1 := hol.out.1
    have ho2 := hol.out.2
    by_cases hia : i < la.length
    · by_cases hkb : k < lc.length
      · obtain ⟨b1, o1, hA1, _, k1⟩ := (HA.out.on hbw).at_ (k := i) (by rw [toBs_len]; exact hia)
        obtain ⟨b2, o2, hA2, _, k2⟩ := (HC.out.on hbw).at_ (k := k) (by rw [toBs_len]; exact hkb)
        subst hA1 hA2
        have e1 : (toBs la)[i]'(by rw [toBs_len]; exact hia) = toB la[i] := by simp [toBs]
        have e2 : (toBs lc)[k]'(by rw [toBs_len]; exact hkb) = toB lc[k] := by simp [toBs]
        rw [e1] at k1
        rw [e2] at k2
        have q1 : (i : Int) < (la.length : Int) := by omega
        have q2 : (k : Int) < (lc.length : Int) := by omega
        by_cases heq : la[i] = lc[k]
        · rw [heq] at k1
          clear e1 e2
          generalize toB lc[k] = str at *
          have hw1 := walk_same (h := h.plain) hia hkb heq hf.out
          have HF1 : Hid (la.length - (i + 1) + (lc.length - (k + 1)) ≤ f - 1) := by have := hf.out; show _ ≤ _; omega
          have HSL := hsl.out
          have hpl : Hm.plain ⟨(i : Int) + 1, none, 0, [], none, 0, []⟩ = ⟨i + 1, [], []⟩ := by unfold Hm.plain; congr 1
          by_cases hz : h.old.length + h.new.length = 0
          · have z1 : h.old.length = 0 := by omega
            have z2 : h.new.length = 0 := by omega
            have hnew : Hid (hunks la lc = plains hs ++ walk (f - 1) (i + 1) (la.drop (i + 1)) (lc.drop (k + 1)) (Hm.plain ⟨(i : Int) + 1, none, 0, [], none, 0, []⟩)) := by
              show _ = _
              rw [hwalk.out, hw1, hpl, flush_empty z1 z2]
            rw [z1] at f1
            rw [z2] at f2
            clear hw1 hwalk heq hz hpl
            go_wp2
            go_quiet (fail)
            go_wp2
            go_roundw
            case rel =>
              have hd := below_drewN (Below.refl wr.heap.size wr) nq
              have hstd := hst.out.on hd
              have hbd := hb.trans (hd.mono hb.size)
              obtain ⟨B, hok, hB, hG, _, _⟩ := hstd.rows
              have hr := Walking.reset hstd.own hstd.at_ ⟨B, hok, hB, hG⟩ hstd.ty hstd.pos ((i : Int) + 1) (by omega) (by omega)
              exact ⟨i + 1, k + 1, f - 1, hs, ⟨(i : Int) + 1, none, 0, [], none, 0, []⟩, by go_num, by go_num, by omega, by omega, HF1, hnew, hr, by show _ ≤ _; omega, ⟨Nat.zero_le _, Nat.zero_le _⟩,
                ((hbd.setCell (Nat.le_refl _) _).setCell (Nat.le_refl _) _).setCell (Nat.le_refl _) _⟩
            case measure => simp [intOf]; omega
          · have z1 : 0 < (h.old.length : Int) + (h.new.length : Int) := by omega
            have hnew : Hid (hunks la lc = plains (hs ++ [h]) ++ walk (f - 1) (i + 1) (la.drop (i + 1)) (lc.drop (k + 1)) (Hm.plain ⟨(i : Int) + 1, none, 0, [], none, 0, []⟩)) := by
              show _ = _
              rw [hwalk.out, hw1, hpl, flush_some hz, plains_snoc, List.append_assoc]
              rfl
            have hle : hs.length ≤ 100000 := by omega
            clear hw1 hwalk heq hz hpl
            go_wp2
            go_quiet (fail)
            have hd := below_drewN (Below.refl wr.heap.size wr) nq
            have hstd := hst.out.on hd
            have hbd := hb.trans (hd.mono hb.size)
            have hal : Below wr.heap.size (wr.drewN nq) ((wr.drewN nq).alloc (.cells h.cells.toArray 55)) := (Below.refl _ (wr.drewN nq)).alloc (Nat.le_refl _) _
            have hsta := hstd.on hal
            have hnb := Lib.hid (HunkAt.new_ (wr.drewN nq) h)
            have HSTA := Lib.hid hsta
            have hB0 := hbd.size
            have HBD := Lib.hid hbd
            clear hd hstd hal hsta hbd
            go_wp2_with (at_builtin; refine wpList_append_hunk rfl _ _ rfl (w1.heap.size + 1) _ hs rfl HSTA.out.own h wr.heap.size rfl hnb.out ?_ hle _ rfl ?_)
            · have := hst.out.at_.lt; simp; omega
            · intro gb capb w4 ho4 hg4 _
              obtain ⟨at4, ok4, ty4, pos4⟩ := HSTA.out.flush (by omega) (by omega) hg4
              have hb4 : Below w1.heap.size w1 w4 := (HBD.out.alloc hB0 _).grown hg4 (by have := hb.size; simp; omega) fun j hj => by
                have := HSTA.out.own.lt hj
                omega
              have f0 := at4.c0
              have f1 := at4.c1
              have f2 := at4.c2
              have g0 := at4.f 0
              have g1 := at4.f 1
              have g2 := at4.f 2
              have HR4 := Lib.hid (Walking.reset ho4 at4 ok4 ty4 pos4 ((i : Int) + 1) (by omega) (by omega))
              clear ho4 hg4 ok4 ty4 pos4 at4
              go_wp2
              go_roundw
              case rel =>
                exact ⟨i + 1, k + 1, f - 1, hs ++ [h], ⟨(i : Int) + 1, none, 0, [], none, 0, []⟩, by go_num, by go_num, by omega, by omega, HF1, hnew, HR4.out, by show _ ≤ _; simp; omega, ⟨Nat.zero_le _, Nat.zero_le _⟩,
                  ((hb4.setCell (Nat.le_refl _) _).setCell (Nat.le_refl _) _).setCell (Nat.le_refl _) _⟩
              case measure => simp [intOf]; omega
        · clear e1 e2
          have hE : ((toB la[i]).toList == (toB lc[k]).toList) = false := by
            rw [beq_eq_false_iff_ne, toList_eq, toList_eq, of_toB, of_toB]
            exact heq
          have hrows := HTAB.out.on hb
          obtain ⟨gt, capt, ht0, hget⟩ := hrows.get (by rw [tabOf_len]; omega)
          rw [tabOf_len] at ht0
          subst ht0
          obtain ⟨ed, hed⟩ : ∃ ed, la.length = ed + 1 + i := ⟨la.length - 1 - i, by omega⟩
          obtain ⟨ga, ca, ra⟩ := hget ed (by rw [tabOf_len]; omega)
          obtain ⟨gc, cc, rc⟩ := hget (ed + 1) (by rw [tabOf_len]; omega)
          rw [tabOf_get, show la.length - ed = i + 1 by omega] at ra
          rw [tabOf_get, show la.length - (ed + 1) = i by omega] at rc
          have fa := ra.c (i := k) (by rw [rowOf_len]; omega)
          have fc := rc.c (i := k + 1) (by rw [rowOf_len]; omega)
          rw [rowOf_get] at fa fc
          have m1 := (lcs_le (la.drop (i + 1)) (lc.drop k)).2
          have m2 := (lcs_le (la.drop i) (lc.drop (k + 1))).2
          rw [List.length_drop] at m1 m2
          have HSL := hsl.out
          have s1 : (la.length : Int) - (i : Int) = (ed : Int) + 1 := by omega
          have s2 : (ed : Int) + 1 - 1 = (ed : Int) := by omega
          have s3 : (la.length : Int) = (ed : Int) + 1 + (i : Int) := by omega
          have HED := Lib.hid hed
          have qk : ((k : Int) == (lc.length : Int)) = false := by rw [beq_eq_false_iff_ne]; omega
          clear hrows hget ra rc hed s3
          by_cases hle : lcs (la.drop i) (lc.drop (k + 1)) ≤ lcs (la.drop (i + 1)) (lc.drop k)
          · have hw1 := walk_goes (h := h.plain) hia hkb heq hle hf.out
            have HF1 : Hid (la.length - (i + 1) + (lc.length - k) ≤ f - 1) := by have := hf.out; show _ ≤ _; omega
            obtain ⟨str, hstr⟩ : ∃ str, la[i] = str := ⟨_, rfl⟩
            rw [hstr] at k1 hw1 hE
            have hnew : Hid (hunks la lc = plains hs ++ walk (f - 1) (i + 1) (la.drop (i + 1)) (lc.drop k) ⟨h.at_.toNat, h.old ++ [str], h.new⟩) := hwalk.out.trans (congrArg _ hw1)
            clear hstr hw1 hwalk heq
            generalize toB lc[k] = str2 at *
            generalize lcs (la.drop (i + 1)) (lc.drop k) = p1 at *
            generalize lcs (la.drop i) (lc.drop (k + 1)) = p2 at *
            have hpp : (p2 : Int) ≤ (p1 : Int) := by omega
            clear hle
            obtain ⟨i0, hi0, hz0, hz1, hz2⟩ := info_parts info_str
            obtain ⟨B, hok, hB, hG, h1, h2⟩ := hst.out.rows
            have HK := Lib.hid (fun q g c w2 ho hg hat => Walking.goesAt hst.out hok hB hG h1 h2 str q g c w2 ho hg hat)
            have HOWN := Lib.hid (fun q : Nat => (h1.kept ((below_drewN (Below.refl wr.heap.size wr) q).alloc (Nat.le_refl _) (.cells #[.string (toB str)] 9)) : OwnS ((wr.drewN q).alloc (.cells #[.string (toB str)] 9)) B h.v1 h.old))
            have HNEWS := Lib.hid (fun q : Nat => World.news_of_block (heap_alloc_new (wr.drewN q) (.cells #[.string (toB str)] 9)))
            have hcap : h.old.length + 1 ≤ 20000 := by omega
            have fA : ∀ q : Nat, ((wr.drewN q).alloc (.cells #[.string (toB str)] 9)).cell? ⟨w1.heap.size, 1, none⟩ = some (.slice h.a1 h.old.length h.c1) := fun q => (hst.out.at_.on ((below_drewN (Below.refl wr.heap.size wr) q).alloc (Nat.le_refl _) _)).c1
            clear hok h1 h2
            go_wp2
            go_quiet (fail)
            go_wp2_with fail
            go_quiet (fail)
            go_wp2_with fail
            clear s1 s2
            go_region_law (refine step_append_lies _ rfl (.tmp 97) (.tmp 102) _ rfl B _ i0 (.string ByteArray.empty) 1 16 Tryz.underlying36 hi0 hz0 hz1 hz2 rfl (by decide) (.slice h.a1 h.old.length h.c1) h.old.length (h.old.map encStr) (by simp [Act.eval]) (HOWN.out _) ⟨wr.heap.size, 0, none⟩ 1 1 [.string (toB str)] (by simp [Act.eval]) rfl (HNEWS.out _) (by intro u hu; simp at hu; subst hu; rfl) (by decide) (by unfold maxLen; omega) (by omega) (by simp; omega) _ rfl ?_; intro gb cb w2 hob hgb hatb _; obtain ⟨hres, hfr, hce⟩ := HK.out _ gb cb w2 hob hgb hatb; have HRES := Lib.hid hres; clear hob hgb hatb hres)
            all_goals
              go_wp2
              go_roundw
              case rel => exact ⟨i + 1, k, f - 1, hs, { h with a1 := some ⟨gb, 0, none⟩, old := h.old ++ [str], c1 := cb }, by go_num, rfl, by omega, by omega, HF1, hnew, HRES.out.1, by show _ ≤ _; omega, ⟨by simp; omega, by simp; omega⟩, hb.trans HRES.out.2⟩
              case measure => simp [intOf]; omega
          · have hw1 := walk_comes (h := h.plain) hia hkb heq hle hf.out
            have HF1 : Hid (la.length - i + (lc.length - (k + 1)) ≤ f - 1) := by have := hf.out; show _ ≤ _; omega
            obtain ⟨str, hstr⟩ : ∃ str, lc[k] = str := ⟨_, rfl⟩
            rw [hstr] at k2 hw1 hE
            have hnew : Hid (hunks la lc = plains hs ++ walk (f - 1) i (la.drop i) (lc.drop (k + 1)) ⟨h.at_.toNat, h.old, h.new ++ [str]⟩) := hwalk.out.trans (congrArg _ hw1)
            clear hstr hw1 hwalk heq
            generalize toB la[i] = str2 at *
            generalize lcs (la.drop (i + 1)) (lc.drop k) = p1 at *
            generalize lcs (la.drop i) (lc.drop (k + 1)) = p2 at *
            have hpp : ¬ ((p2 : Int) ≤ (p1 : Int)) := by omega
            clear hle
            obtain ⟨i0, hi0, hz0, hz1, hz2⟩ := info_parts info_str
            obtain ⟨B, hok, hB, hG, h1, h2⟩ := hst.out.rows
            have HK := Lib.hid (fun q g c w2 ho hg hat => Walking.comesAt hst.out hok hB hG h1 h2 str q g c w2 ho hg hat)
            have HOWN := Lib.hid (fun q : Nat => (h2.kept ((below_drewN (Below.refl wr.heap.size wr) q).alloc (Nat.le_refl _) (.cells #[.string (toB str)] 9)) : OwnS ((wr.drewN q).alloc (.cells #[.string (toB str)] 9)) B h.v2 h.new))
            have HNEWS := Lib.hid (fun q : Nat => World.news_of_block (heap_alloc_new (wr.drewN q) (.cells #[.string (toB str)] 9)))
            have hcap : h.new.length + 1 ≤ 20000 := by omega
            have fA : ∀ q : Nat, ((wr.drewN q).alloc (.cells #[.string (toB str)] 9)).cell? ⟨w1.heap.size, 2, none⟩ = some (.slice h.a2 h.new.length h.c2) := fun q => (hst.out.at_.on ((below_drewN (Below.refl wr.heap.size wr) q).alloc (Nat.le_refl _) _)).c2
            clear hok h1 h2
            go_wp2
            go_quiet (fail)
            go_wp2_with fail
            go_quiet (fail)
            go_wp2_with fail
            clear s1 s2
            go_region_law (refine step_append_lies _ rfl (.tmp 108) (.tmp 113) _ rfl B _ i0 (.string ByteArray.empty) 1 16 Tryz.underlying36 hi0 hz0 hz1 hz2 rfl (by decide) (.slice h.a2 h.new.length h.c2) h.new.length (h.new.map encStr) (by simp [Act.eval]) (HOWN.out _) ⟨wr.heap.size, 0, none⟩ 1 1 [.string (toB str)] (by simp [Act.eval]) rfl (HNEWS.out _) (by intro u hu; simp at hu; subst hu; rfl) (by decide) (by unfold maxLen; omega) (by omega) (by simp; omega) _ rfl ?_; intro gb cb w2 hob hgb hatb _; obtain ⟨hres, hfr, hce⟩ := HK.out _ gb cb w2 hob hgb hatb; have HRES := Lib.hid hres; clear hob hgb hatb hres)
            all_goals
              go_wp2
              go_roundw
              case rel => exact ⟨i, k + 1, f - 1, hs, { h with a2 := some ⟨gb, 0, none⟩, new := h.new ++ [str], c2 := cb }, rfl, by go_num, by omega, by omega, HF1, hnew, HRES.out.1, by show _ ≤ _; omega, ⟨by simp; omega, by simp; omega⟩, hb.trans HRES.out.2⟩
              case measure => simp [intOf]; omega
      · obtain rfl : k = lc.length := by omega
        obtain ⟨b1, o1, hA1, _, k1⟩ := (HA.out.on hbw).at_ (k := i) (by rw [toBs_len]; exact hia)
        subst hA1
        have e1 : (toBs la)[i]'(by rw [toBs_len]; exact hia) = toB la[i] := by simp [toBs]
        rw [e1] at k1
        have q1 : (i : Int) < (la.length : Int) := by omega
        have hw1 := walk_goes' (h := h.plain) hia hkb hf.out
        have HF1 : Hid (la.length - (i + 1) + (lc.length - lc.length) ≤ f - 1) := by have := hf.out; show _ ≤ _; omega
        have HSL := hsl.out
        clear e1
        obtain ⟨str, hstr⟩ : ∃ str, la[i] = str := ⟨_, rfl⟩
        rw [hstr] at k1 hw1
        have hnew : Hid (hunks la lc = plains hs ++ walk (f - 1) (i + 1) (la.drop (i + 1)) (lc.drop lc.length) ⟨h.at_.toNat, h.old ++ [str], h.new⟩) := hwalk.out.trans (congrArg _ hw1)
        clear hstr hw1 hwalk
        obtain ⟨i0, hi0, hz0, hz1, hz2⟩ := info_parts info_str
        obtain ⟨B, hok, hB, hG, h1, h2⟩ := hst.out.rows
        have HK := Lib.hid (fun q g c w2 ho hg hat => Walking.goesAt hst.out hok hB hG h1 h2 str q g c w2 ho hg hat)
        have HOWN := Lib.hid (fun q : Nat => (h1.kept ((below_drewN (Below.refl wr.heap.size wr) q).alloc (Nat.le_refl _) (.cells #[.string (toB str)] 9)) : OwnS ((wr.drewN q).alloc (.cells #[.string (toB str)] 9)) B h.v1 h.old))
        have HNEWS := Lib.hid (fun q : Nat => World.news_of_block (heap_alloc_new (wr.drewN q) (.cells #[.string (toB str)] 9)))
        have hcap : h.old.length + 1 ≤ 20000 := by omega
        have fA : ∀ q : Nat, ((wr.drewN q).alloc (.cells #[.string (toB str)] 9)).cell? ⟨w1.heap.size, 1, none⟩ = some (.slice h.a1 h.old.length h.c1) := fun q => (hst.out.at_.on ((below_drewN (Below.refl wr.heap.size wr) q).alloc (Nat.le_refl _) _)).c1
        clear hok h1 h2
        go_wp2
        go_quiet (fail)
        go_wp2_with fail
        go_region_law (refine step_append_lies _ rfl (.tmp 97) (.tmp 102) _ rfl B _ i0 (.string ByteArray.empty) 1 16 Tryz.underlying36 hi0 hz0 hz1 hz2 rfl (by decide) (.slice h.a1 h.old.length h.c1) h.old.length (h.old.map encStr) (by simp [Act.eval]) (HOWN.out _) ⟨wr.heap.size, 0, none⟩ 1 1 [.string (toB str)] (by simp [Act.eval]) rfl (HNEWS.out _) (by intro u hu; simp at hu; subst hu; rfl) (by decide) (by unfold maxLen; omega) (by omega) (by simp; omega) _ rfl ?_; intro gb cb w2 hob hgb hatb _; obtain ⟨hres, hfr, hce⟩ := HK.out _ gb cb w2 hob hgb hatb; have HRES := Lib.hid hres; clear hob hgb hatb hres)
        all_goals
          go_wp2
          go_roundw
          case rel => exact ⟨i + 1, lc.length, f - 1, hs, { h with a1 := some ⟨gb, 0, none⟩, old := h.old ++ [str], c1 := cb }, by go_num, rfl, by omega, by omega, HF1, hnew, HRES.out.1, by show _ ≤ _; omega, ⟨by simp; omega, by simp; omega⟩, hb.trans HRES.out.2⟩
          case measure => simp [intOf]; omega
    · obtain rfl : i = la.length := by omega
      by_cases hkb : k < lc.length
      · obtain ⟨b2, o2, hA2, _, k2⟩ := (HC.out.on hbw).at_ (k := k) (by rw [toBs_len]; exact hkb)
        subst hA2
        have e2 : (toBs lc)[k]'(by rw [toBs_len]; exact hkb) = toB lc[k] := by simp [toBs]
        rw [e2] at k2
        have q2 : (k : Int) < (lc.length : Int) := by omega
        have qk : ((k : Int) == (lc.length : Int)) = false := by rw [beq_eq_false_iff_ne]; omega
        have hw1 := walk_comes' (h := h.plain) hia hkb hf.out
        have HF1 : Hid (la.length - la.length + (lc.length - (k + 1)) ≤ f - 1) := by have := hf.out; show _ ≤ _; omega
        have HSL := hsl.out
        clear e2
        obtain ⟨str, hstr⟩ : ∃ str, lc[k] = str := ⟨_, rfl⟩
        rw [hstr] at k2 hw1
        have hnew : Hid (hunks la lc = plains hs ++ walk (f - 1) la.length (la.drop la.length) (lc.drop (k + 1)) ⟨h.at_.toNat, h.old, h.new ++ [str]⟩) := hwalk.out.trans (congrArg _ hw1)
        clear hstr hw1 hwalk
        obtain ⟨i0, hi0, hz0, hz1, hz2⟩ := info_parts info_str
        obtain ⟨B, hok, hB, hG, h1, h2⟩ := hst.out.rows
        have HK := Lib.hid (fun q g c w2 ho hg hat => Walking.comesAt hst.out hok hB hG h1 h2 str q g c w2 ho hg hat)
        have HOWN := Lib.hid (fun q : Nat => (h2.kept ((below_drewN (Below.refl wr.heap.size wr) q).alloc (Nat.le_refl _) (.cells #[.string (toB str)] 9)) : OwnS ((wr.drewN q).alloc (.cells #[.string (toB str)] 9)) B h.v2 h.new))
        have HNEWS := Lib.hid (fun q : Nat => World.news_of_block (heap_alloc_new (wr.drewN q) (.cells #[.string (toB str)] 9)))
        have hcap : h.new.length + 1 ≤ 20000 := by omega
        have fA : ∀ q : Nat, ((wr.drewN q).alloc (.cells #[.string (toB str)] 9)).cell? ⟨w1.heap.size, 2, none⟩ = some (.slice h.a2 h.new.length h.c2) := fun q => (hst.out.at_.on ((below_drewN (Below.refl wr.heap.size wr) q).alloc (Nat.le_refl _) _)).c2
        clear hok h1 h2
        go_wp2
        go_quiet (fail)
        go_wp2_with fail
        go_region_law (refine step_append_lies _ rfl (.tmp 108) (.tmp 113) _ rfl B _ i0 (.string ByteArray.empty) 1 16 Tryz.underlying36 hi0 hz0 hz1 hz2 rfl (by decide) (.slice h.a2 h.new.length h.c2) h.new.length (h.new.map encStr) (by simp [Act.eval]) (HOWN.out _) ⟨wr.heap.size, 0, none⟩ 1 1 [.string (toB str)] (by simp [Act.eval]) rfl (HNEWS.out _) (by intro u hu; simp at hu; subst hu; rfl) (by decide) (by unfold maxLen; omega) (by omega) (by simp; omega) _ rfl ?_; intro gb cb w2 hob hgb hatb _; obtain ⟨hres, hfr, hce⟩ := HK.out _ gb cb w2 hob hgb hatb; have HRES := Lib.hid hres; clear hob hgb hatb hres)
        all_goals
          go_wp2
          go_roundw
          case rel => exact ⟨la.length, k + 1, f - 1, hs, { h with a2 := some ⟨gb, 0, none⟩, new := h.new ++ [str], c2 := cb }, rfl, by go_num, by omega, by omega, HF1, hnew, HRES.out.1, by show _ ≤ _; omega, ⟨by simp; omega, by simp; omega⟩, hb.trans HRES.out.2⟩
          case measure => simp [intOf]; omega
      · obtain rfl : k = lc.length := by omega
        have hw1 := walk_end (h := h.plain) (f := f) hia hkb
        rw [hw1] at hwalk
        have HSL := hsl.out
        have hbb : w.heap.size ≤ w1.heap.size := hb1.size
        by_cases hz : h.old.length + h.new.length = 0
        · have z1 : h.old.length = 0 := by omega
          have z2 : h.new.length = 0 := by omega
          have hnew : Hid (plains hs = hunks la lc) := by
            show _ = _
            rw [hwalk.out, flush_empty z1 z2, List.append_nil]
          obtain ⟨B, hok, hB, hG, _, _⟩ := hst.out.rows
          obtain ⟨A6, cap6, rfl, hks, hroom⟩ := hst.out.own.hks (fun x hx => (hok x hx).more hB)
          have HKS := Lib.hid hks
          have HRM := Lib.hid hroom
          rw [z1] at f1
          rw [z2] at f2
          clear hw1 hwalk hz hks hroom hok
          go_wp2
          go_ret
          exact ⟨A6, cap6, hs, rfl, ⟨hnew.out, hst.out.pos⟩, HRM.out, HKS.out, hbw⟩
        · have z1 : 0 < (h.old.length : Int) + (h.new.length : Int) := by omega
          have hnew : Hid (plains (hs ++ [h]) = hunks la lc) := by
            show _ = _
            rw [hwalk.out, flush_some hz, plains_snoc]
          have hle : hs.length ≤ 100000 := by omega
          have hal : Below wr.heap.size wr (wr.alloc (.cells h.cells.toArray 55)) := (Below.refl _ wr).alloc (Nat.le_refl _) _
          have hsta := hst.out.on hal
          have hnb := Lib.hid (HunkAt.new_ wr h)
          have HSTA := Lib.hid hsta
          clear hal hsta hw1 hwalk hz
          go_wp2_with (at_builtin; refine wpList_append_hunk rfl _ _ rfl (w1.heap.size + 1) _ hs rfl HSTA.out.own h wr.heap.size rfl hnb.out ?_ hle _ rfl ?_)
          · have := hst.out.at_.lt; simp; omega
          · intro gb capb w4 ho4 hg4 _
            obtain ⟨at4, ⟨B4, ok4, hB4, _⟩, ty4, pos4⟩ := HSTA.out.flush (by omega) (by omega) hg4
            have hb4 : Below w1.heap.size w1 w4 := (hb.alloc hb.size _).grown hg4 (by have := hb.size; simp; omega) fun j hj => by
              have := HSTA.out.own.lt hj
              omega
            have hbw4 := hb1.trans (hb4.mono hbb)
            obtain ⟨A6, cap6, he6, hks, hroom⟩ := ho4.hks (fun x hx => (ok4 x hx).more hB4)
            have HKS := Lib.hid hks
            have HRM := Lib.hid hroom
            simp only [Value.slice.injEq] at he6
            obtain ⟨rfl, _, rfl⟩ := he6
            have HP4 := Lib.hid pos4
            clear ho4 hg4 ok4 ty4 pos4 at4 hks hroom
            go_wp2
            go_ret
            exact ⟨some ⟨gb, 0, none⟩, capb, hs ++ [h], by simp, ⟨hnew.out, HP4.out⟩, HRM.out, HKS.out, hbw4⟩
end Go.Proofs.YtaepfahpbnpeiaaGreatDoor
