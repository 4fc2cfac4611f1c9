/- Package prim's Back, whole. -/
import Derived.Test.YtaepfahpbnpeiaaGreatDoorCk32
import Derived.Shelf.RegionOpen
namespace Go.Proofs.YtaepfahpbnpeiaaGreatDoor
open Go.RowKit Go.Shelf
set_option linter.unusedVariables false

attribute [local go_sem] Oper.semAt_some
theorem keepsFrom_below {B n : Nat} {X Y : World} (h : Below n X Y) (hn : n = X.heap.size) : KeepsFrom B X Y := by
  subst hn
  exact ⟨h.size, fun k o _ hk ho => (h.block k (Array.getElem?_eq_some_iff.1 hk).1).trans hk⟩
theorem kpB_below {n₀ b : Nat} {X Y : World} (h : Below X.heap.size X Y) (hn : n₀ ≤ X.heap.size) : KpB n₀ b X Y := ⟨h.mono hn, fun hb => h.block b hb⟩

theorem opIn_append {F : Fence} {n : Nat} {o : Oper} {a : Act} {w : World} {ys : Nat → Option Bool} {K : Act → World → Prop} {Q : Exit → Act → World → Prop} {X : Prop} (hgd : o.guard = none) (s x : Operand)
    (ho : o.op = .call { callee := .builtin .append, args := #[s, x], argTypes := #[23, 23] })
    (B : Nat) (v : Value) (qs : List Pm) (hs : a.eval s = v) (hown : OwnP w B v qs) (z : Pm) (b : Nat) (hx : a.eval x = .slice (some ⟨b, 0, none⟩) 1 1) (hb : PrimAt w b z) (hB : B ≤ w.heap.size) (hle : qs.length ≤ 100000)
    (h : ∀ g cap w', OwnP w' B (.slice (some ⟨g, 0, none⟩) (qs.length + 1) cap) (qs ++ [z]) → w.grownBy w' v.ownBlock → K (a.put o.dst (.slice (some ⟨g, 0, none⟩) (qs.length + 1) cap)) w') :
    if Region.wanted o ys = true then o.wpIn F n Tryz.prog a w K Q else X := by
  rw [if_pos (by simp [Region.wanted, hgd])]
  obtain ⟨i0, hi, hz0, hz1, hz2⟩ := info_parts info_prim
  obtain ⟨v', w', hr, h2, h3, h4, h5⟩ := run_append_own_at (P := Tryz.prog) w B 23 o.type 38 i0 _ 6 96 Tryz.underlying23 hi hz0 hz1 hz2 rfl (by decide) v qs.length (pcells qs) hown ⟨b, 0, none⟩ 1 1 z.cells rfl (World.news_of_block hb) (by
    intro u hu
    simp only [Pm.cells, List.mem_cons, List.not_mem_nil, or_false] at hu
    rcases hu with rfl | rfl | rfl | rfl | rfl | rfl <;> rfl) (by unfold maxLen; omega) (by omega) hB
  obtain ⟨g, cap, rfl⟩ := ownsRow_succ h2
  have h2' : OwnP w' B (.slice (some ⟨g, 0, none⟩) (qs.length + 1) cap) (qs ++ [z]) := by
    unfold OwnP
    rw [List.length_append]
    have e : pcells (qs ++ [z]) = pcells qs ++ z.cells := by simp [pcells]
    rw [e]
    exact h2
  unfold Oper.wpIn
  refine ⟨by simp [Oper.about, ho, resolve, Target.leads, Sem.run_pure], ?_⟩
  rw [Oper.semAt_plain F _ _ (by rw [ho]; intro c hc'; cases hc')]
  simp [execOp, ho, resolve, invoke, builtin, hs, hx, hr, Result.andThen]
  exact h g cap w' h2' h3
theorem OwnP.block_ge {W : World} {B : Nat} {v : Value} {qs : List Pm} (h : OwnP W B v qs) {k : Nat} (e : v.ownBlock = some k) : B ≤ k := (World.ownsRow.lt h k e).1
/-- What a round leaves. -/
theorem back_round {w W w5 w7 : World} {A : Option Addr} {ps : List Pm} {cap B : Nat} {ks : List Pk} {v : Value} {qs : List Pm} {y z : Pm} {g k7 : Nat} (hI : BackI w A ps cap ks W) (k1 : Boxed W w.heap.size 23 v) (k2 : OwnP W w.heap.size v qs) (k3 : ∀ y ∈ qs, y.Sep W ∧ y.Light) (k4 : pkeys qs = ks)
    (hb5 : Below W.heap.size W w5) (hz : z.Sep w5) (hzk : z.key = invP y.key) (hyl : y.Light) (hg : (w5.alloc (.cells z.cells.toArray 38)).grownBy w7 v.ownBlock) (ho : OwnP w7 w.heap.size (.slice (some ⟨g, 0, none⟩) (qs.length + 1) k7) (qs ++ [z])) :
    KeepsFrom B W (w7.setCell ⟨w.heap.size, 0, none⟩ (.slice (some ⟨g, 0, none⟩) (qs.length + 1) k7)) ∧ KpB w.heap.size (w.heap.size + 1) W (w7.setCell ⟨w.heap.size, 0, none⟩ (.slice (some ⟨g, 0, none⟩) (qs.length + 1) k7)) ∧
    BackI w A ps cap (ks ++ [invP y.key]) (w7.setCell ⟨w.heap.size, 0, none⟩ (.slice (some ⟨g, 0, none⟩) (qs.length + 1) k7)) := by
  have hal : Below w5.heap.size w5 (w5.alloc (.cells z.cells.toArray 38)) := (Below.refl _ _).alloc (Nat.le_refl _) _
  have hb6 := hb5.trans (hal.mono hb5.size)
  have hz6 := hz.on hal
  generalize (w5.alloc (.cells z.cells.toArray 38)) = w6 at *
  have k26 : OwnP w6 w.heap.size v qs := k2.kept hb6
  have k16 : Boxed w6 w.heap.size 23 v := (hb6.block _ k1.lt).trans k1
  have s6 : Boxed w6 (w.heap.size + 1) 23 (.slice A ps.length cap) := (hb6.block _ hI.s.lt).trans hI.s
  have n1 : some w.heap.size ≠ v.ownBlock := k16.not_row (by decide) k26
  have n2 : some (w.heap.size + 1) ≠ v.ownBlock := s6.not_row (by decide) k26
  have k17 := k16.kept hg n1
  have s7 := s6.kept hg n2
  have nstr : ∀ b cur fz, w6.heap[b]? = some (.cells cur 9 fz) → v.ownBlock ≠ some b := fun b cur fz hbk e => by
    obtain ⟨cur2, fz2, h⟩ := k26.type_of e
    rw [hbk] at h
    simp only [Option.some.injEq, Obj.cells.injEq] at h
    exact absurd h.2.1 (by decide)
  have hz7 := hz6.kept hg nstr
  have hq7 : ∀ x ∈ qs, x.Sep w7 ∧ x.Light := fun x hx => ⟨((k3 x hx).1.on hb6).kept hg nstr, (k3 x hx).2⟩
  have hg8 := grown_cell w7 w.heap.size 0 (.slice (some ⟨g, 0, none⟩) (qs.length + 1) k7)
  have nst8 : ∀ b cur fz, w7.heap[b]? = some (.cells cur 9 fz) → some w.heap.size ≠ some b := fun b cur fz hbk e => by
    cases e
    rw [show w7.heap[w.heap.size]? = _ from k17] at hbk
    simp only [Option.some.injEq, Obj.cells.injEq] at hbk
    exact absurd hbk.2.1 (by decide)
  have npr8 : ∀ b cur fz, w7.heap[b]? = some (.cells cur 38 fz) → some w.heap.size ≠ some b := fun b cur fz hbk e => by
    cases e
    rw [show w7.heap[w.heap.size]? = _ from k17] at hbk
    simp only [Option.some.injEq, Obj.cells.injEq] at hbk
    exact absurd hbk.2.1 (by decide)
  have ge7 : ∀ k, v.ownBlock = some k → w.heap.size ≤ k := fun k e => k2.block_ge e
  have hsz6 : w.heap.size ≤ w6.heap.size := Nat.le_trans hI.b.size hb6.size
  have hB7 : Below w.heap.size W w7 := (hb6.mono hI.b.size).grown hg hsz6 ge7
  have hsz7 : w.heap.size ≤ w7.heap.size := Nat.le_trans hsz6 hg.size
  have hB8 : Below w.heap.size W (w7.setCell ⟨w.heap.size, 0, none⟩ (.slice (some ⟨g, 0, none⟩) (qs.length + 1) k7)) := below_set hB7 (Nat.le_refl _) hsz7
  have hs8 : Boxed (w7.setCell ⟨w.heap.size, 0, none⟩ (.slice (some ⟨g, 0, none⟩) (qs.length + 1) k7)) (w.heap.size + 1) 23 (.slice A ps.length cap) := s7.kept hg8 (by simp)
  refine ⟨?_, ⟨hB8, fun _ => hs8.trans hI.s.symm⟩, ⟨⟨_, qs ++ [z], k17.set _, ho.kept2 hg8 npr8, fun x hx => ?_, ?_⟩, hs8, hI.b.trans hB8⟩⟩
  · refine (keepsFrom_below hb6 rfl).trans (KeepsFrom.trans ⟨hg.size, fun k o _ hk ho2 => (hg.block k (Array.getElem?_eq_some_iff.1 hk).1 (fun e => ?_)).trans hk⟩ ((KeepsOthers.setCell _ _ _).from _))
    obtain ⟨cur2, fz2, h⟩ := k26.type_of e.symm
    rw [hk] at h
    cases h
    cases ho2
  · rcases List.mem_append.1 hx with hx | hx
    · exact ⟨(hq7 x hx).1.kept hg8 nst8, (hq7 x hx).2⟩
    · rw [List.mem_singleton] at hx
      subst hx
      exact ⟨hz7.kept hg8 nst8, light_inv hyl hzk⟩
  · unfold pkeys at k4 ⊢
    rw [List.map_append, k4]
    simp [hzk]

set_option maxRecDepth 100000 in
set_option maxHeartbeats 8000000 in
theorem pback_any (A : Option Addr) (ps : List Pm) (cap : Nat) (w : World) (hs : Ps w w.heap.size A ps) (hn : ps.length ≤ 100000) (hck : ∀ x ∈ ps, ckP x.key = 0) (hl : ∀ x ∈ ps, x.Light) :
    Calls Tryz.prog 12 #[.slice A ps.length cap] w (StepsLeft w (backP (pkeys ps))) := by
  refine (callsIn_wide (n := 6)).1 ?_
  have h1 : 1 ≤ 6 := by decide
  refine callsIn_of_wp_marks Tryz.func12 rfl trivial ?_ rfl
  simp only [Tryz.ntmps12, List.size_toArray, List.length_cons, List.length_nil, Nat.reduceAdd, Nat.reduceSub, Array.replicate_succ, Array.replicate_zero, List.push_toArray, List.append_toArray, List.nil_append, List.cons_append]
  gi_wp2_with fail
  refine ⟨trivial, ?_⟩
  refine (backward_in Fence.wide 5 trivial rfl _ _ _ _).mono ?_
  rintro e w' ⟨rfl, rfl⟩
  gi_wp2_with fail
  have bO := Boxed.new w 23 (.slice none 0 0)
  have bN := Boxed.new (w.alloc (.cells #[.slice none 0 0] 23)) 23 (.slice A ps.length cap)
  rw [World.size_alloc] at bN
  have hB0 : Below w.heap.size w ((w.alloc (.cells #[.slice none 0 0] 23)).alloc (.cells #[.slice A ps.length cap] 23)) := ((Below.refl _ w).alloc (Nat.le_refl _) _).alloc (by simp) _
  have hsz : ((w.alloc (.cells #[.slice none 0 0] 23)).alloc (.cells #[.slice A ps.length cap] 23)).heap.size = w.heap.size + 2 := by simp
  have hI0 : BackI w A ps cap [] ((w.alloc (.cells #[.slice none 0 0] 23)).alloc (.cells #[.slice A ps.length cap] 23)) := ⟨⟨_, [], bO.alloc _, OwnP.nil _ _, by simp, rfl⟩, bN, hB0⟩
  obtain ⟨W0, hW0⟩ : ∃ W0, ((w.alloc (.cells #[.slice none 0 0] 23)).alloc (.cells #[.slice A ps.length cap] 23)) = W0 := ⟨_, rfl⟩
  rw [hW0] at bN hB0 hsz hI0 ⊢
  clear hW0 bO
  refine wpIn_rangeFunc_ownH rfl h1 (gf := 65) (lb := #[.pointer (some ⟨w.heap.size + 1, 0, none⟩)]) rfl trivial (enters_of Tryz.func65 (by kernel_rfl) rfl)
    (backward_stops Fence.wide (6 - 1) trivial rfl (by decide) w.heap.size (w.heap.size + 1) cap A ps hn W0 (by omega) bN (hs.below hB0)) KpB.trans (kpB_put (by omega) (by omega)) (Below.refl _ _) (fun _ => rfl)
    (fun ys W => BackI w A ps cap (ys.map fun x => invP x.1.2.key) W)
    (fun _ _ _ => False)
    (back_own w A ps cap _ (by omega) _)
    (fun _ _ _ _ _ hs _ _ => hs)
    hI0
    (fun x a' W => ∃ Bx, w.heap.size + 1 < Bx ∧ PrimAt W Bx x.1.2 ∧ a' = { tmps := #[.slice A ps.length cap, undef, .slice none 0 0, .pointer (some ⟨w.heap.size, 0, none⟩), undef, .pointer (some ⟨Bx, 0, none⟩), .slice A ps.length cap, .func (.func 65) #[] #[.pointer (some ⟨w.heap.size + 1, 0, none⟩)], .int .i64 x.1.1, x.1.2.val, undef, undef, undef, undef, undef, undef], defers := [] })
    (fun x a' _ X Y row hs hg hr => by
      obtain ⟨Bx, h1, h2, h3⟩ := hs
      refine ⟨Bx, h1, (hg.block Bx h2.lt (fun e => ?_)).trans h2, h3⟩
      obtain ⟨_, o, h4, h5⟩ := hr Bx e.symm
      rw [show X.heap[Bx]? = _ from h2] at h4
      cases h4
      cases h5)
    ?assign ?body ?done ?stop
  case assign =>
    rintro l pre ⟨⟨i, y⟩, hy⟩ W K hI hK
    unfold Came.cells
    dsimp only
    unfold Pm.val
    have hlt := hI.s.lt
    gi_wp2
    have hal := (Below.refl W.heap.size W).alloc (Nat.le_refl _) (.cells #[.int .i64 y.kind, .string y.p, .string y.dst, .int .i64 y.at_, .slice y.a1 y.old.length y.c1, .slice y.a2 y.new.length y.c2] 38)
    exact hK _ _ ((KeepsOthers.alloc _ _).from _) (kpB_below hal hI.b.size) (hI.on hal) ⟨W.heap.size, hlt, PrimAt.new_ W y, rfl⟩
  case body =>
    rintro l pre ⟨⟨i, y⟩, hy⟩ a' W hl2 ⟨r, hr⟩ hI ⟨Bx, hBx, bX, rfl⟩ hlt
    obtain ⟨v, qs, k1, k2, k3, k4⟩ := hI.h
    have c0 := bX.c0
    have c1 := bX.c1
    have c2 := bX.c2
    have c3 := bX.c3
    have c4 := bX.c4
    have c5 := bX.c5
    have hc := k1.cell
    have hyl := hl y hy
    have hyc := hck y hy
    have okW := ((hs.below hI.b).ok y hy).more hI.b.size
    have CI := Lib.hid (pinvert_any y W.drew (okW.on (Below.refl W.heap.size W).drew) (Nat.le_trans hyl.old.1 (by decide)) (Nat.le_trans hyl.new.1 (by decide)) hyc)
    have hmx : Tryz.prog.follows .mixedOrders = true := by kernel_rfl
    unfold Pm.val at CI
    dsimp only
    unfold Pm.val
    have hql : qs.length ≤ 100000 := by
      have := congrArg List.length k4
      rw [pkeys_len, List.length_map] at this
      omega
    gi_wp2_with fail
    refine wpIn_region_any hmx ?_
    change wpAnyIn _ _ _ _ _ _ _ _ _ (World.drew _)
    refine wpAnyIn_ready (rs := [0, 1]) (by kernel_rfl) (by simp) ?_
    refine AllReadyIn.cons rfl (fun K hK => ?_) (AllReadyIn.cons rfl (fun K hK => ?_) AllReadyIn.nil)
    · go_simp
      refine hK _ _ ?_
      clear hK K
      refine wpAnyIn_ready (rs := [1]) (by kernel_rfl) (by simp) ?_
      refine AllReadyIn.cons rfl (fun K hK => ?_) AllReadyIn.nil
      go_simp
      refine hK _ _ ?_
      clear hK K
      refine wpAnyIn_ready (rs := [2]) (by kernel_rfl) (by simp) ?_
      refine AllReadyIn.cons rfl (fun K hK => ?_) AllReadyIn.nil
      go_simp
      gi_wp2_with (refine ⟨trivial, ?_⟩; gi_at_call 26; refine (CallsIn.inRound l (callsIn_wide.2 CI.out)).mono ?_; rintro e w5 ⟨z, rfl, hz, hb5⟩; have hc6 : w5.cell? ⟨w.heap.size, 0, none⟩ = some v := Boxed.cell ((hb5.block _ k1.lt).trans k1); have hc8 : (w5.alloc (.cells #[.int .i64 z.kind, .string z.p, .string z.dst, .int .i64 z.at_, .slice z.a1 z.old.length z.c1, .slice z.a2 z.new.length z.c2] 38)).cell? ⟨w.heap.size, 0, none⟩ = some v := cell_on hc6 ((Below.refl _ _).alloc (Nat.le_refl _) _))
      refine wpAnyIn_ready (rs := [3]) (by kernel_rfl) (by simp) ?_
      refine AllReadyIn.cons rfl (fun K hK => ?_) AllReadyIn.nil
      go_simp
      refine hK _ _ ?_
      clear hK K
      refine wpAnyIn_ready (rs := [4]) (by kernel_rfl) (by simp) ?_
      refine AllReadyIn.cons rfl (fun K hK => ?_) AllReadyIn.nil
      refine opIn_append rfl _ _ rfl w.heap.size v qs rfl ((k2.kept ((Below.refl W.heap.size W).drew.trans (hb5.mono (by simp)))).kept ((Below.refl _ _).alloc (Nat.le_refl _) _)) z w5.heap.size rfl (PrimAt.new_ w5 z) (Nat.le_trans hI.b.size (Nat.le_trans hb5.size (by simp))) hql ?_
      intro g k7 w7 ho7 hg7
      have hfin := back_round (B := W0.heap.size) hI k1 k2 k3 k4 ((Below.refl W.heap.size W).drew.trans (hb5.mono (by simp))) hz.out.1 hz.out.2 hyl hg7 ho7
      have b7 : Boxed w7 w.heap.size 23 v := by
        have hb6 := ((Below.refl W.heap.size W).drew.trans (hb5.mono (by simp))).trans ((((Below.refl _ _).alloc (Nat.le_refl _) (.cells z.cells.toArray 38)) : Below w5.heap.size w5 _).mono hb5.size)
        have b6 : Boxed (w5.alloc (.cells z.cells.toArray 38)) w.heap.size 23 v := (hb6.block _ k1.lt).trans k1
        exact b6.kept hg7 (b6.not_row (by decide) (k2.kept hb6))
      have q0 := b7.cell
      have q1 := b7.frozen
      refine hK _ _ ?_
      clear hK K
      refine wpAnyIn_ready (rs := [5]) (by kernel_rfl) (by simp) ?_
      refine AllReadyIn.cons rfl (fun K hK => ?_) AllReadyIn.nil
      go_simp
      refine hK _ _ ?_
      clear hK K
      refine wpAnyIn_done (by kernel_rfl) ?_ _
      gi_wp2
      refine ⟨hfin.1, hfin.2.1, ?_⟩
      show BackI w A ps cap (List.map _ (pre ++ [_])) _
      rw [List.map_append]
      exact hfin.2.2
    · go_simp
      refine hK _ _ ?_
      clear hK K
      refine wpAnyIn_ready (rs := [0, 2]) (by kernel_rfl) (by simp) ?_
      refine AllReadyIn.cons rfl (fun K hK => ?_) (AllReadyIn.cons rfl (fun K hK => ?_) AllReadyIn.nil)
      · go_simp
        refine hK _ _ ?_
        clear hK K
        refine wpAnyIn_ready (rs := [2]) (by kernel_rfl) (by simp) ?_
        refine AllReadyIn.cons rfl (fun K hK => ?_) AllReadyIn.nil
        go_simp
        gi_wp2_with (refine ⟨trivial, ?_⟩; gi_at_call 26; refine (CallsIn.inRound l (callsIn_wide.2 CI.out)).mono ?_; rintro e w5 ⟨z, rfl, hz, hb5⟩; have hc6 : w5.cell? ⟨w.heap.size, 0, none⟩ = some v := Boxed.cell ((hb5.block _ k1.lt).trans k1); have hc8 : (w5.alloc (.cells #[.int .i64 z.kind, .string z.p, .string z.dst, .int .i64 z.at_, .slice z.a1 z.old.length z.c1, .slice z.a2 z.new.length z.c2] 38)).cell? ⟨w.heap.size, 0, none⟩ = some v := cell_on hc6 ((Below.refl _ _).alloc (Nat.le_refl _) _))
        refine wpAnyIn_ready (rs := [3]) (by kernel_rfl) (by simp) ?_
        refine AllReadyIn.cons rfl (fun K hK => ?_) AllReadyIn.nil
        go_simp
        refine hK _ _ ?_
        clear hK K
        refine wpAnyIn_ready (rs := [4]) (by kernel_rfl) (by simp) ?_
        refine AllReadyIn.cons rfl (fun K hK => ?_) AllReadyIn.nil
        refine opIn_append rfl _ _ rfl w.heap.size v qs rfl ((k2.kept ((Below.refl W.heap.size W).drew.trans (hb5.mono (by simp)))).kept ((Below.refl _ _).alloc (Nat.le_refl _) _)) z w5.heap.size rfl (PrimAt.new_ w5 z) (Nat.le_trans hI.b.size (Nat.le_trans hb5.size (by simp))) hql ?_
        intro g k7 w7 ho7 hg7
        have hfin := back_round (B := W0.heap.size) hI k1 k2 k3 k4 ((Below.refl W.heap.size W).drew.trans (hb5.mono (by simp))) hz.out.1 hz.out.2 hyl hg7 ho7
        have b7 : Boxed w7 w.heap.size 23 v := by
          have hb6 := ((Below.refl W.heap.size W).drew.trans (hb5.mono (by simp))).trans ((((Below.refl _ _).alloc (Nat.le_refl _) (.cells z.cells.toArray 38)) : Below w5.heap.size w5 _).mono hb5.size)
          have b6 : Boxed (w5.alloc (.cells z.cells.toArray 38)) w.heap.size 23 v := (hb6.block _ k1.lt).trans k1
          exact b6.kept hg7 (b6.not_row (by decide) (k2.kept hb6))
        have q0 := b7.cell
        have q1 := b7.frozen
        refine hK _ _ ?_
        clear hK K
        refine wpAnyIn_ready (rs := [5]) (by kernel_rfl) (by simp) ?_
        refine AllReadyIn.cons rfl (fun K hK => ?_) AllReadyIn.nil
        go_simp
        refine hK _ _ ?_
        clear hK K
        refine wpAnyIn_done (by kernel_rfl) ?_ _
        gi_wp2
        refine ⟨hfin.1, hfin.2.1, ?_⟩
        show BackI w A ps cap (List.map _ (pre ++ [_])) _
        rw [List.map_append]
        exact hfin.2.2
      · go_simp
        gi_wp2_with (refine ⟨trivial, ?_⟩; gi_at_call 26; refine (CallsIn.inRound l (callsIn_wide.2 CI.out)).mono ?_; rintro e w5 ⟨z, rfl, hz, hb5⟩; have hc6 : w5.cell? ⟨w.heap.size, 0, none⟩ = some v := Boxed.cell ((hb5.block _ k1.lt).trans k1); have hc8 : (w5.alloc (.cells #[.int .i64 z.kind, .string z.p, .string z.dst, .int .i64 z.at_, .slice z.a1 z.old.length z.c1, .slice z.a2 z.new.length z.c2] 38)).cell? ⟨w.heap.size, 0, none⟩ = some v := cell_on hc6 ((Below.refl _ _).alloc (Nat.le_refl _) _))
        refine wpAnyIn_ready (rs := [0, 3]) (by kernel_rfl) (by simp) ?_
        refine AllReadyIn.cons rfl (fun K hK => ?_) (AllReadyIn.cons rfl (fun K hK => ?_) AllReadyIn.nil)
        · go_simp
          refine hK _ _ ?_
          clear hK K
          refine wpAnyIn_ready (rs := [3]) (by kernel_rfl) (by simp) ?_
          refine AllReadyIn.cons rfl (fun K hK => ?_) AllReadyIn.nil
          go_simp
          refine hK _ _ ?_
          clear hK K
          refine wpAnyIn_ready (rs := [4]) (by kernel_rfl) (by simp) ?_
          refine AllReadyIn.cons rfl (fun K hK => ?_) AllReadyIn.nil
          refine opIn_append rfl _ _ rfl w.heap.size v qs rfl ((k2.kept ((Below.refl W.heap.size W).drew.trans (hb5.mono (by simp)))).kept ((Below.refl _ _).alloc (Nat.le_refl _) _)) z w5.heap.size rfl (PrimAt.new_ w5 z) (Nat.le_trans hI.b.size (Nat.le_trans hb5.size (by simp))) hql ?_
          intro g k7 w7 ho7 hg7
          have hfin := back_round (B := W0.heap.size) hI k1 k2 k3 k4 ((Below.refl W.heap.size W).drew.trans (hb5.mono (by simp))) hz.out.1 hz.out.2 hyl hg7 ho7
          have b7 : Boxed w7 w.heap.size 23 v := by
            have hb6 := ((Below.refl W.heap.size W).drew.trans (hb5.mono (by simp))).trans ((((Below.refl _ _).alloc (Nat.le_refl _) (.cells z.cells.toArray 38)) : Below w5.heap.size w5 _).mono hb5.size)
            have b6 : Boxed (w5.alloc (.cells z.cells.toArray 38)) w.heap.size 23 v := (hb6.block _ k1.lt).trans k1
            exact b6.kept hg7 (b6.not_row (by decide) (k2.kept hb6))
          have q0 := b7.cell
          have q1 := b7.frozen
          refine hK _ _ ?_
          clear hK K
          refine wpAnyIn_ready (rs := [5]) (by kernel_rfl) (by simp) ?_
          refine AllReadyIn.cons rfl (fun K hK => ?_) AllReadyIn.nil
          go_simp
          refine hK _ _ ?_
          clear hK K
          refine wpAnyIn_done (by kernel_rfl) ?_ _
          gi_wp2
          refine ⟨hfin.1, hfin.2.1, ?_⟩
          show BackI w A ps cap (List.map _ (pre ++ [_])) _
          rw [List.map_append]
          exact hfin.2.2
        · go_simp
          refine hK _ _ ?_
          clear hK K
          refine wpAnyIn_ready (rs := [0]) (by kernel_rfl) (by simp) ?_
          refine AllReadyIn.cons rfl (fun K hK => ?_) AllReadyIn.nil
          go_simp
          refine hK _ _ ?_
          clear hK K
          refine wpAnyIn_ready (rs := [4]) (by kernel_rfl) (by simp) ?_
          refine AllReadyIn.cons rfl (fun K hK => ?_) AllReadyIn.nil
          refine opIn_append rfl _ _ rfl w.heap.size v qs rfl ((k2.kept ((Below.refl W.heap.size W).drew.trans (hb5.mono (by simp)))).kept ((Below.refl _ _).alloc (Nat.le_refl _) _)) z w5.heap.size rfl (PrimAt.new_ w5 z) (Nat.le_trans hI.b.size (Nat.le_trans hb5.size (by simp))) hql ?_
          intro g k7 w7 ho7 hg7
          have hfin := back_round (B := W0.heap.size) hI k1 k2 k3 k4 ((Below.refl W.heap.size W).drew.trans (hb5.mono (by simp))) hz.out.1 hz.out.2 hyl hg7 ho7
          have b7 : Boxed w7 w.heap.size 23 v := by
            have hb6 := ((Below.refl W.heap.size W).drew.trans (hb5.mono (by simp))).trans ((((Below.refl _ _).alloc (Nat.le_refl _) (.cells z.cells.toArray 38)) : Below w5.heap.size w5 _).mono hb5.size)
            have b6 : Boxed (w5.alloc (.cells z.cells.toArray 38)) w.heap.size 23 v := (hb6.block _ k1.lt).trans k1
            exact b6.kept hg7 (b6.not_row (by decide) (k2.kept hb6))
          have q0 := b7.cell
          have q1 := b7.frozen
          refine hK _ _ ?_
          clear hK K
          refine wpAnyIn_ready (rs := [5]) (by kernel_rfl) (by simp) ?_
          refine AllReadyIn.cons rfl (fun K hK => ?_) AllReadyIn.nil
          go_simp
          refine hK _ _ ?_
          clear hK K
          refine wpAnyIn_done (by kernel_rfl) ?_ _
          gi_wp2
          refine ⟨hfin.1, hfin.2.1, ?_⟩
          show BackI w A ps cap (List.map _ (pre ++ [_])) _
          rw [List.map_append]
          exact hfin.2.2
  case done =>
    rintro D ys W hD hys hI hK
    obtain ⟨v, qs, k1, k2, k3, k4⟩ := hI.h
    have hg := grownBy_putObj' W D (.deferred none)
    have hne : ∀ b cur t fz, W.heap[b]? = some (.cells cur t fz) → some D ≠ some b := fun b cur t fz hb e => by
      cases e
      rw [hK] at hb
      cases hb
    have k3' : ∀ x ∈ qs, x.Sep (W.putObj D (.deferred none)) := fun x hx => (k3 x hx).1.kept hg (fun b cur fz => hne b cur _ fz)
    obtain ⟨A', c', hv, hps, hroom⟩ := (k2.kept2 hg (fun b cur fz => hne b cur _ fz)).ps (fun x hx => (k3' x hx).1)
    subst hv
    have hkeys : pkeys qs = backP (pkeys ps) := by
      rw [k4]
      have h := congrArg (List.map fun p : Pm => invP p.key) hys
      rw [List.map_map, List.map_reverse] at h
      unfold backP pkeys
      rw [List.map_map]
      exact h
    have hbel := hI.b.trans (belowK_b (w := w) (Nat.le_refl _) W D _ (.deferred none) (by omega) hK rfl rfl)
    have hc := k1.cell
    gi_wp2
    refine ⟨by simp, .inl ⟨_, _, rfl, run_takeDeferred hK, ?_⟩⟩
    exact ⟨_, results_tmp rfl _ _ _, A', qs, c', rfl, ⟨hps, hroom, hkeys, fun x hx => (k3 x hx).2⟩, hbel⟩
  case stop =>
    rintro D c pre W _ _ h _
    exact h.elim
end Go.Proofs.YtaepfahpbnpeiaaGreatDoor
