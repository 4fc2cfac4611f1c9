/- The statements' Light of steps (layer 7). What the laws of layer 8 hold: steps in blocks, pairs of steps, rows of steps. Three hunks, plainly: whichever two neighbours change places first. -/
import Derived.Test.YtknommnlkdlkdaaDoorCk04
import Derived.Test.YtknommnlkdlkdaaDoorCk08
import Derived.Test.YtknommnlkdlkdaaDoorCk05
import Derived.Test.YtknommnlkdlkdaaDoorCk17
import Derived.Test.YtknommnlkdlkdaaDoorCk18
namespace Go.Proofs.YtknommnlkdlkdaaDoor
open Go.RowKit
set_option linter.unusedVariables false

theorem light3_facts {ls : List (List UInt8)} (h : light3B (toBs ls) = true) : LightK ls := by
  refine ⟨by have := light3B_len h; rwa [toBs_len] at this, fun x hx => ?_⟩
  unfold light3B at h
  rw [Bool.and_eq_true, List.all_eq_true] at h
  have := h.1 (toB x) (List.mem_map.2 ⟨x, hx, rfl⟩)
  rw [decide_eq_true_eq, toB_size] at this
  exact this
def light7One (x : Pm) : Bool := decide (x.p.size ≤ 300) && decide (x.dst.size ≤ 300) && light3B (toBs x.old) && light3B (toBs x.new)
def light7B (l : List Pm) : Bool := l.all light7One && decide (l.length ≤ 40)
theorem light7_no {l : List Pm} {k : Nat} (hk : k < l.length) (h : light7One l[k] = false) : light7B l = false := by
  have : l.all light7One = false := by
    rw [List.all_eq_false]
    exact ⟨l[k], List.getElem_mem _, by rw [h]; simp⟩
  simp [light7B, this]
theorem light7_yes {l : List Pm} (h : ∀ j (hj : j < l.length), light7One l[j] = true) : light7B l = decide (l.length ≤ 40) := by
  have : l.all light7One = true := by
    rw [List.all_eq_true]
    intro s hs
    obtain ⟨j, hj, rfl⟩ := List.getElem_of_mem hs
    exact h j hj
  simp [light7B, this]
theorem light7_facts {l : List Pm} (h : light7B l = true) : l.length ≤ 40 ∧ ∀ x ∈ l, light7One x = true := by
  unfold light7B at h
  rw [Bool.and_eq_true, List.all_eq_true] at h
  exact ⟨by simpa using h.2, h.1⟩
theorem light7_light {x : Pm} (h : light7One x = true) : x.Light := by
  unfold light7One at h
  simp only [Bool.and_eq_true, decide_eq_true_eq] at h
  exact ⟨h.1.1.1, h.1.1.2, light3_facts h.1.2, light3_facts h.2⟩
set_option maxHeartbeats 4000000 in
set_option maxRecDepth 100000 in
theorem light7_any (A : Option Addr) (l : List Pm) (cap : Nat) (w : World) (hk : Ps w w.heap.size A l) (hn : l.length ≤ 9223372036854775807) :
    Calls Tryd.prog 4 #[.slice A l.length cap] w fun e w' => e = .returned (.bool (light7B l)) ∧ w = w' := by
  have HK := Lib.hid hk
  clear hk
  go_enter Tryd.func4, Tryd.ntmps4
  go_wp2
  go_loop [3] (fun i => ∃ k : Nat, k ≤ l.length ∧ i = .int .i64 (k : Int) ∧ Hid (∀ j (hj : j < l.length), j < k → light7One l[j] = true)) (fun i => l.length - (intOf i).toNat)
  case atStart => exact ⟨0, Nat.zero_le _, rfl, fun j _ h => absurd h (by omega)⟩
  case round =>
    obtain ⟨k, hk, rfl, hall⟩ := hrel
    by_cases hlt : k < l.length
    · obtain ⟨b, off, rfl, _, h1, h2, h3, h4, h5, h6⟩ := HK.out.get hlt
      have ok := HK.out.ok l[k] (List.getElem_mem _)
      have c1 := light3_any l[k].a1 (toBs l[k].old) l[k].c1 w ok.h.old (by rw [toBs_len]; exact ok.h.n1)
      have c2 := light3_any l[k].a2 (toBs l[k].new) l[k].c2 w ok.h.new (by rw [toBs_len]; exact ok.h.n2)
      rw [toBs_len] at c1 c2
      have hno := Lib.hid (light7_no hlt)
      have hyes : Hid (light7One l[k] = true → ∀ j (hj : j < l.length), j < k + 1 → light7One l[j] = true) := by
        intro h j hj hjk
        by_cases he : j = k
        · subst he; exact h
        · exact hall.out j hj (by omega)
      have hone : Hid (light7One l[k] = (decide (l[k].p.size ≤ 300) && decide (l[k].dst.size ≤ 300) && light3B (toBs l[k].old) && light3B (toBs l[k].new))) := rfl
      generalize light3B (toBs l[k].old) = d1 at *
      generalize light3B (toBs l[k].new) = d2 at *
      generalize l[k].p = p at *
      generalize l[k].dst = q at *
      have C1 := Lib.hid c1
      have C2 := Lib.hid c2
      clear c1 c2 ok hall
      generalize l[k].old.length = m1 at *
      generalize l[k].new.length = m2 at *
      by_cases hp : 300 < p.size
      · have hfin := Lib.hid (hno.out (by rw [hone.out, decide_eq_false (by omega)]; rfl))
        clear C1 C2
        clear hno hyes hone
        go_wp2
        go_ret
        rw [hfin.out]
        exact ⟨rfl, rfl⟩
      · have hp2 : p.size ≤ 300 := by omega
        by_cases hq : 300 < q.size
        · have hfin := Lib.hid (hno.out (by rw [hone.out, decide_eq_true hp2, decide_eq_false (by omega)]; rfl))
          clear C1 C2
          clear hno hyes hone
          go_wp2
          go_ret
          rw [hfin.out]
          exact ⟨rfl, rfl⟩
        · have hq2 : q.size ≤ 300 := by omega
          cases d1
          · have hfin := Lib.hid (hno.out (by rw [hone.out, Bool.and_false]; rfl))
            clear hno hyes hone C2
            go_wp2_with fail
            refine C1.out.mono ?_
            rintro e w' ⟨rfl, rfl⟩
            go_wp2
            go_ret
            rw [hfin.out]
            exact ⟨rfl, rfl⟩
          · cases d2
            · have hfin := Lib.hid (hno.out (by rw [hone.out, Bool.and_false]))
              clear hno hyes hone
              go_wp2_with fail
              refine C1.out.mono ?_
              rintro e w' ⟨rfl, rfl⟩
              go_wp2_with fail
              refine C2.out.mono ?_
              rintro e w' ⟨rfl, rfl⟩
              go_wp2
              go_ret
              rw [hfin.out]
              exact ⟨rfl, rfl⟩
            · have hnew := Lib.hid (hyes.out (by rw [hone.out, decide_eq_true hp2, decide_eq_true hq2]; rfl))
              clear hno hyes hone
              go_wp2_with fail
              refine C1.out.mono ?_
              rintro e w' ⟨rfl, rfl⟩
              go_wp2_with fail
              refine C2.out.mono ?_
              rintro e w' ⟨rfl, rfl⟩
              go_wp2
              go_round
              case rel => exact ⟨k + 1, by omega, by go_num, hnew⟩
              case measure => simp [intOf]; omega
    · have hk2 : k = l.length := by omega
      subst hk2
      have hy := Lib.hid (light7_yes (fun j hj => hall.out j hj hj))
      clear hall
      go_wp2
      go_ret
      rw [hy.out]
      exact ⟨by simp; omega, rfl⟩
end Go.Proofs.YtknommnlkdlkdaaDoor
namespace Go.Proofs.YtknommnlkdlkdaaDoor
open Go.RowKit
set_option linter.unusedVariables false

/-- A step that is not far too long. -/
structure LtK (k : Pk) : Prop where
  p : k.path.length ≤ 300
  q : k.dst.length ≤ 300
  old : LightK k.old
  new : LightK k.new
theorem LtK.wd {k : Pk} (h : LtK k) : WdK k := ⟨Nat.le_trans h.p (by decide), Nat.le_trans h.q (by decide), h.old.wide, h.new.wide⟩
theorem LtK.zero : LtK zeroP := ⟨Nat.zero_le _, Nat.zero_le _, ⟨Nat.zero_le _, fun x h => by cases h⟩, ⟨Nat.zero_le _, fun x h => by cases h⟩⟩
theorem light_lt {x : Pm} (h : x.Light) : LtK x.key := ⟨h.p, h.q, h.old, h.new⟩
theorem lt_light {x : Pm} (h : LtK x.key) : x.Light := ⟨h.p, h.q, h.old, h.new⟩
theorem shift_lt {p q : Pk} {r : Pk × Pk} (hp : LtK p) (hq : LtK q) (h : shiftP p q = some r) : LtK r.1 ∧ LtK r.2 := by
  unfold shiftP at h
  split at h
  · cases h
    exact ⟨⟨hq.p, hq.q, hq.old, hq.new⟩, hp⟩
  · split at h
    · cases h
      exact ⟨hq, ⟨hp.p, hp.q, hp.old, hp.new⟩⟩
    · cases h
theorem pair_lt {p q b a : Pk} {n : Int} (hp : LtK p) (hq : LtK q) (h : pairP p q = (n, b, a)) : LtK b ∧ LtK a := by
  unfold pairP at h
  split at h
  · cases h
    exact ⟨LtK.zero, LtK.zero⟩
  split at h
  · cases h
    exact ⟨LtK.zero, LtK.zero⟩
  split at h
  · cases hs : shiftP p q with
    | none =>
      rw [hs] at h
      cases h
      exact ⟨LtK.zero, LtK.zero⟩
    | some r =>
      rw [hs] at h
      cases h
      exact shift_lt hp hq hs
  split at h
  · cases h
    exact ⟨⟨hp.p, hq.q, hq.old, hq.new⟩, hp⟩
  split at h
  · cases h
    exact ⟨hq, ⟨hq.q, hp.q, hp.old, hp.new⟩⟩
  split at h
  · cases h
    exact ⟨hq, hp⟩
  · cases h
    exact ⟨LtK.zero, LtK.zero⟩
/-- A step in a block of its own, its lines below. -/
def HeldP (w : World) (g : Nat) (x : Pm) : Prop := PrimAt w g x ∧ x.Ok w w.heap.size
theorem HeldP.on {w w' : World} {g : Nat} {x : Pm} (h : HeldP w g x) (hb : Below w.heap.size w w') : HeldP w' g x := ⟨h.1.on hb, h.2.on hb⟩
/-- What Pair hands back, in the laws' words. -/
def PairL (w : World) (p q : Pk) (e : Ending) (w' : World) : Prop :=
  ∃ (y z : Pm) (n : Int), e = .returned (.tuple #[.agg #[.int .i64 y.kind, .string y.p, .string y.dst, .int .i64 y.at_, .slice y.a1 y.old.length y.c1, .slice y.a2 y.new.length y.c2], .agg #[.int .i64 z.kind, .string z.p, .string z.dst, .int .i64 z.at_, .slice z.a1 z.old.length z.c1, .slice z.a2 z.new.length z.c2], .int .i64 n]) ∧
    Hid (y.Ok w' w'.heap.size ∧ z.Ok w' w'.heap.size ∧ pairP p q = (n, y.key, z.key)) ∧ Below w.heap.size w w'
theorem cpair_l (x y : Pm) (w : World) (ox : x.Ok w w.heap.size) (oy : y.Ok w w.heap.size) (wx : LtK x.key) (wy : LtK y.key) (hT : Tabs w) :
    Calls Tryd.prog 6 #[.agg #[.int .i64 x.kind, .string x.p, .string x.dst, .int .i64 x.at_, .slice x.a1 x.old.length x.c1, .slice x.a2 x.new.length x.c2], .agg #[.int .i64 y.kind, .string y.p, .string y.dst, .int .i64 y.at_, .slice y.a1 y.old.length y.c1, .slice y.a2 y.new.length y.c2]] w (PairL w x.key y.key) := by
  refine (cpair_any x y w ox oy wx.wd wy.wd hT).mono ?_
  rintro e w' ⟨b, a, rfl, h, hb⟩
  refine ⟨b, a, (pairP x.key y.key).1, rfl, ⟨h.out.1.1, h.out.2.1.1, ?_⟩, hb⟩
  rw [h.out.2.2.1, h.out.2.2.2]
/-- Both steps that Pair handed back, in blocks of their own. -/
theorem pair_kept {w w1 : World} {p q : Pk} {y z : Pm} {n : Int} (hp : LtK p) (hq : LtK q) (h : y.Ok w1 w1.heap.size ∧ z.Ok w1 w1.heap.size ∧ pairP p q = (n, y.key, z.key)) (hb : Below w.heap.size w w1) :
    Below w.heap.size w ((w1.alloc (.cells #[.int .i64 y.kind, .string y.p, .string y.dst, .int .i64 y.at_, .slice y.a1 y.old.length y.c1, .slice y.a2 y.new.length y.c2] 24)).alloc (.cells #[.int .i64 z.kind, .string z.p, .string z.dst, .int .i64 z.at_, .slice z.a1 z.old.length z.c1, .slice z.a2 z.new.length z.c2] 24)) ∧
    HeldP ((w1.alloc (.cells #[.int .i64 y.kind, .string y.p, .string y.dst, .int .i64 y.at_, .slice y.a1 y.old.length y.c1, .slice y.a2 y.new.length y.c2] 24)).alloc (.cells #[.int .i64 z.kind, .string z.p, .string z.dst, .int .i64 z.at_, .slice z.a1 z.old.length z.c1, .slice z.a2 z.new.length z.c2] 24)) w1.heap.size y ∧
    HeldP ((w1.alloc (.cells #[.int .i64 y.kind, .string y.p, .string y.dst, .int .i64 y.at_, .slice y.a1 y.old.length y.c1, .slice y.a2 y.new.length y.c2] 24)).alloc (.cells #[.int .i64 z.kind, .string z.p, .string z.dst, .int .i64 z.at_, .slice z.a1 z.old.length z.c1, .slice z.a2 z.new.length z.c2] 24)) (w1.heap.size + 1) z ∧ LtK y.key ∧ LtK z.key := by
  obtain ⟨bl, k7, k8⟩ := box2 w1 y z
  have hl := pair_lt hp hq h.2.2
  exact ⟨hb.trans (bl.mono hb.size), ⟨k7, h.1.on bl⟩, ⟨k8, h.2.1.on bl⟩, hl.1, hl.2⟩
theorem row_two {w : World} {x y : Pm} (ox : x.Ok w w.heap.size) (oy : y.Ok w w.heap.size) : Ps (w.alloc (.cells #[.int .i64 x.kind, .string x.p, .string x.dst, .int .i64 x.at_, .slice x.a1 x.old.length x.c1, .slice x.a2 x.new.length x.c2, .int .i64 y.kind, .string y.p, .string y.dst, .int .i64 y.at_, .slice y.a1 y.old.length y.c1, .slice y.a2 y.new.length y.c2] 24)) (w.alloc (.cells #[.int .i64 x.kind, .string x.p, .string x.dst, .int .i64 x.at_, .slice x.a1 x.old.length x.c1, .slice x.a2 x.new.length x.c2, .int .i64 y.kind, .string y.p, .string y.dst, .int .i64 y.at_, .slice y.a1 y.old.length y.c1, .slice y.a2 y.new.length y.c2] 24)).heap.size (some ⟨w.heap.size, 0, none⟩) [x, y] := by
  rw [World.size_alloc]
  exact ps_new (ps := [x, y]) fun z hz => by
    simp only [List.mem_cons, List.not_mem_nil, or_false] at hz
    rcases hz with rfl | rfl
    · exact ox
    · exact oy
theorem row_three {w : World} {x y z : Pm} (ox : x.Ok w w.heap.size) (oy : y.Ok w w.heap.size) (oz : z.Ok w w.heap.size) : Ps (w.alloc (.cells #[.int .i64 x.kind, .string x.p, .string x.dst, .int .i64 x.at_, .slice x.a1 x.old.length x.c1, .slice x.a2 x.new.length x.c2, .int .i64 y.kind, .string y.p, .string y.dst, .int .i64 y.at_, .slice y.a1 y.old.length y.c1, .slice y.a2 y.new.length y.c2, .int .i64 z.kind, .string z.p, .string z.dst, .int .i64 z.at_, .slice z.a1 z.old.length z.c1, .slice z.a2 z.new.length z.c2] 24)) (w.alloc (.cells #[.int .i64 x.kind, .string x.p, .string x.dst, .int .i64 x.at_, .slice x.a1 x.old.length x.c1, .slice x.a2 x.new.length x.c2, .int .i64 y.kind, .string y.p, .string y.dst, .int .i64 y.at_, .slice y.a1 y.old.length y.c1, .slice y.a2 y.new.length y.c2, .int .i64 z.kind, .string z.p, .string z.dst, .int .i64 z.at_, .slice z.a1 z.old.length z.c1, .slice z.a2 z.new.length z.c2] 24)).heap.size (some ⟨w.heap.size, 0, none⟩) [x, y, z] := by
  rw [World.size_alloc]
  exact ps_new (ps := [x, y, z]) fun u hu => by
    simp only [List.mem_cons, List.not_mem_nil, or_false] at hu
    rcases hu with rfl | rfl | rfl
    · exact ox
    · exact oy
    · exact oz
end Go.Proofs.YtknommnlkdlkdaaDoor
namespace Go.Proofs.YtknommnlkdlkdaaDoor
open Go.RowKit
set_option linter.unusedVariables false

/-- Two hunks' places behind a change of places: of one file (s), or not. -/
def Places (s : Prop) (pa pn po qa qn qo u v : Int) : Prop :=
  0 ≤ pa ∧ 0 ≤ qa ∧ ((¬ s ∧ u = qa ∧ v = pa) ∨ (s ∧ pa + pn < qa ∧ u = wrap64 (qa - pn + po) ∧ v = pa) ∨ (s ∧ (¬ pa + pn < qa ∧ qa + qo < pa) ∧ u = qa ∧ v = wrap64 (pa + qn - qo)))
theorem pair_places {p q b a : Pk} (h : pairP p q = (0, b, a)) (h6 : p.kind = 6) (k6 : q.kind = 6) : ∃ u v : Int, b = ⟨6, q.path, q.dst, u, q.old, q.new⟩ ∧ a = ⟨6, p.path, p.dst, v, p.old, p.new⟩ ∧
    Places (p.path = q.path) p.at_ p.new.length p.old.length q.at_ q.new.length q.old.length u v := by
  obtain ⟨a1, a2, u, v, hb, ha, hw⟩ := pair_six h h6 k6
  rw [k6] at hb
  rw [h6] at ha
  refine ⟨u, v, hb, ha, a1, a2, ?_⟩
  rcases hw with h | h | ⟨h, h1, h2, h3⟩
  · exact .inl h
  · exact .inr (.inl h)
  · exact .inr (.inr ⟨h, ⟨h1, h2⟩, h3⟩)
theorem places_no {s : Prop} {pa pn po qa qn qo u v : Int} (hs : ¬ s) (h : Places s pa pn po qa qn qo u v) : 0 ≤ pa ∧ 0 ≤ qa ∧ u = qa ∧ v = pa := by
  obtain ⟨a, b, h⟩ := h
  rcases h with ⟨_, h1, h2⟩ | ⟨h, _⟩ | ⟨h, _⟩
  · exact ⟨a, b, h1, h2⟩
  · exact absurd h hs
  · exact absurd h hs
theorem places_yes {s : Prop} {pa pn po qa qn qo u v : Int} (hs : s) (h : Places s pa pn po qa qn qo u v) : 0 ≤ pa ∧ 0 ≤ qa ∧ ((pa + pn < qa ∧ u = wrap64 (qa - pn + po) ∧ v = pa) ∨ ((¬ pa + pn < qa ∧ qa + qo < pa) ∧ u = qa ∧ v = wrap64 (pa + qn - qo))) := by
  obtain ⟨a, b, h⟩ := h
  rcases h with ⟨h, _⟩ | ⟨_, h⟩ | ⟨_, h⟩
  · exact absurd hs h
  · exact ⟨a, b, .inl h⟩
  · exact ⟨a, b, .inr h⟩
/-- A place a little further, of at most 2000 lines: it comes round only beyond all ints. -/
theorem wrap_near {x d : Int} (h0 : 0 ≤ x) (h1 : x < 9223372036854775808) (d1 : -10000 ≤ d) (d2 : d ≤ 10000) (hp : 0 ≤ x + d) : wrap64 (x + d) = x + d ∨ (wrap64 (x + d) < 0 ∧ wrap64 (x + d) = x + d - 18446744073709551616) := by
  unfold wrap64
  omega
/-- A place that is held against others again is no other than it says. -/
theorem wrap_held {x : Int} (h1 : x < 9223372036854775808 + 10000) (hp : 0 ≤ x) (h : 0 ≤ wrap64 x) : wrap64 x = x := by
  unfold wrap64 at *
  omega
/-- Places behind a change of places, told plainly: of those that are held against others again (u, v not below 0). -/
theorem places_held {s : Prop} {pa pn po qa qn qo u v : Int} (h : Places s pa pn po qa qn qo u v) (p0 : 0 ≤ pn) (p1 : pn ≤ 2000) (o0 : 0 ≤ po) (o1 : po ≤ 2000) (q0 : 0 ≤ qn) (q1 : qn ≤ 2000) (r0 : 0 ≤ qo) (r1 : qo ≤ 2000) (hpa : pa < 9223372036854775808) (hqa : qa < 9223372036854775808) :
    (0 ≤ u → (¬ s ∧ u = qa) ∨ (s ∧ pa + pn < qa ∧ u = qa - pn + po) ∨ (s ∧ ¬ pa + pn < qa ∧ qa + qo < pa ∧ u = qa)) ∧ (0 ≤ v → (¬ s ∧ v = pa) ∨ (s ∧ pa + pn < qa ∧ v = pa) ∨ (s ∧ ¬ pa + pn < qa ∧ qa + qo < pa ∧ v = pa + qn - qo)) := by
  obtain ⟨a, b, h⟩ := h
  rcases h with ⟨h, h1, h2⟩ | ⟨h, h1, h2, h3⟩ | ⟨h, ⟨h1, h2⟩, h3, h4⟩
  · exact ⟨fun _ => .inl ⟨h, h1⟩, fun _ => .inl ⟨h, h2⟩⟩
  · refine ⟨fun hu => .inr (.inl ⟨h, h1, ?_⟩), fun _ => .inr (.inl ⟨h, h1, h3⟩)⟩
    rw [h2] at hu ⊢
    exact wrap_held (by omega) (by omega) hu
  · refine ⟨fun hu => .inr (.inr ⟨h, h1, h2, h3⟩), fun hv => .inr (.inr ⟨h, h1, h2, ?_⟩)⟩
    rw [h4] at hv ⊢
    exact wrap_held (by omega) (by omega) hv
theorem places_lt {s : Prop} {pa pn po qa qn qo u v : Int} (h : Places s pa pn po qa qn qo u v) (hpa : pa < 9223372036854775808) (hqa : qa < 9223372036854775808) : u < 9223372036854775808 ∧ v < 9223372036854775808 := by
  obtain ⟨a, b, h⟩ := h
  unfold wrap64 at h
  rcases h with ⟨h, h1, h2⟩ | ⟨h, h1, h2, h3⟩ | ⟨h, ⟨h1, h2⟩, h3, h4⟩
  · omega
  · omega
  · omega
theorem wrap_eq {x y : Int} (h : x = y) : wrap64 x = wrap64 y := by rw [h]
theorem wrap_fit {x : Int} (h : -9223372036854775808 ≤ x ∧ x < 9223372036854775808) : wrap64 x = x := by
  unfold wrap64
  omega
set_option maxHeartbeats 4000000 in
theorem three_ints {sp sr sq : Prop} {pa pn po qa qn qo ra rn ro u1 v1 u2 v2 u3 v3 w1 x1 w2 x2 w3 x3 : Int}
    (b1 : 0 ≤ pn ∧ pn ≤ 2000 ∧ 0 ≤ po ∧ po ≤ 2000) (b2 : 0 ≤ qn ∧ qn ≤ 2000 ∧ 0 ≤ qo ∧ qo ≤ 2000) (b3 : 0 ≤ rn ∧ rn ≤ 2000 ∧ 0 ≤ ro ∧ ro ≤ 2000)
    (c1 : pa < 9223372036854775808) (c2 : qa < 9223372036854775808) (c3 : ra < 9223372036854775808)
    (hs : (sp ∧ sr → sq) ∧ (sp ∧ sq → sr) ∧ (sr ∧ sq → sp))
    (h1 : Places sp pa pn po qa qn qo u1 v1) (h2 : Places sr v1 pn po ra rn ro u2 v2) (h3 : Places sq u1 qn qo u2 rn ro u3 v3)
    (h4 : Places sq qa qn qo ra rn ro w1 x1) (h5 : Places sr pa pn po w1 rn ro w2 x2) (h6 : Places sp x2 pn po x1 qn qo w3 x3) : u3 = w2 ∧ v3 = w3 ∧ v2 = x3 := by
  obtain ⟨i1, i2, i3, i4⟩ := b1
  obtain ⟨j1, j2, j3, j4⟩ := b2
  obtain ⟨k1, k2, k3, k4⟩ := b3
  have v10 := h2.1
  have u10 := h3.1
  have u20 := h3.2.1
  have w10 := h5.2.1
  have x20 := h6.1
  have x10 := h6.2.1
  have l1 := places_lt h1 c1 c2
  have l4 := places_lt h4 c2 c3
  have f2 := (places_held h2 i1 i2 i3 i4 k1 k2 k3 k4 l1.2 c3).1 u20
  have f5 := (places_held h5 i1 i2 i3 i4 k1 k2 k3 k4 c1 l4.1).2 x20
  have l2 := places_lt h2 l1.2 c3
  have l5 := places_lt h5 c1 l4.1
  have f1 := places_held h1 i1 i2 i3 i4 j1 j2 j3 j4 c1 c2
  have g1u := f1.1 u10
  have g1v := f1.2 v10
  have f4 := places_held h4 j1 j2 j3 j4 k1 k2 k3 k4 c2 c3
  have g4u := f4.1 w10
  have g4v := f4.2 x10
  clear f1 f4 h1 h4
  obtain ⟨_, _, h2⟩ := h2
  obtain ⟨_, _, h3⟩ := h3
  obtain ⟨_, _, h5⟩ := h5
  obtain ⟨_, _, h6⟩ := h6
  by_cases ep : sp
  · by_cases er : sr
    · have eq := hs.1 ⟨ep, er⟩
      simp only [ep, er, eq, not_true_eq_false, false_and, true_and, false_or] at *
      clear hs
      rcases g1u with g1 | g1 <;> rcases g4u with g4 | g4 <;> rcases f2 with f2 | f2 <;> rcases f5 with f5 | f5 <;> first
        | (exfalso; omega)
        | (rcases g1v with g1v | g1v <;> rcases g4v with g4v | g4v <;> first
          | (exfalso; omega)
          | (rcases h2 with h2 | h2 <;> rcases h3 with h3 | h3 <;> first
            | (exfalso; omega)
            | (rcases h5 with h5 | h5 <;> rcases h6 with h6 | h6 <;> first
              | (exfalso; omega)
              | (exact ⟨(by first | omega | exact h3.2.1.trans ((wrap_eq (by omega)).trans h5.2.1.symm) | (rw [h3.2.1, wrap_fit (by omega)]; omega) | (rw [h5.2.1, wrap_fit (by omega)]; omega)), (by first | omega | exact h3.2.2.trans ((wrap_eq (by omega)).trans h6.2.1.symm) | (rw [h3.2.2, wrap_fit (by omega)]; omega) | (rw [h6.2.1, wrap_fit (by omega)]; omega)), (by first | omega | exact h2.2.2.trans ((wrap_eq (by omega)).trans h6.2.2.symm) | (rw [h2.2.2, wrap_fit (by omega)]; omega) | (rw [h6.2.2, wrap_fit (by omega)]; omega))⟩))))
    · have eq : ¬ sq := fun h => er (hs.2.1 ⟨ep, h⟩)
      simp only [ep, er, eq, not_true_eq_false, not_false_eq_true, false_and, true_and, false_or, or_false] at *
      rcases g1u with g1 | g1 <;> rcases h6 with h6 | h6 <;> first
        | (exfalso; omega)
        | (exact ⟨(by first | omega | exact h3.2.1.trans ((wrap_eq (by omega)).trans h5.2.1.symm) | (rw [h3.2.1, wrap_fit (by omega)]; omega) | (rw [h5.2.1, wrap_fit (by omega)]; omega)), (by first | omega | exact h3.2.2.trans ((wrap_eq (by omega)).trans h6.2.1.symm) | (rw [h3.2.2, wrap_fit (by omega)]; omega) | (rw [h6.2.1, wrap_fit (by omega)]; omega)), (by first | omega | exact h2.2.2.trans ((wrap_eq (by omega)).trans h6.2.2.symm) | (rw [h2.2.2, wrap_fit (by omega)]; omega) | (rw [h6.2.2, wrap_fit (by omega)]; omega))⟩)
  · by_cases er : sr
    · have eq : ¬ sq := fun h => ep (hs.2.2 ⟨er, h⟩)
      simp only [ep, er, eq, not_true_eq_false, not_false_eq_true, false_and, true_and, false_or, or_false] at *
      rcases f2 with f2 | f2 <;> rcases f5 with f5 | f5 <;> rcases h2 with h2 | h2 <;> rcases h5 with h5 | h5 <;> first
        | (exfalso; omega)
        | (exact ⟨(by first | omega | exact h3.2.1.trans ((wrap_eq (by omega)).trans h5.2.1.symm) | (rw [h3.2.1, wrap_fit (by omega)]; omega) | (rw [h5.2.1, wrap_fit (by omega)]; omega)), (by first | omega | exact h3.2.2.trans ((wrap_eq (by omega)).trans h6.2.1.symm) | (rw [h3.2.2, wrap_fit (by omega)]; omega) | (rw [h6.2.1, wrap_fit (by omega)]; omega)), (by first | omega | exact h2.2.2.trans ((wrap_eq (by omega)).trans h6.2.2.symm) | (rw [h2.2.2, wrap_fit (by omega)]; omega) | (rw [h6.2.2, wrap_fit (by omega)]; omega))⟩)
    · by_cases eq : sq
      · simp only [ep, er, eq, not_true_eq_false, not_false_eq_true, false_and, true_and, false_or, or_false] at *
        rcases g4u with g4 | g4 <;> rcases h3 with h3 | h3 <;> first
          | (exfalso; omega)
          | (exact ⟨(by first | omega | exact h3.2.1.trans ((wrap_eq (by omega)).trans h5.2.1.symm) | (rw [h3.2.1, wrap_fit (by omega)]; omega) | (rw [h5.2.1, wrap_fit (by omega)]; omega)), (by first | omega | exact h3.2.2.trans ((wrap_eq (by omega)).trans h6.2.1.symm) | (rw [h3.2.2, wrap_fit (by omega)]; omega) | (rw [h6.2.1, wrap_fit (by omega)]; omega)), (by first | omega | exact h2.2.2.trans ((wrap_eq (by omega)).trans h6.2.2.symm) | (rw [h2.2.2, wrap_fit (by omega)]; omega) | (rw [h6.2.2, wrap_fit (by omega)]; omega))⟩)
      · simp only [ep, er, eq, not_false_eq_true, false_and, true_and, or_false] at *
        refine ⟨?_, ?_, ?_⟩ <;> omega
/-- Three hunks, whichever two neighbours change places first: the same steps the other way round. -/
theorem three_same {p q r q1 p1 r1 p2 r2 q2 s1 t1 s2 t2 y z : Pk} (k1 : p.kind = 6) (k2 : q.kind = 6) (k3 : r.kind = 6) (c1 : p.at_ < 9223372036854775808) (c2 : q.at_ < 9223372036854775808) (c3 : r.at_ < 9223372036854775808)
    (h1 : pairP p q = (0, q1, p1)) (h2 : pairP p1 r = (0, r1, p2)) (h3 : pairP q1 r1 = (0, r2, q2)) (h4 : pairP q r = (0, s1, t1)) (h5 : pairP p s1 = (0, s2, t2)) (h6 : pairP t2 t1 = (0, y, z)) : r2 = s2 ∧ q2 = y ∧ p2 = z := by
  have bd : ∀ x : Pk, ckP x = 0 → x.kind = 6 → (0 ≤ (x.new.length : Int) ∧ (x.new.length : Int) ≤ 2000 ∧ 0 ≤ (x.old.length : Int) ∧ (x.old.length : Int) ≤ 2000) := fun x hc hk => by
    obtain ⟨_, a, b⟩ := ck_nums hc hk
    omega
  have b1 := bd p (pair_is h1).1 k1
  have b2 := bd q (pair_is h1).2.1 k2
  have b3 := bd r (pair_is h4).2.1 k3
  obtain ⟨u1, v1, rfl, rfl, w1⟩ := pair_places h1 k1 k2
  obtain ⟨u2, v2, rfl, rfl, w2⟩ := pair_places h2 rfl k3
  obtain ⟨u3, v3, rfl, rfl, w3⟩ := pair_places h3 rfl rfl
  obtain ⟨u4, v4, rfl, rfl, w4⟩ := pair_places h4 k2 k3
  obtain ⟨u5, v5, rfl, rfl, w5⟩ := pair_places h5 k1 rfl
  obtain ⟨u6, v6, rfl, rfl, w6⟩ := pair_places h6 rfl rfl
  simp only at w1 w2 w3 w4 w5 w6
  obtain ⟨e1, e2, e3⟩ := three_ints b1 b2 b3 c1 c2 c3 ⟨fun h => h.1.symm.trans h.2, fun h => h.1.trans h.2, fun h => h.1.trans h.2.symm⟩ w1 w2 w3 w4 w5 w6
  subst e1; subst e2; subst e3
  exact ⟨rfl, rfl, rfl⟩
end Go.Proofs.YtknommnlkdlkdaaDoor
