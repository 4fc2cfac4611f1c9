/- name.Minus, Both, Within, Has, Same. -/
import Derived.Test.YtekegomlodbohaaNameAmong
import Derived.Handy
namespace Go.Proofs.Ytekegomlodbohaa
open Go.RowKit Go.Sort
set_option linter.unusedVariables false

set_option maxRecDepth 100000 in
theorem delete_nil (fv : Value) (w : World) :
    Calls Try.prog 28 #[.slice none 0 0, fv] w fun e w' => e = .returned (.slice none 0 0) ∧ w' = w := by
  go_enter Try.func28, Try.ntmps28
  go_wp2_with (go_at_call 38; refine (Try.slices_IndexFunc_empty (α := Nat) none 0 fv _).mono ?_; rintro e w' ⟨rfl, rfl⟩)
  go_ret
  exact ⟨rfl, rfl⟩

theorem putRow_below {B : Nat} {w0 w : World} {g q : Nat} {d : Array (List UInt8)} (h : Below B w0 w) (hg : B ≤ g) : Below B w0 (putRow encStr (Sort.ahead w q) g 0 d) := Lib.below_putRow h hg

theorem delete_own (g : Nat) (lb : Array Value) (eg : ∀ args w, (callFunc g args).run Try.prog w = .ok (.enter g args) w) (p : List UInt8 → Bool) (v : Value) (ls : List (List UInt8)) (w0 w : World) (B : Nat)
    (hb : Below B w0 w) (ho : OwnS w B v ls) (hn : ls.length ≤ 1000000) (hp : PredAt Try.prog g lb encStr p w) (hpo : ∀ blk, v.ownBlock = some blk → PredOver Try.prog g lb encStr p blk 0 ls.length w) :
    Calls Try.prog 28 #[v, .func (.func g) #[] lb] w fun e w' => ∃ v', e = .returned v' ∧ OwnS w' B v' (ls.filter fun x => !p x) ∧ Below B w0 w' := by
  by_cases hnil : v = .slice none 0 0
  · subst hnil
    have h0 : ls = [] := by
      rcases ho.2 with ⟨_, h⟩ | ⟨_, _, _, e, _⟩
      · exact List.length_eq_zero_iff.1 h
      · cases e
    subst h0
    refine (delete_nil _ w).mono ?_
    rintro e w' ⟨rfl, rfl⟩
    exact ⟨_, rfl, OwnS.nil _ _, hb⟩
  · obtain ⟨blk, cap, rfl, hbg, hgl, hncap, hcm, hlen, hH⟩ := Lib.holds_of_ownsRow ho hnil
    have h := Try.slices_DeleteFunc encStr (fun _ => rfl) p g lb eg [] (fun w => Try.zeroValue9 w) blk 0 cap ls.toArray w hp (by have := hpo blk rfl; simpa using this) hH (by simp; omega) (by simpa using hncap)
    have e1 : ls.toArray.size = ls.length := by simp
    rw [e1] at h
    refine h.mono ?_
    rintro e w' ⟨rfl, q, rfl⟩
    have hle : (ls.filter fun x => !p x).length ≤ ls.length := List.length_filter_le _ _
    refine ⟨_, rfl, ?_, putRow_below hb hbg⟩
    have hc := Lib.ownsRow_putRow (q := q) (k := (ls.filter fun x => !p x).length) (ys := (ls.filter fun x => !p x) ++ List.replicate (ls.length - (ls.filter fun x => !p x).length) []) ho (by simp; omega) (by omega)
    rw [List.take_left] at hc
    exact hc

/-- What one of both has, and the other has not: as sets. -/
def minusS (a b : List (List UInt8)) : List (List UInt8) := setS (a.filter fun x => !decide (x ∈ b))
def bothS (a b : List (List UInt8)) : List (List UInt8) := setS (a.filter fun x => decide (x ∈ b))
theorem minus_eq (a b : List (List UInt8)) : ((setS a).filter fun x => !decide (x ∈ setS b)) = minusS a b :=
  rising_ext (rising_filter (rising_setS a) _) (rising_setS _) fun z => by simp [minusS, mem_setS]
theorem both_eq (a b : List (List UInt8)) : ((setS a).filter fun x => !(!decide (x ∈ setS b))) = bothS a b :=
  rising_ext (rising_filter (rising_setS a) _) (rising_setS _) fun z => by simp [bothS, mem_setS]
theorem ins_len (x : List UInt8) : ∀ l, (ins x l).length ≤ l.length + 1
  | [] => by simp [ins]
  | y :: r => by
    have := ins_len x r
    unfold ins
    split
    · simp; omega
    · split <;> simp
theorem setS_len (l : List (List UInt8)) : (setS l).length ≤ l.length := by
  suffices h : ∀ (l a : List (List UInt8)), (l.foldl (fun a x => ins x a) a).length ≤ l.length + a.length by simpa [setS] using h l []
  intro l
  induction l with
  | nil => simp
  | cons x r ih =>
    intro a
    have h1 := ih (ins x a)
    have h2 := ins_len x a
    simp only [List.foldl_cons, List.length_cons]
    omega

theorem enters_among1 : ∀ args w, (callFunc 39 args).run Try.prog w = .ok (.enter 39 args) w := enters_of Try.func39 (by kernel_rfl) rfl
theorem enters_both1 : ∀ args w, (callFunc 30 args).run Try.prog w = .ok (.enter 30 args) w := enters_of Try.func30 (by kernel_rfl) rfl

/-- What a call leaves that hands back a row of its own. -/
def OwnLeft (w : World) (ls : List (List UInt8)) (e : Ending) (w' : World) : Prop :=
  ∃ v, e = .returned v ∧ OwnS w' w.heap.size v ls ∧ Below w.heap.size w w'

theorem minus_delete {w w1 w2 : World} {v : Value} {la lc : List (List UInt8)} {B : Nat} (ho : OwnS w1 w.heap.size v (setS la)) (hb : Below w.heap.size w w1) (hs : SetAt w2 w1.heap.size w2.heap.size B (setS lc)) (hb2 : Below w1.heap.size w1 w2) (ha : la.length ≤ 1000000) (hn : lc.length ≤ 1000000) :
    Calls Try.prog 28 #[v, .func (.func 39) #[] #[.pointer (some ⟨B, 0, none⟩)]] w2 (OwnLeft w (minusS la lc)) := by
  have hl := setS_len la
  have hl2 := setS_len lc
  have hlt := World.ownsRow.lt ho
  rw [← minus_eq]
  refine delete_own 39 _ enters_among1 (fun x => decide (x ∈ setS lc)) v (setS la) w w2 w.heap.size (hb.trans (hb2.mono hb.size)) (ho.kept hb2) (by omega) ?_ ?_
  · intro W x hW
    have := among1_gives _ _ B (setS lc) (rising_setS lc) (by omega) (toB x) W (hs.below hW (Nat.le_refl _))
    rw [of_toB] at this
    exact this
  · intro blk hblk n os dk x hd
    have hb3 := hlt blk hblk
    have := among1_gives _ _ B (setS lc) (rising_setS lc) (by omega) (toB x) (sortWorld encStr w2 blk 0 n dk os) (hs.other fun i h1 h2 => heap_sortWorld encStr w2 blk 0 n i dk os h2 (by omega))
    rw [of_toB] at this
    exact this

set_option maxRecDepth 100000 in
theorem minus_any (A A2 : Option Addr) (ss tt : List ByteArray) (cap cap2 : Nat) (w : World) (hs : Strs w w.heap.size A ss) (ht : Strs w w.heap.size A2 tt) (hn : ss.length ≤ 1000000) (hn2 : tt.length ≤ 1000000) :
    Calls Try.prog 17 #[.slice A ss.length cap, .slice A2 tt.length cap2] w (OwnLeft w (minusS (lists ss) (lists tt))) := by
  go_enter Try.func17, Try.ntmps17
  go_wp2_with fail
  refine (set_any _ _ _ _ hs hn).mono ?_
  rintro e w1 ⟨v, rfl, ho, hb⟩
  have ht1 := ht.on hb
  go_wp2_with fail
  refine (among_any _ _ _ _ ht1 hn2).mono ?_
  rintro e w2 ⟨B, rfl, hset, hb2⟩
  have hd := minus_delete ho hb hset hb2 (by rw [lists_len]; exact hn) (by rw [lists_len]; exact hn2)
  clear ho hb hset hb2 hs ht ht1
  go_wp2_with fail
  refine hd.mono ?_
  rintro e w3 ⟨v3, rfl, ho3, hb3⟩
  go_wp2
  go_ret
  exact ⟨_, rfl, ho3, hb3⟩

theorem both1_gives (lo hi B C : Nat) (ls : List (List UInt8)) (hr : Rising ls) (hn : ls.length ≤ 1000000) (x : ByteArray) (W : World) (h : SetAt W lo hi B ls) (hC : W.cell? ⟨C, 0, none⟩ = some (.func (.func 39) #[] #[.pointer (some ⟨B, 0, none⟩)])) :
    Calls Try.prog 30 #[.string x, .pointer (some ⟨C, 0, none⟩)] W fun e w' => e = .returned (.bool (!decide (x.data.toList ∈ ls))) ∧ ∃ q, w' = W.drewN q := by
  have hg := among1_gives lo hi B ls hr hn x W h
  generalize decide (x.data.toList ∈ ls) = r at *
  clear h
  go_enter Try.func30, Try.ntmps30
  go_wp2_with (go_at_call 39; refine hg.mono ?_; rintro e w1 ⟨rfl, q, rfl⟩)
  go_ret
  exact ⟨rfl, q, rfl⟩

theorem both_delete {w w1 w2 : World} {v : Value} {la lc : List (List UInt8)} {B C : Nat} (hs : SetAt w1 w.heap.size C B (setS lc)) (hC : w.heap.size ≤ C ∧ C < w1.heap.size) (hcell : w1.cell? ⟨C, 0, none⟩ = some (.func (.func 39) #[] #[.pointer (some ⟨B, 0, none⟩)]))
    (hb : Below w.heap.size w w1) (ho : OwnS w2 w1.heap.size v (setS la)) (hb2 : Below w1.heap.size w1 w2) (ha : la.length ≤ 1000000) (hn : lc.length ≤ 1000000) :
    Calls Try.prog 28 #[v, .func (.func 30) #[] #[.pointer (some ⟨C, 0, none⟩)]] w2 (OwnLeft w (bothS la lc)) := by
  have hl := setS_len la
  have hl2 := setS_len lc
  have hlt := World.ownsRow.lt ho
  have hsz := hb2.size
  have hs2 : SetAt w2 w.heap.size C B (setS lc) := hs.below hb2 (by omega)
  have hc2 : w2.cell? ⟨C, 0, none⟩ = some (.func (.func 39) #[] #[.pointer (some ⟨B, 0, none⟩)]) := (hb2.cell (p := ⟨C, 0, none⟩) hC.2).trans hcell
  rw [← both_eq]
  refine delete_own 30 _ enters_both1 (fun x => !decide (x ∈ setS lc)) v (setS la) w w2 w.heap.size (hb.trans (hb2.mono hb.size)) (ho.more hb.size) (by omega) ?_ ?_
  · intro W x hW
    have := both1_gives _ _ B C (setS lc) (rising_setS lc) (by omega) (toB x) W (hs2.below hW (by omega)) ((hW.cell (p := ⟨C, 0, none⟩) (by show C < _; omega)).trans hc2)
    rw [of_toB] at this
    exact this
  · intro blk hblk n os dk x hd
    have hb3 := hlt blk hblk
    have hk : ∀ i, i < w1.heap.size → (sortWorld encStr w2 blk 0 n dk os).heap[i]? = w2.heap[i]? := fun i h2 => heap_sortWorld encStr w2 blk 0 n i dk os (by omega) (by omega)
    have := both1_gives _ _ B C (setS lc) (rising_setS lc) (by omega) (toB x) (sortWorld encStr w2 blk 0 n dk os) (hs2.other fun i h1 h2 => hk i (by omega)) (by rw [← hc2]; simp only [World.cell?, hk C hC.2])
    rw [of_toB] at this
    exact this

set_option maxRecDepth 100000 in
theorem both_any (A A2 : Option Addr) (ss tt : List ByteArray) (cap cap2 : Nat) (w : World) (hs : Strs w w.heap.size A ss) (ht : Strs w w.heap.size A2 tt) (hn : ss.length ≤ 1000000) (hn2 : tt.length ≤ 1000000) :
    Calls Try.prog 18 #[.slice A ss.length cap, .slice A2 tt.length cap2] w (OwnLeft w (bothS (lists ss) (lists tt))) := by
  have hst : ∀ (a : Addr) (m : Mode) (W : World) (B : Nat), Sem.run Try.prog (store a (.func (.func 39) #[] #[.pointer (some ⟨B, 0, none⟩)]) m) W = stored Try.prog W a (.func (.func 39) #[] #[.pointer (some ⟨B, 0, none⟩)]) m := fun a m W B => run_store Try.prog W a _ m rfl
  go_enter Try.func18, Try.ntmps18
  go_wp2_with fail
  refine (among_any _ _ _ _ ht hn2).mono ?_
  rintro e w1 ⟨B, rfl, hset, hb⟩
  have hb1 : Below w.heap.size w (w1.alloc (.cells #[.func (.func 39) #[] #[.pointer (some ⟨B, 0, none⟩)]] 23)) := hb.alloc hb.size _
  have hset1 : SetAt (w1.alloc (.cells #[.func (.func 39) #[] #[.pointer (some ⟨B, 0, none⟩)]] 23)) w.heap.size w1.heap.size B (setS (lists tt)) :=
    hset.below ((Below.refl _ _).alloc (Nat.le_refl _) _) (Nat.le_refl _)
  have hcell : (w1.alloc (.cells #[.func (.func 39) #[] #[.pointer (some ⟨B, 0, none⟩)]] 23)).cell? ⟨w1.heap.size, 0, none⟩ = some (.func (.func 39) #[] #[.pointer (some ⟨B, 0, none⟩)]) := by rw [World.cell?_alloc_new]; rfl
  have hs1 := hs.on hb1
  have hsz := hb.size
  have hset' := Lib.hid hset1
  have hb' := Lib.hid hb1
  have hcell' := Lib.hid hcell
  clear hset hb hset1 hb1 hcell
  go_wp2_with fail
  refine (set_any _ _ _ _ hs1 hn).mono ?_
  rintro e w2 ⟨v, rfl, ho, hb2⟩
  have hd := both_delete (la := lists ss) hset'.out ⟨hsz, by simp⟩ hcell'.out hb'.out ho hb2 (by rw [lists_len]; exact hn) (by rw [lists_len]; exact hn2)
  clear hs1 ho hb2 hset' hb' hcell' hs ht
  go_wp2_with fail
  refine hd.mono ?_
  rintro e w3 ⟨v3, rfl, ho3, hb3⟩
  go_wp2
  go_ret
  exact ⟨_, rfl, ho3, hb3⟩

theorem contains_eq (ss : List ByteArray) (s : ByteArray) : Lib.containsS ss s = decide (s.data.toList ∈ lists ss) := by
  rw [Bool.eq_iff_iff, Lib.containsS_iff, decide_eq_true_eq, lists, List.mem_map]
  constructor
  · exact fun h => ⟨s, h, rfl⟩
  · rintro ⟨t, ht, e⟩
    rw [← bytes_inj e]
    exact ht

theorem contains_any (A : Option Addr) (ss : List ByteArray) (cap : Nat) (s : ByteArray) (w : World) (hs : Strs w w.heap.size A ss) (hn : ss.length ≤ 1000000) :
    Calls Try.prog 26 #[.slice A ss.length cap, .string s] w fun e w' => e = .returned (.bool (decide (s.data.toList ∈ lists ss))) ∧ w' = w := by
  by_cases h0 : 0 < ss.length
  · obtain ⟨b, off, rfl, hb, hc⟩ := hs h0
    have h := Try.slices_Contains_string b off ss.length cap ss s w (Nat.le_refl _) (by omega) (fun j hj => by rw [hc j hj]; simp [List.getD_eq_getElem?_getD, List.getElem?_eq_getElem hj])
    rw [List.take_of_length_le (Nat.le_refl _), contains_eq] at h
    exact h
  · obtain rfl : ss = [] := List.length_eq_zero_iff.1 (by omega)
    have h := Try.slices_Contains_string_empty A cap s w
    simpa [lists] using h

set_option maxRecDepth 100000 in
theorem has_any (A : Option Addr) (ss : List ByteArray) (cap : Nat) (s : ByteArray) (w : World) (hs : Strs w w.heap.size A ss) (hn : ss.length ≤ 1000000) :
    Calls Try.prog 14 #[.slice A ss.length cap, .string s] w fun e w' => e = .returned (.bool (decide (s.data.toList ∈ lists ss))) ∧ w' = w := by
  have h := contains_any A ss cap s w hs hn
  generalize decide (s.data.toList ∈ lists ss) = r at *
  clear hs
  go_enter Try.func14, Try.ntmps14
  go_wp2_with (go_at_call 26; refine h.mono ?_; rintro e w1 ⟨rfl, rfl⟩)
  go_ret
  exact ⟨rfl, rfl⟩

theorem equal_any (A A2 : Option Addr) (ss tt : List ByteArray) (cap cap2 : Nat) (w : World) (hs : Strs w w.heap.size A ss) (ht : Strs w w.heap.size A2 tt) (hn : ss.length ≤ 1000000) (hn2 : tt.length ≤ 1000000) :
    Calls Try.prog 31 #[.slice A ss.length cap, .slice A2 tt.length cap2] w fun e w' => e = .returned (.bool (decide (ss = tt))) ∧ ∃ q, w' = w.drewN q := by
  by_cases hl : ss.length = tt.length
  · by_cases h0 : 0 < ss.length
    · obtain ⟨b, off, rfl, hb, hc⟩ := hs h0
      obtain ⟨b2, off2, rfl, hb2, hc2⟩ := ht (by omega)
      have h := Try.slices_Equal_string b off ss.length cap b2 off2 tt.length cap2 ss tt w (Nat.le_refl _) (Nat.le_refl _) (by omega) (by omega) (fun j hj => by rw [hc j hj]; simp [List.getD_eq_getElem?_getD, List.getElem?_eq_getElem hj]) (fun j hj => by rw [hc2 j hj]; simp [List.getD_eq_getElem?_getD, List.getElem?_eq_getElem hj])
      rw [List.take_of_length_le (Nat.le_refl _), List.take_of_length_le (Nat.le_refl _)] at h
      exact h
    · obtain rfl : ss = [] := List.length_eq_zero_iff.1 (by omega)
      obtain rfl : tt = [] := List.length_eq_zero_iff.1 (by simpa using hl.symm)
      refine (Try.slices_Equal_string_empty A A2 cap 0 cap2 w (by omega)).mono ?_
      rintro e w' ⟨rfl, rfl⟩
      exact ⟨by simp, 0, rfl⟩
  · refine (Try.slices_Equal_string_lens A A2 ss.length cap tt.length cap2 w hl).mono ?_
    rintro e w' ⟨rfl, rfl⟩
    have : ss ≠ tt := fun e => hl (by rw [e])
    exact ⟨by simp [this], 0, rfl⟩

theorem toBs_eq (a b : List (List UInt8)) : decide (toBs a = toBs b) = decide (a = b) := by
  rw [decide_eq_decide]
  exact ⟨fun h => by rw [← lists_toBs a, h, lists_toBs], fun h => by rw [h]⟩

theorem nsame_equal {w w1 w2 : World} {v v2 : Value} {la lc : List (List UInt8)} {B B2 : Nat} (ho : OwnS w1 B v la) (hb : Below w.heap.size w w1) (ho2 : OwnS w2 B2 v2 lc) (hb2 : Below w1.heap.size w1 w2) (ha : la.length ≤ 1000000) (hn : lc.length ≤ 1000000) :
    Calls Try.prog 31 #[v, v2] w2 fun e w' => e = .returned (.bool (decide (la = lc))) ∧ Below w.heap.size w w' := by
  obtain ⟨A, cap, rfl, hs, _, _⟩ := ho.strs
  obtain ⟨A2, cap2, rfl, hs2, _, _⟩ := ho2.strs
  have h := equal_any A A2 (toBs la) (toBs lc) cap cap2 w2 (hs.on hb2) hs2 (by rw [toBs_len]; exact ha) (by rw [toBs_len]; exact hn)
  rw [toBs_len, toBs_len, toBs_eq] at h
  refine h.mono ?_
  rintro e w' ⟨rfl, q, rfl⟩
  exact ⟨rfl, below_drewN (hb.trans (hb2.mono hb.size)) q⟩

set_option maxRecDepth 100000 in
theorem nsame_any (A A2 : Option Addr) (ss tt : List ByteArray) (cap cap2 : Nat) (w : World) (hs : Strs w w.heap.size A ss) (ht : Strs w w.heap.size A2 tt) (hn : ss.length ≤ 1000000) (hn2 : tt.length ≤ 1000000) :
    Calls Try.prog 20 #[.slice A ss.length cap, .slice A2 tt.length cap2] w fun e w' => e = .returned (.bool (decide (setS (lists ss) = setS (lists tt)))) ∧ Below w.heap.size w w' := by
  have hl := setS_len (lists ss)
  have hl2 := setS_len (lists tt)
  rw [lists_len] at hl hl2
  go_enter Try.func20, Try.ntmps20
  go_wp2_with fail
  refine (set_any _ _ _ _ hs hn).mono ?_
  rintro e w1 ⟨v, rfl, ho, hb⟩
  have ht1 := ht.on hb
  go_wp2_with fail
  refine (set_any _ _ _ _ ht1 hn2).mono ?_
  rintro e w2 ⟨v2, rfl, ho2, hb2⟩
  have hd := nsame_equal ho hb ho2 hb2 (by omega) (by omega)
  clear ho hb ho2 hb2 hs ht ht1
  go_wp2_with fail
  refine hd.mono ?_
  rintro e w3 ⟨rfl, hb3⟩
  go_wp2
  go_ret
  exact ⟨rfl, hb3⟩

set_option maxRecDepth 100000 in
theorem within_any (A A2 : Option Addr) (ss tt : List ByteArray) (cap cap2 : Nat) (w : World) (hs : Strs w w.heap.size A ss) (ht : Strs w w.heap.size A2 tt) (hn : ss.length ≤ 1000000) (hn2 : tt.length ≤ 1000000) :
    Calls Try.prog 19 #[.slice A ss.length cap, .slice A2 tt.length cap2] w fun e w' => e = .returned (.bool (decide ((minusS (lists ss) (lists tt)).length = 0))) ∧ Below w.heap.size w w' := by
  have hm := minus_any A A2 ss tt cap cap2 w hs ht hn hn2
  clear hs ht
  generalize minusS (lists ss) (lists tt) = ls at *
  go_enter Try.func19, Try.ntmps19
  go_wp2_with fail
  refine hm.mono ?_
  rintro e w1 ⟨v, rfl, ho, hb⟩
  obtain ⟨A1, cap1, rfl, _, _, _⟩ := ho.strs
  clear ho
  go_wp2
  go_ret
  refine ⟨?_, hb⟩
  show Ending.returned (Value.bool ((ls.length : Int) == 0)) = _
  congr 2
  rw [Bool.eq_iff_iff]
  simp
end Go.Proofs.Ytekegomlodbohaa
