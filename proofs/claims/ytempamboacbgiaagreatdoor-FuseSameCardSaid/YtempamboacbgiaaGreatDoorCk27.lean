/- The reference's With of layer 6. The reference's Do of layer 6. Trees, plainly: what a call answers, by what files say. What package tree's calls are to do, as words: each is to be proved of the landed code. A tree of one field, a slice; Tr: what a tree is. Trees, plainly: files in order, each path once; what With and Without make of them. Trees, plainly: what holds of each tree that calls make. -/
import Derived.Test.YtempamboacbgiaaGreatDoorCk25
import Derived.Deep.RegionLaw
import Derived.Test.YtempamboacbgiaaGreatDoorCk24
import Derived.Test.YtempamboacbgiaaGreatDoorCk06
import Derived.Test.YtempamboacbgiaaGreatDoorCk02
namespace Go.Proofs.YtempamboacbgiaaGreatDoor
open Go.RowKit
set_option linter.unusedVariables false

end Go.Proofs.YtempamboacbgiaaGreatDoor
namespace Go.Proofs.YtempamboacbgiaaGreatDoor
open Go.RowKit
set_option linter.unusedVariables false

/-- A call as it lies. -/
structure Cm where
  kind : Int
  p : ByteArray
  dst : ByteArray
  a : Option Addr
  c : Nat
  ls : List (List UInt8)
def Cm.cells (c : Cm) : List Value := [.int .i64 c.kind, .string c.p, .string c.dst, .slice c.a c.ls.length c.c]
section
variable {w w' : World} {g : Nat} {c : Cm}
end
end Go.Proofs.YtempamboacbgiaaGreatDoor
namespace Go.Proofs.YtempamboacbgiaaGreatDoor
open Go.RowKit
set_option linter.unusedVariables false

def lessK (x y : PF) : Bool := lessP nameP x.1 y.1
def placeK (x : PF) (out : List PF) : Nat → Nat
  | 0 => 0
  | j + 1 => match out[j]? with
    | some g => if lessK x g then placeK x out j else j + 1
    | none => j + 1
def insK (out : List PF) (x : PF) : List PF := out.take (placeK x out out.length) ++ [x] ++ out.drop (placeK x out out.length)
def sortK (l : List PF) : List PF := l.foldl insK []
def withoutK (ks : List PF) (p : List UInt8) : List PF := ks.filter fun k => decide (k.1 ≠ p)
def withK (ks : List PF) (x : PF) : List PF := sortK (withoutK ks x.1 ++ [x])
def dirK (ks : List PF) (p : List UInt8) : Bool := decide (p = []) || (match ks.find? fun k => decide (k.1 = p) with
  | some k => k.2.1
  | none => false)
def childK (ks : List PF) (p : List UInt8) : Bool := ks.any fun k => decide (dirP nameP k.1 = p)
/-- What a call answers: its error, and the files behind it; ck: the error of its lines. -/
def doK (ks : List PF) (kind : Int) (p dst : List UInt8) (ls : List (List UInt8)) (ck : Int) : Int × List PF :=
  if names nameP p = [] ∨ ((kind < 0 ∨ 2 < kind) ∧ names nameP dst = []) then (8, ks)
  else match ks.find? fun k => decide (k.1 = p) with
  | none =>
    if kind = 0 then (if dirK ks (dirP nameP p) = false then (9, ks) else (0, withK ks (p, true, [])))
    else if kind = 1 then (if ck ≠ 0 then (ck, ks) else if dirK ks (dirP nameP p) = false then (9, ks) else (0, withK ks (p, false, ls)))
    else (9, ks)
  | some f =>
    if kind = 0 then (10, ks)
    else if kind = 1 then (if f.2.1 = true then (11, ks) else if ck ≠ 0 then (ck, ks) else (0, withK ks (p, false, ls)))
    else if kind = 2 then (if childK ks p = true then (12, ks) else (0, withoutK ks p))
    else if f.2.1 = true then (11, ks)
    else if (ks.find? fun k => decide (k.1 = dst)).isSome = true then (10, ks)
    else if dirK ks (dirP nameP dst) = false then (9, ks)
    else (0, withK (withoutK ks p) (dst, false, f.2.2))

theorem key_eq (f : Fm) (p : ByteArray) : decide (f.p = p) = decide (f.key.1 = p.data.toList) := by
  rw [decide_eq_decide]
  exact ⟨fun h => by rw [← h]; rfl, fun h => bytes_inj h⟩
theorem key_without (fs : List Fm) (p : ByteArray) : fkeys (withoutF fs p) = withoutK (fkeys fs) p.data.toList := by
  unfold fkeys withoutF withoutK
  rw [List.filter_map]
  congr 1
  congr 1
  funext f
  have := key_eq f p
  simp only [Function.comp, decide_not]
  rw [this]
theorem key_find (fs : List Fm) (p : ByteArray) : (fkeys fs).find? (fun k => decide (k.1 = p.data.toList)) = (fs.find? fun f => decide (f.p = p)).map Fm.key := by
  unfold fkeys
  rw [List.find?_map]
  congr 2
  funext f
  exact (key_eq f p).symm
theorem key_dir (fs : List Fm) (p : ByteArray) : dirAt fs p = dirK (fkeys fs) p.data.toList := by
  unfold dirAt dirK
  rw [key_find]
  congr 1
  · rw [decide_eq_decide]
    exact ⟨fun h => by rw [h], fun h => bytes_inj h⟩
  · cases fs.find? fun f => decide (f.p = p) <;> rfl
end Go.Proofs.YtempamboacbgiaaGreatDoor
namespace Go.Proofs.YtempamboacbgiaaGreatDoor
open Go.RowKit
set_option linter.unusedVariables false

/-- A tree and an error come back: the tree, or the empty one. -/
def TreeLeft (Tr : World → Option Addr → Nat → Nat → List PF → Prop) (w : World) (er : Int) (res : List PF) (e : Ending) (w' : World) : Prop :=
  ∃ A' n' c', e = .returned (.tuple #[.agg #[.slice A' n' c'], .int .i64 er]) ∧ Hid ((er = 0 → Tr w' A' n' c' res) ∧ (er ≠ 0 → Tr w' A' n' c' [])) ∧ Below w.heap.size w w'
/-- A file comes back, or none. -/
def FileLeft (w : World) (o : Option PF) (e : Ending) (w' : World) : Prop :=
  ∃ f : Fm, e = .returned (.tuple #[.agg #[.string f.p, .bool f.d, .slice f.a f.ls.length f.c], .bool o.isSome]) ∧ Hid (f.Ok w' w'.heap.size ∧ ∀ k, o = some k → f.key = k) ∧ Below w.heap.size w w'
def inK (ks : List PF) (p : List UInt8) : List (List UInt8) := (ks.filter fun k => decide (dirP nameP k.1 = p)).map (·.1)
/-- All of package tree but Size. -/
structure TreeC (Tr : World → Option Addr → Nat → Nat → List PF → Prop) : Prop where
  on : ∀ {w w' : World} {A : Option Addr} {n c : Nat} {ks : List PF}, Tr w A n c ks → Below w.heap.size w w' → Tr w' A n c ks
  set : ∀ {w w' : World} {A : Option Addr} {n c : Nat} {ks : List PF} {G : Nat} {A2 : Option Addr} {n2 c2 : Nat}, Tr w A n c ks → TAt w G A2 n2 c2 → w.grownBy w' (some G) → Tr w' A n c ks
  zero : ∀ w, Tr w none 0 0 []
  mkdir : ∀ (B : Option Addr) (n c : Nat) (ks : List PF) (p : ByteArray) (er : Int) (res : List PF) (w : World), Tr w B n c ks → ks.length ≤ 400 → p.size ≤ 1000 → doK ks 0 p.data.toList [] [] 0 = (er, res) → Calls Tryz.prog 44 #[.agg #[.slice B n c], .string p] w (TreeLeft Tr w er res)
  write : ∀ (B : Option Addr) (n c : Nat) (ks : List PF) (p : ByteArray) (A : Option Addr) (ls : List (List UInt8)) (cap : Nat) (er : Int) (res : List PF) (w : World), Tr w B n c ks → ks.length ≤ 400 → p.size ≤ 1000 → Strs w w.heap.size A (toBs ls) → Room A ls.length cap → WideK ls → Tabs w → doK ks 1 p.data.toList [] ls (checkN (toBs ls)) = (er, res) →
    Calls Tryz.prog 82 #[.agg #[.slice B n c], .string p, .slice A ls.length cap] w (TreeLeft Tr w er res)
  remove : ∀ (B : Option Addr) (n c : Nat) (ks : List PF) (p : ByteArray) (er : Int) (res : List PF) (w : World), Tr w B n c ks → ks.length ≤ 400 → p.size ≤ 1000 → doK ks 2 p.data.toList [] [] 0 = (er, res) → Calls Tryz.prog 85 #[.agg #[.slice B n c], .string p] w (TreeLeft Tr w er res)
  move : ∀ (B : Option Addr) (n c : Nat) (ks : List PF) (p q : ByteArray) (er : Int) (res : List PF) (w : World), Tr w B n c ks → ks.length ≤ 400 → p.size ≤ 1000 → q.size ≤ 1000 → doK ks 3 p.data.toList q.data.toList [] 0 = (er, res) → Calls Tryz.prog 46 #[.agg #[.slice B n c], .string p, .string q] w (TreeLeft Tr w er res)
  get : ∀ (B : Option Addr) (n c : Nat) (ks : List PF) (p : ByteArray) (w : World), Tr w B n c ks → ks.length ≤ 400 → p.size ≤ 1000 → Calls Tryz.prog 81 #[.agg #[.slice B n c], .string p] w (FileLeft w (ks.find? fun k => decide (k.1 = p.data.toList)))
  in_ : ∀ (B : Option Addr) (n c : Nat) (ks : List PF) (p : ByteArray) (w : World), Tr w B n c ks → ks.length ≤ 400 → p.size ≤ 1000 → Calls Tryz.prog 114 #[.agg #[.slice B n c], .string p] w (RowLeft w (inK ks p.data.toList))
  same : ∀ (B : Option Addr) (n c : Nat) (ks : List PF) (B2 : Option Addr) (n2 c2 : Nat) (js : List PF) (w : World), Tr w B n c ks → Tr w B2 n2 c2 js → ks.length ≤ 400 → js.length ≤ 400 → Calls Tryz.prog 11 #[.agg #[.slice B n c], .agg #[.slice B2 n2 c2]] w fun e w' => e = .returned (.bool (decide (ks = js))) ∧ Below w.heap.size w w'
end Go.Proofs.YtempamboacbgiaaGreatDoor
namespace Go.Proofs.YtempamboacbgiaaGreatDoor
open Go.RowKit
set_option linter.unusedVariables false

/-- In order, each path once. -/
def Rise (ks : List PF) : Prop := ks.Pairwise fun x y => lessK x y = true
theorem lessK_asymm {x y : PF} (h : lessK x y = true) : lessK y x = false := by
  cases h2 : lessK y x with
  | false => rfl
  | true => exact absurd ⟨h, h2⟩ (lessP_asymm nameP x.1 y.1)
theorem lessK_trans {x y z : PF} (h : lessK x y = true) (h2 : lessK y z = true) : lessK x z = true := lessP_trans nameP h h2
theorem lessK_ne {x y : PF} (h : lessK x y = true) : x.1 ≠ y.1 := fun e => by
  unfold lessK at h
  rw [e, lessP_irrefl] at h
  cases h
theorem lessK_or {x y : PF} (h : x.1 ≠ y.1) : lessK x y = true ∨ lessK y x = true := by
  rcases lessP_total nameP x.1 y.1 with h1 | h1 | h1
  · exact .inl h1
  · exact .inr h1
  · exact absurd h1 h
theorem Rise.without {ks : List PF} (h : Rise ks) (p : List UInt8) : Rise (withoutK ks p) := List.Pairwise.sublist List.filter_sublist h
theorem without_not {ks : List PF} {p : List UInt8} {k : PF} (h : k ∈ withoutK ks p) : k.1 ≠ p ∧ k ∈ ks := by
  have := List.mem_filter.1 h
  exact ⟨by simpa using this.2, this.1⟩
/-- Where a file goes, told by its neighbours. -/
theorem place_at {x : PF} {out : List PF} {i : Nat} (hi : i ≤ out.length) (h1 : ∀ j (hj : j < out.length), j < i → lessK out[j] x = true) (h2 : ∀ j (hj : j < out.length), i ≤ j → lessK x out[j] = true) : placeK x out out.length = i := by
  have key : ∀ n, i ≤ n → n ≤ out.length → placeK x out n = i := by
    intro n
    induction n with
    | zero => intro h _; simp [placeK]; omega
    | succ n ih =>
      intro hin hn
      have hlt : n < out.length := by omega
      rw [placeK, List.getElem?_eq_getElem hlt]
      by_cases he : i = n + 1
      · have := lessK_asymm (h1 n hlt (by omega))
        simp [this, he]
      · have := h2 n hlt (by omega)
        simp [this, ih (by omega) (by omega)]
  exact key out.length hi (Nat.le_refl _)
theorem insK_at {x : PF} {out : List PF} {i : Nat} (hi : i ≤ out.length) (h1 : ∀ j (hj : j < out.length), j < i → lessK out[j] x = true) (h2 : ∀ j (hj : j < out.length), i ≤ j → lessK x out[j] = true) : insK out x = out.take i ++ [x] ++ out.drop i := by
  unfold insK
  rw [place_at hi h1 h2]
theorem foldl_rise : ∀ (l out : List PF), Rise (out ++ l) → l.foldl insK out = out ++ l
  | [], out, _ => by simp
  | x :: l, out, h => by
    have hx : ∀ g ∈ out, lessK g x = true := fun g hg => (List.pairwise_append.1 h).2.2 g hg x (by simp)
    have e : insK out x = out ++ [x] := by
      rw [insK_at (i := out.length) (Nat.le_refl _) (fun j hj _ => hx _ (List.getElem_mem _)) (fun j hj h => by omega), List.take_length, List.drop_length, List.append_nil]
    rw [List.foldl_cons, e, foldl_rise l (out ++ [x]) (by rw [List.append_assoc]; exact h), List.append_assoc]
    rfl
theorem sort_rise {l : List PF} (h : Rise l) : sortK l = l := foldl_rise l [] (by simpa using h)
theorem with_rise {ks : List PF} (h : Rise ks) (x : PF) : withK ks x = insK (withoutK ks x.1) x := by
  unfold withK
  have e : sortK (withoutK ks x.1 ++ [x]) = insK (sortK (withoutK ks x.1)) x := by
    unfold sortK
    rw [List.foldl_append]
    rfl
  rw [e, sort_rise (h.without _)]
/-- There is a place. -/
theorem place_is : ∀ {out : List PF} {x : PF}, Rise out → (∀ k ∈ out, k.1 ≠ x.1) → ∃ i, i ≤ out.length ∧ (∀ j (hj : j < out.length), j < i → lessK out[j] x = true) ∧ (∀ j (hj : j < out.length), i ≤ j → lessK x out[j] = true)
  | [], x, _, _ => ⟨0, Nat.le_refl _, fun j hj => by simp at hj, fun j hj => by simp at hj⟩
  | k :: l, x, h, hn => by
    obtain ⟨h1, h2⟩ := List.pairwise_cons.1 h
    rcases lessK_or (hn k (by simp)) with hk | hk
    · obtain ⟨i, hi, a, b⟩ := place_is (out := l) (x := x) h2 fun g hg => hn g (List.mem_cons_of_mem _ hg)
      refine ⟨i + 1, by simp; omega, fun j hj hji => ?_, fun j hj hji => ?_⟩
      · cases j with
        | zero => exact hk
        | succ j => exact a j (by simpa using hj) (by omega)
      · cases j with
        | zero => omega
        | succ j => exact b j (by simpa using hj) (by omega)
    · refine ⟨0, Nat.zero_le _, fun j hj h => by omega, fun j hj _ => ?_⟩
      cases j with
      | zero => exact hk
      | succ j => exact lessK_trans hk (h1 _ (List.getElem_mem _))
theorem insK_rise {out : List PF} {x : PF} (h : Rise out) (hn : ∀ k ∈ out, k.1 ≠ x.1) : Rise (insK out x) := by
  obtain ⟨i, hi, a, b⟩ := place_is h hn
  rw [insK_at hi a b]
  have h' : Rise (out.take i ++ out.drop i) := by rw [List.take_append_drop]; exact h
  obtain ⟨p1, p2, p3⟩ := List.pairwise_append.1 h'
  have ha : ∀ g ∈ out.take i, lessK g x = true := fun g hg => by
    obtain ⟨j, hj, rfl⟩ := List.getElem_of_mem hg
    rw [List.length_take] at hj
    rw [List.getElem_take]
    exact a j (by omega) (by omega)
  have hb : ∀ g ∈ out.drop i, lessK x g = true := fun g hg => by
    obtain ⟨j, hj, rfl⟩ := List.getElem_of_mem hg
    rw [List.length_drop] at hj
    rw [List.getElem_drop]
    exact b (i + j) (by omega) (by omega)
  refine List.pairwise_append.2 ⟨List.pairwise_append.2 ⟨p1, by simp, fun g hg y hy => ?_⟩, p2, fun g hg y hy => ?_⟩
  · rw [List.mem_singleton] at hy
    subst hy
    exact ha g hg
  · rcases List.mem_append.1 hg with hg | hg
    · exact p3 g hg y hy
    · rw [List.mem_singleton] at hg
      subst hg
      exact hb y hy
theorem Rise.with_ {ks : List PF} (h : Rise ks) (x : PF) : Rise (withK ks x) := by
  rw [with_rise h x]
  exact insK_rise (h.without _) fun k hk => (without_not hk).1
theorem insK_mem (out : List PF) (x f : PF) : f ∈ insK out x ↔ f ∈ out ∨ f = x := by
  have e : f ∈ out ↔ f ∈ out.take (placeK x out out.length) ∨ f ∈ out.drop (placeK x out out.length) := by
    rw [← List.mem_append, List.take_append_drop]
  rw [e]
  unfold insK
  simp only [List.mem_append, List.mem_singleton]
  constructor
  · rintro ((h | h) | h)
    · exact .inl (.inl h)
    · exact .inr h
    · exact .inl (.inr h)
  · rintro ((h | h) | h)
    · exact .inl (.inl h)
    · exact .inr h
    · exact .inl (.inr h)
theorem with_memK {ks : List PF} (h : Rise ks) {x f : PF} : f ∈ withK ks x ↔ (f ∈ ks ∧ f.1 ≠ x.1) ∨ f = x := by
  rw [with_rise h x, insK_mem]
  constructor
  · rintro (h | h)
    · exact .inl ⟨(without_not h).2, (without_not h).1⟩
    · exact .inr h
  · rintro (⟨h1, h2⟩ | h)
    · exact .inl (List.mem_filter.2 ⟨h1, by simpa using h2⟩)
    · exact .inr h
/-- What is found stands at one place alone. -/
theorem rise_once {ks : List PF} (h : Rise ks) {i j : Nat} (hi : i < ks.length) (hj : j < ks.length) (e : ks[i].1 = ks[j].1) : i = j := by
  rcases Nat.lt_trichotomy i j with k | k | k
  · exact absurd e (lessK_ne (List.pairwise_iff_getElem.1 h i j hi hj k))
  · exact k
  · exact absurd e.symm (lessK_ne (List.pairwise_iff_getElem.1 h j i hj hi k))
end Go.Proofs.YtempamboacbgiaaGreatDoor
namespace Go.Proofs.YtempamboacbgiaaGreatDoor
open Go.RowKit
set_option linter.unusedVariables false

theorem find_one {ks : List PF} (h : Rise ks) {p : List UInt8} {k : PF} : ks.find? (fun k => decide (k.1 = p)) = some k ↔ k ∈ ks ∧ k.1 = p := by
  constructor
  · intro e
    exact ⟨List.mem_of_find?_eq_some e, by simpa using List.find?_some e⟩
  · rintro ⟨hm, hp⟩
    obtain ⟨j, hj, rfl⟩ := List.getElem_of_mem hm
    rw [List.find?_eq_some_iff_getElem]
    refine ⟨by simpa using hp, j, hj, rfl, fun i hi => ?_⟩
    have : ks[i].1 ≠ p := fun e => by
      have := rise_once h (i := i) (j := j) (by omega) hj (by rw [e, hp])
      omega
    simpa using this
theorem find_noK {ks : List PF} {p : List UInt8} (h : ks.find? (fun k => decide (k.1 = p)) = none) : ∀ k ∈ ks, k.1 ≠ p := fun k hk => by
  rw [List.find?_eq_none] at h
  simpa using h k hk
theorem dirK_iff {ks : List PF} (h : Rise ks) {p : List UInt8} : dirK ks p = true ↔ p = [] ∨ ∃ k ∈ ks, k.1 = p ∧ k.2.1 = true := by
  unfold dirK
  rw [Bool.or_eq_true, decide_eq_true_eq]
  constructor
  · rintro (e | e)
    · exact .inl e
    · cases hf : ks.find? fun k => decide (k.1 = p) with
      | none => rw [hf] at e; cases e
      | some k =>
        rw [hf] at e
        obtain ⟨hm, hp⟩ := (find_one h).1 hf
        exact .inr ⟨k, hm, hp, e⟩
  · rintro (e | ⟨k, hm, hp, hd⟩)
    · exact .inl e
    · refine .inr ?_
      rw [(find_one h).2 ⟨hm, hp⟩]
      exact hd
/-- In order, each in a directory, lines that may be. -/
structure Well (ks : List PF) : Prop where
  rise : Rise ks
  paths : ∀ k ∈ ks, names nameP k.1 ≠ []
  up : ∀ k ∈ ks, dirP nameP k.1 = [] ∨ ∃ d ∈ ks, d.1 = dirP nameP k.1 ∧ d.2.1 = true
  lines : ∀ k ∈ ks, checkN (toBs k.2.2) = 0
  dirs : ∀ k ∈ ks, k.2.1 = true → k.2.2 = []
theorem Well.nil : Well [] := ⟨List.Pairwise.nil, by simp, by simp, by simp, by simp⟩
/-- A new one, or a file in the place of a file. -/
theorem Well.put {ks : List PF} (h : Well ks) {x : PF} (hp : names nameP x.1 ≠ []) (hu : dirP nameP x.1 = [] ∨ ∃ d ∈ ks, d.1 = dirP nameP x.1 ∧ d.2.1 = true) (hl : checkN (toBs x.2.2) = 0) (hd : x.2.1 = true → x.2.2 = []) (ho : ∀ k ∈ ks, k.1 = x.1 → k.2.1 = false) : Well (withK ks x) := by
  have keep : ∀ {q : List UInt8}, (q = [] ∨ ∃ d ∈ ks, d.1 = q ∧ d.2.1 = true) → (q = [] ∨ ∃ d ∈ withK ks x, d.1 = q ∧ d.2.1 = true) := by
    rintro q (e | ⟨d, hm, e, hdd⟩)
    · exact .inl e
    · refine .inr ⟨d, (with_memK h.rise).2 (.inl ⟨hm, fun e2 => ?_⟩), e, hdd⟩
      rw [ho d hm e2] at hdd
      cases hdd
  refine ⟨h.rise.with_ x, fun k hk => ?_, fun k hk => ?_, fun k hk => ?_, fun k hk hkd => ?_⟩ <;> rcases (with_memK h.rise).1 hk with ⟨hm, hne⟩ | rfl
  · exact h.paths k hm
  · exact hp
  · exact keep (h.up k hm)
  · exact keep hu
  · exact h.lines k hm
  · exact hl
  · exact h.dirs k hm hkd
  · exact hd hkd
/-- One gone in which nothing lies. -/
theorem Well.take {ks : List PF} (h : Well ks) {p : List UInt8} (hn : ∀ k ∈ ks, dirP nameP k.1 = p → p = [] ∨ ∀ d ∈ ks, d.1 = p → d.2.1 = false) (hp : p ≠ []) : Well (withoutK ks p) := by
  refine ⟨h.rise.without p, fun k hk => h.paths k (without_not hk).2, fun k hk => ?_, fun k hk => h.lines k (without_not hk).2, fun k hk => h.dirs k (without_not hk).2⟩
  have hm := (without_not hk).2
  rcases h.up k hm with e | ⟨d, hd, e, hdd⟩
  · exact .inl e
  · refine .inr ⟨d, List.mem_filter.2 ⟨hd, ?_⟩, e, hdd⟩
    have : d.1 ≠ p := fun e2 => by
      rcases hn k hm (by rw [← e, e2]) with h0 | h0
      · exact hp h0
      · rw [h0 d hd e2] at hdd
        cases hdd
    simpa using this
theorem names_nilK : names nameP [] = [] := by
  have h : nameP [] = false := by decide +kernel
  simp [names, pieces, h]
theorem names_ne {p : List UInt8} (h : names nameP p ≠ []) : p ≠ [] := fun e => by
  rw [e] at h
  exact h names_nilK
theorem check_nil : checkN (toBs []) = 0 := rfl
theorem do_well {ks : List PF} (h : Well ks) {kind : Int} {p q : List UInt8} {ls : List (List UInt8)} {res : List PF} (hd : doK ks kind p q ls (checkN (toBs ls)) = (0, res)) : Well res := by
  unfold doK at hd
  split at hd
  · simp at hd
  · rename_i hr
    rw [not_or, not_and] at hr
    obtain ⟨hr1, hr2⟩ := hr
    split at hd
    · rename_i hf
      have hno := find_noK hf
      have ho : ∀ k ∈ ks, k.1 = p → k.2.1 = false := fun k hk e => absurd e (hno k hk)
      split at hd
      · split at hd
        · simp at hd
        · rename_i hdir
          obtain ⟨_, rfl⟩ := Prod.mk.inj hd
          have hdir := (dirK_iff h.rise).1 (by simpa using hdir)
          exact h.put (x := (p, true, [])) hr1 hdir check_nil (fun _ => rfl) ho
      · split at hd
        · split at hd
          · rename_i hc
            exact absurd (Prod.mk.inj hd).1 hc
          · rename_i hc
            split at hd
            · simp at hd
            · rename_i hdir
              obtain ⟨_, rfl⟩ := Prod.mk.inj hd
              have hdir := (dirK_iff h.rise).1 (by simpa using hdir)
              exact h.put (x := (p, false, ls)) hr1 hdir (by simpa using hc) (fun e => by cases e) ho
        · simp at hd
    · rename_i f hf
      obtain ⟨hfm, hfp⟩ := (find_one h.rise).1 hf
      split at hd
      · simp at hd
      · split at hd
        · split at hd
          · simp at hd
          · rename_i hfd
            split at hd
            · rename_i hc
              exact absurd (Prod.mk.inj hd).1 hc
            · rename_i hc
              obtain ⟨_, rfl⟩ := Prod.mk.inj hd
              refine h.put (x := (p, false, ls)) hr1 ?_ (by simpa using hc) (fun e => by cases e) fun k hk e => ?_
              · have := h.up f hfm
                rwa [hfp] at this
              · have := (find_one h.rise).2 ⟨hk, e⟩
                rw [hf] at this
                cases this
                simpa using hfd
        · split at hd
          · split at hd
            · simp at hd
            · rename_i hch
              obtain ⟨_, rfl⟩ := Prod.mk.inj hd
              refine h.take (fun k hk e => ?_) (names_ne hr1)
              have : childK ks p = true := by
                unfold childK
                rw [List.any_eq_true]
                exact ⟨k, hk, by simpa using e⟩
              exact absurd this hch
          · rename_i hn0 hn1 hn2
            split at hd
            · simp at hd
            · rename_i hfd
              split at hd
              · simp at hd
              · rename_i hft
                split at hd
                · simp at hd
                · rename_i hdir
                  obtain ⟨_, rfl⟩ := Prod.mk.inj hd
                  have hdir := (dirK_iff h.rise).1 (by simpa using hdir)
                  have hff : ∀ d ∈ ks, d.1 = p → d.2.1 = false := fun d hd e => by
                    have := (find_one h.rise).2 ⟨hd, e⟩
                    rw [hf] at this
                    cases this
                    simpa using hfd
                  have hq : ∀ k ∈ ks, k.1 ≠ q := by
                    refine find_noK ?_
                    cases hh : ks.find? fun k => decide (k.1 = q) with
                    | none => rfl
                    | some k => rw [hh] at hft; simp at hft
                  have hw := h.take (fun k hk e => .inr hff) (names_ne hr1)
                  refine hw.put (x := (q, false, f.2.2)) (hr2 (by omega)) ?_ (h.lines f hfm) (fun e => by cases e) fun k hk e => absurd e (hq k (without_not hk).2)
                  rcases hdir with e | ⟨d, hdm, e, hdd⟩
                  · exact .inl e
                  · refine .inr ⟨d, List.mem_filter.2 ⟨hdm, ?_⟩, e, hdd⟩
                    have : d.1 ≠ p := fun e2 => by
                      rw [hff d hdm e2] at hdd
                      cases hdd
                    simpa using this
end Go.Proofs.YtempamboacbgiaaGreatDoor
