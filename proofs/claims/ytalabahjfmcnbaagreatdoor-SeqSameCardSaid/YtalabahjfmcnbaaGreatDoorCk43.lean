/- Trees, plainly: what a call answers, by what files say. Lines, plainly: which texts are lines; the text of lines; the lines of a text; where lines stand. What a step says, and what is wrong with it. What package tree's calls are to do, as words: each is to be proved of the landed code. A tree of one field, a slice; Tr: what a tree is. Trees, plainly: files in order, each path once; what With and Without make of them. Trees, plainly: what holds of each tree that calls make. -/
import Derived.BigQuiet
import Derived.Deep.QuietTactic
import Derived.Handy
import Derived.Deep.RegionLaw
import Derived.Shelf.Spec.BytesIndexFunc
import Derived.Test.YtalabahjfmcnbaaGreatDoorCk04
import Derived.Test.YtalabahjfmcnbaaGreatDoorCk40
import Derived.Test.YtalabahjfmcnbaaGreatDoorCk41
namespace Go.Proofs.YtalabahjfmcnbaaGreatDoor
open Go.RowKit
set_option linter.unusedVariables false

def dirK (ks : List PF) (p : List UInt8) : Bool := decide (p = []) || (match ks.find? fun k => decide (k.1 = p) with
  | some k => k.2.1
  | none => false)
def childK (ks : List PF) (p : List UInt8) : Bool := ks.any fun k => decide (dirP nameP k.1 = p)
/-- What a call answers: its error, and the files behind it; ck: the error of its lines. -/
def doK (ks : List PF) (kind : Int) (p dst : List UInt8) (ls : List (List UInt8)) (ck : Int) : Int × List PF :=
  if names nameP p = [] ∨ ((kind < 0 ∨ 2 < kind) ∧ names nameP dst = []) then (8, ks)
  else match ks.find? fun k => decide (k.1 = p) with
  | none =>
    if kind = 0 then (if dirK ks (dirP nameP p) = false then (9, ks) else (0, withK ks (p, true, [])))
    else if kind = 1 then (if ck ≠ 0 then (ck, ks) else if dirK ks (dirP nameP p) = false then (9, ks) else (0, withK ks (p, false, ls)))
    else (9, ks)
  | some f =>
    if kind = 0 then (10, ks)
    else if kind = 1 then (if f.2.1 = true then (11, ks) else if ck ≠ 0 then (ck, ks) else (0, withK ks (p, false, ls)))
    else if kind = 2 then (if childK ks p = true then (12, ks) else (0, withoutK ks p))
    else if f.2.1 = true then (11, ks)
    else if (ks.find? fun k => decide (k.1 = dst)).isSome = true then (10, ks)
    else if dirK ks (dirP nameP dst) = false then (9, ks)
    else (0, withK (withoutK ks p) (dst, false, f.2.2))

theorem key_eq (f : Fm) (p : ByteArray) : decide (f.p = p) = decide (f.key.1 = p.data.toList) := by
  rw [decide_eq_decide]
  exact ⟨fun h => by rw [← h]; rfl, fun h => bytes_inj h⟩
theorem key_without (fs : List Fm) (p : ByteArray) : fkeys (withoutF fs p) = withoutK (fkeys fs) p.data.toList := by
  unfold fkeys withoutF withoutK
  rw [List.filter_map]
  congr 1
  congr 1
  funext f
  have := key_eq f p
  simp only [Function.comp, decide_not]
  rw [this]
theorem key_find (fs : List Fm) (p : ByteArray) : (fkeys fs).find? (fun k => decide (k.1 = p.data.toList)) = (fs.find? fun f => decide (f.p = p)).map Fm.key := by
  unfold fkeys
  rw [List.find?_map]
  congr 2
  funext f
  exact (key_eq f p).symm
theorem key_dir (fs : List Fm) (p : ByteArray) : dirAt fs p = dirK (fkeys fs) p.data.toList := by
  unfold dirAt dirK
  rw [key_find]
  congr 1
  · rw [decide_eq_decide]
    exact ⟨fun h => by rw [h], fun h => bytes_inj h⟩
  · cases fs.find? fun f => decide (f.p = p) <;> rfl
end Go.Proofs.YtalabahjfmcnbaaGreatDoor
namespace Go.Proofs.YtalabahjfmcnbaaGreatDoor
set_option linter.unusedVariables false

/-- Do lines stand at a place? -/
def atB (ls part : List (List UInt8)) (k : Int) : Bool := decide (0 ≤ k) && decide ((part.length : Int) ≤ ls.length - k) && decide ((ls.drop k.toNat).take part.length = part)
end Go.Proofs.YtalabahjfmcnbaaGreatDoor
namespace Go.Proofs.YtalabahjfmcnbaaGreatDoor
open Go.RowKit
set_option linter.unusedVariables false

theorem LightK.mid {ls : List (List UInt8)} (h : LightK ls) : MidK ls := ⟨Nat.le_trans h.1 (by decide), h.2⟩
end Go.Proofs.YtalabahjfmcnbaaGreatDoor
namespace Go.Proofs.YtalabahjfmcnbaaGreatDoor
open Go.RowKit
set_option linter.unusedVariables false

/-- A tree and an error come back: the tree, or the empty one. -/
def TreeLeft (Tr : World → Option Addr → Nat → Nat → List PF → Prop) (w : World) (er : Int) (res : List PF) (e : Ending) (w' : World) : Prop :=
  ∃ A' n' c', e = .returned (.tuple #[.agg #[.slice A' n' c'], .int .i64 er]) ∧ Hid ((er = 0 → Tr w' A' n' c' res) ∧ (er ≠ 0 → Tr w' A' n' c' [])) ∧ Below w.heap.size w w'
/-- A file comes back, or none. -/
def FileLeft (w : World) (o : Option PF) (e : Ending) (w' : World) : Prop :=
  ∃ f : Fm, e = .returned (.tuple #[.agg #[.string f.p, .bool f.d, .slice f.a f.ls.length f.c], .bool o.isSome]) ∧ Hid (f.Ok w' w'.heap.size ∧ ∀ k, o = some k → f.key = k) ∧ Below w.heap.size w w'
def inK (ks : List PF) (p : List UInt8) : List (List UInt8) := (ks.filter fun k => decide (dirP nameP k.1 = p)).map (·.1)
/-- All of package tree but Size. -/
structure TreeC (Tr : World → Option Addr → Nat → Nat → List PF → Prop) : Prop where
  on : ∀ {w w' : World} {A : Option Addr} {n c : Nat} {ks : List PF}, Tr w A n c ks → Below w.heap.size w w' → Tr w' A n c ks
  set : ∀ {w w' : World} {A : Option Addr} {n c : Nat} {ks : List PF} {G : Nat} {A2 : Option Addr} {n2 c2 : Nat}, Tr w A n c ks → TAt w G A2 n2 c2 → w.grownBy w' (some G) → Tr w' A n c ks
  zero : ∀ w, Tr w none 0 0 []
  mkdir : ∀ (B : Option Addr) (n c : Nat) (ks : List PF) (p : ByteArray) (er : Int) (res : List PF) (w : World), Tr w B n c ks → ks.length ≤ 400 → p.size ≤ 1000 → doK ks 0 p.data.toList [] [] 0 = (er, res) → Calls Tryz.prog 56 #[.agg #[.slice B n c], .string p] w (TreeLeft Tr w er res)
  write : ∀ (B : Option Addr) (n c : Nat) (ks : List PF) (p : ByteArray) (A : Option Addr) (ls : List (List UInt8)) (cap : Nat) (er : Int) (res : List PF) (w : World), Tr w B n c ks → ks.length ≤ 400 → p.size ≤ 1000 → Strs w w.heap.size A (toBs ls) → Room A ls.length cap → WideK ls → Tabs w → doK ks 1 p.data.toList [] ls (checkN (toBs ls)) = (er, res) →
    Calls Tryz.prog 95 #[.agg #[.slice B n c], .string p, .slice A ls.length cap] w (TreeLeft Tr w er res)
  remove : ∀ (B : Option Addr) (n c : Nat) (ks : List PF) (p : ByteArray) (er : Int) (res : List PF) (w : World), Tr w B n c ks → ks.length ≤ 400 → p.size ≤ 1000 → doK ks 2 p.data.toList [] [] 0 = (er, res) → Calls Tryz.prog 98 #[.agg #[.slice B n c], .string p] w (TreeLeft Tr w er res)
  move : ∀ (B : Option Addr) (n c : Nat) (ks : List PF) (p q : ByteArray) (er : Int) (res : List PF) (w : World), Tr w B n c ks → ks.length ≤ 400 → p.size ≤ 1000 → q.size ≤ 1000 → doK ks 3 p.data.toList q.data.toList [] 0 = (er, res) → Calls Tryz.prog 58 #[.agg #[.slice B n c], .string p, .string q] w (TreeLeft Tr w er res)
  get : ∀ (B : Option Addr) (n c : Nat) (ks : List PF) (p : ByteArray) (w : World), Tr w B n c ks → ks.length ≤ 400 → p.size ≤ 1000 → Calls Tryz.prog 94 #[.agg #[.slice B n c], .string p] w (FileLeft w (ks.find? fun k => decide (k.1 = p.data.toList)))
  in_ : ∀ (B : Option Addr) (n c : Nat) (ks : List PF) (p : ByteArray) (w : World), Tr w B n c ks → ks.length ≤ 400 → p.size ≤ 1000 → Calls Tryz.prog 140 #[.agg #[.slice B n c], .string p] w (RowLeft w (inK ks p.data.toList))
  same : ∀ (B : Option Addr) (n c : Nat) (ks : List PF) (B2 : Option Addr) (n2 c2 : Nat) (js : List PF) (w : World), Tr w B n c ks → Tr w B2 n2 c2 js → ks.length ≤ 400 → js.length ≤ 400 → Calls Tryz.prog 18 #[.agg #[.slice B n c], .agg #[.slice B2 n2 c2]] w fun e w' => e = .returned (.bool (decide (ks = js))) ∧ Below w.heap.size w w'
end Go.Proofs.YtalabahjfmcnbaaGreatDoor
namespace Go.Proofs.YtalabahjfmcnbaaGreatDoor
open Go.RowKit
set_option linter.unusedVariables false

theorem lessK_ne {x y : PF} (h : lessK x y = true) : x.1 ≠ y.1 := fun e => by
  unfold lessK at h
  rw [e, lessP_irrefl] at h
  cases h
/-- What is found stands at one place alone. -/
theorem rise_once {ks : List PF} (h : Rise ks) {i j : Nat} (hi : i < ks.length) (hj : j < ks.length) (e : ks[i].1 = ks[j].1) : i = j := by
  rcases Nat.lt_trichotomy i j with k | k | k
  · exact absurd e (lessK_ne (List.pairwise_iff_getElem.1 h i j hi hj k))
  · exact k
  · exact absurd e.symm (lessK_ne (List.pairwise_iff_getElem.1 h j i hj hi k))
end Go.Proofs.YtalabahjfmcnbaaGreatDoor
namespace Go.Proofs.YtalabahjfmcnbaaGreatDoor
open Go.RowKit
set_option linter.unusedVariables false

theorem find_one {ks : List PF} (h : Rise ks) {p : List UInt8} {k : PF} : ks.find? (fun k => decide (k.1 = p)) = some k ↔ k ∈ ks ∧ k.1 = p := by
  constructor
  · intro e
    exact ⟨List.mem_of_find?_eq_some e, by simpa using List.find?_some e⟩
  · rintro ⟨hm, hp⟩
    obtain ⟨j, hj, rfl⟩ := List.getElem_of_mem hm
    rw [List.find?_eq_some_iff_getElem]
    refine ⟨by simpa using hp, j, hj, rfl, fun i hi => ?_⟩
    have : ks[i].1 ≠ p := fun e => by
      have := rise_once h (i := i) (j := j) (by omega) hj (by rw [e, hp])
      omega
    simpa using this
theorem find_noK {ks : List PF} {p : List UInt8} (h : ks.find? (fun k => decide (k.1 = p)) = none) : ∀ k ∈ ks, k.1 ≠ p := fun k hk => by
  rw [List.find?_eq_none] at h
  simpa using h k hk
theorem dirK_iff {ks : List PF} (h : Rise ks) {p : List UInt8} : dirK ks p = true ↔ p = [] ∨ ∃ k ∈ ks, k.1 = p ∧ k.2.1 = true := by
  unfold dirK
  rw [Bool.or_eq_true, decide_eq_true_eq]
  constructor
  · rintro (e | e)
    · exact .inl e
    · cases hf : ks.find? fun k => decide (k.1 = p) with
      | none => rw [hf] at e; cases e
      | some k =>
        rw [hf] at e
        obtain ⟨hm, hp⟩ := (find_one h).1 hf
        exact .inr ⟨k, hm, hp, e⟩
  · rintro (e | ⟨k, hm, hp, hd⟩)
    · exact .inl e
    · refine .inr ?_
      rw [(find_one h).2 ⟨hm, hp⟩]
      exact hd
theorem names_nilK : names nameP [] = [] := by
  have h : nameP [] = false := by decide +kernel
  simp [names, pieces, h]
theorem names_ne {p : List UInt8} (h : names nameP p ≠ []) : p ≠ [] := fun e => by
  rw [e] at h
  exact h names_nilK
theorem check_nil : checkN (toBs []) = 0 := rfl
theorem do_well {ks : List PF} (h : Well ks) {kind : Int} {p q : List UInt8} {ls : List (List UInt8)} {res : List PF} (hd : doK ks kind p q ls (checkN (toBs ls)) = (0, res)) : Well res := by
  unfold doK at hd
  split at hd
  · simp at hd
  · rename_i hr
    rw [not_or, not_and] at hr
    obtain ⟨hr1, hr2⟩ := hr
    split at hd
    · rename_i hf
      have hno := find_noK hf
      have ho : ∀ k ∈ ks, k.1 = p → k.2.1 = false := fun k hk e => absurd e (hno k hk)
      split at hd
      · split at hd
        · simp at hd
        · rename_i hdir
          obtain ⟨_, rfl⟩ := Prod.mk.inj hd
          have hdir := (dirK_iff h.rise).1 (by simpa using hdir)
          exact h.put (x := (p, true, [])) hr1 hdir check_nil (fun _ => rfl) ho
      · split at hd
        · split at hd
          · rename_i hc
            exact absurd (Prod.mk.inj hd).1 hc
          · rename_i hc
            split at hd
            · simp at hd
            · rename_i hdir
              obtain ⟨_, rfl⟩ := Prod.mk.inj hd
              have hdir := (dirK_iff h.rise).1 (by simpa using hdir)
              exact h.put (x := (p, false, ls)) hr1 hdir (by simpa using hc) (fun e => by cases e) ho
        · simp at hd
    · rename_i f hf
      obtain ⟨hfm, hfp⟩ := (find_one h.rise).1 hf
      split at hd
      · simp at hd
      · split at hd
        · split at hd
          · simp at hd
          · rename_i hfd
            split at hd
            · rename_i hc
              exact absurd (Prod.mk.inj hd).1 hc
            · rename_i hc
              obtain ⟨_, rfl⟩ := Prod.mk.inj hd
              refine h.put (x := (p, false, ls)) hr1 ?_ (by simpa using hc) (fun e => by cases e) fun k hk e => ?_
              · have := h.up f hfm
                rwa [hfp] at this
              · have := (find_one h.rise).2 ⟨hk, e⟩
                rw [hf] at this
                cases this
                simpa using hfd
        · split at hd
          · split at hd
            · simp at hd
            · rename_i hch
              obtain ⟨_, rfl⟩ := Prod.mk.inj hd
              refine h.take (fun k hk e => ?_) (names_ne hr1)
              have : childK ks p = true := by
                unfold childK
                rw [List.any_eq_true]
                exact ⟨k, hk, by simpa using e⟩
              exact absurd this hch
          · rename_i hn0 hn1 hn2
            split at hd
            · simp at hd
            · rename_i hfd
              split at hd
              · simp at hd
              · rename_i hft
                split at hd
                · simp at hd
                · rename_i hdir
                  obtain ⟨_, rfl⟩ := Prod.mk.inj hd
                  have hdir := (dirK_iff h.rise).1 (by simpa using hdir)
                  have hff : ∀ d ∈ ks, d.1 = p → d.2.1 = false := fun d hd e => by
                    have := (find_one h.rise).2 ⟨hd, e⟩
                    rw [hf] at this
                    cases this
                    simpa using hfd
                  have hq : ∀ k ∈ ks, k.1 ≠ q := by
                    refine find_noK ?_
                    cases hh : ks.find? fun k => decide (k.1 = q) with
                    | none => rfl
                    | some k => rw [hh] at hft; simp at hft
                  have hw := h.take (fun k hk e => .inr hff) (names_ne hr1)
                  refine hw.put (x := (q, false, f.2.2)) (hr2 (by omega)) ?_ (h.lines f hfm) (fun e => by cases e) fun k hk e => absurd e (hq k (without_not hk).2)
                  rcases hdir with e | ⟨d, hdm, e, hdd⟩
                  · exact .inl e
                  · refine .inr ⟨d, List.mem_filter.2 ⟨hdm, ?_⟩, e, hdd⟩
                    have : d.1 ≠ p := fun e2 => by
                      rw [hff d hdm e2] at hdd
                      cases hdd
                    simpa using this
end Go.Proofs.YtalabahjfmcnbaaGreatDoor
