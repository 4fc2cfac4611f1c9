
/- Trees, plainly: what a call answers, by what files say. -/
import Derived.Test.YtcjiipmageddhaaDoorRefDo
namespace Go.Proofs.YtcjiipmageddhaaDoor
open Go.RowKit
set_option linter.unusedVariables false

def lessK (x y : PF) : Bool := lessP nameP x.1 y.1
def placeK (x : PF) (out : List PF) : Nat → Nat
  | 0 => 0
  | j + 1 => match out[j]? with
    | some g => if lessK x g then placeK x out j else j + 1
    | none => j + 1
def insK (out : List PF) (x : PF) : List PF := out.take (placeK x out out.length) ++ [x] ++ out.drop (placeK x out out.length)
def sortK (l : List PF) : List PF := l.foldl insK []
def withoutK (ks : List PF) (p : List UInt8) : List PF := ks.filter fun k => decide (k.1 ≠ p)
def withK (ks : List PF) (x : PF) : List PF := sortK (withoutK ks x.1 ++ [x])
def dirK (ks : List PF) (p : List UInt8) : Bool := decide (p = []) || (match ks.find? fun k => decide (k.1 = p) with
  | some k => k.2.1
  | none => false)
def childK (ks : List PF) (p : List UInt8) : Bool := ks.any fun k => decide (dirP nameP k.1 = p)
/-- What a call answers: its error, and the files behind it; ck: the error of its lines. -/
def doK (ks : List PF) (kind : Int) (p dst : List UInt8) (ls : List (List UInt8)) (ck : Int) : Int × List PF :=
  if names nameP p = [] ∨ ((kind < 0 ∨ 2 < kind) ∧ names nameP dst = []) then (8, ks)
  else match ks.find? fun k => decide (k.1 = p) with
  | none =>
    if kind = 0 then (if dirK ks (dirP nameP p) = false then (9, ks) else (0, withK ks (p, true, [])))
    else if kind = 1 then (if ck ≠ 0 then (ck, ks) else if dirK ks (dirP nameP p) = false then (9, ks) else (0, withK ks (p, false, ls)))
    else (9, ks)
  | some f =>
    if kind = 0 then (10, ks)
    else if kind = 1 then (if f.2.1 = true then (11, ks) else if ck ≠ 0 then (ck, ks) else (0, withK ks (p, false, ls)))
    else if kind = 2 then (if childK ks p = true then (12, ks) else (0, withoutK ks p))
    else if f.2.1 = true then (11, ks)
    else if (ks.find? fun k => decide (k.1 = dst)).isSome = true then (10, ks)
    else if dirK ks (dirP nameP dst) = false then (9, ks)
    else (0, withK (withoutK ks p) (dst, false, f.2.2))

theorem key_less (x y : Fm) : lessF x y = lessK x.key y.key := rfl
theorem key_place (x : Fm) (out : List Fm) : ∀ n, placeF x out n = placeK x.key (fkeys out) n
  | 0 => rfl
  | j + 1 => by
    have ih := key_place x out j
    rw [placeF, placeK, fkeys, List.getElem?_map]
    cases h : out[j]? with
    | none => rfl
    | some g =>
      simp only [Option.map_some]
      rw [key_less, ih]
      rfl
theorem key_ins (out : List Fm) (x : Fm) : fkeys (insF out x) = insK (fkeys out) x.key := by
  unfold insF insK
  rw [← key_place, fkeys_len]
  simp [fkeys, List.map_take, List.map_drop]
theorem key_foldl : ∀ (l out : List Fm), fkeys (l.foldl insF out) = (fkeys l).foldl insK (fkeys out)
  | [], out => rfl
  | x :: l, out => by
    rw [List.foldl_cons, key_foldl l, key_ins]
    rfl
theorem key_sort (l : List Fm) : fkeys (sortF l) = sortK (fkeys l) := key_foldl l []
theorem key_eq (f : Fm) (p : ByteArray) : decide (f.p = p) = decide (f.key.1 = p.data.toList) := by
  rw [decide_eq_decide]
  exact ⟨fun h => by rw [← h]; rfl, fun h => bytes_inj h⟩
theorem key_without (fs : List Fm) (p : ByteArray) : fkeys (withoutF fs p) = withoutK (fkeys fs) p.data.toList := by
  unfold fkeys withoutF withoutK
  rw [List.filter_map]
  congr 1
  congr 1
  funext f
  have := key_eq f p
  simp only [Function.comp, decide_not]
  rw [this]
theorem key_with (fs : List Fm) (f : Fm) : fkeys (withF fs f) = withK (fkeys fs) f.key := by
  unfold withF withK
  rw [key_sort]
  congr 1
  show List.map Fm.key (_ ++ _) = _
  rw [List.map_append]
  show fkeys (withoutF fs f.p) ++ _ = _
  rw [key_without]
  rfl
theorem key_find (fs : List Fm) (p : ByteArray) : (fkeys fs).find? (fun k => decide (k.1 = p.data.toList)) = (fs.find? fun f => decide (f.p = p)).map Fm.key := by
  unfold fkeys
  rw [List.find?_map]
  congr 2
  funext f
  exact (key_eq f p).symm
theorem key_dir (fs : List Fm) (p : ByteArray) : dirAt fs p = dirK (fkeys fs) p.data.toList := by
  unfold dirAt dirK
  rw [key_find]
  congr 1
  · rw [decide_eq_decide]
    exact ⟨fun h => by rw [h], fun h => bytes_inj h⟩
  · cases fs.find? fun f => decide (f.p = p) <;> rfl
theorem up_list (p : ByteArray) : (upB p).data.toList = dirP nameP p.data.toList := of_toB _
theorem key_child (fs : List Fm) (p : ByteArray) : childF fs p = childK (fkeys fs) p.data.toList := by
  unfold childF childK fkeys
  rw [List.any_map]
  congr 1
  funext f
  simp only [Function.comp]
  rw [decide_eq_decide]
  constructor
  · intro h
    have := congrArg (fun s : ByteArray => s.data.toList) h
    simp only [up_list] at this
    exact this
  · intro h
    apply bytes_inj
    rw [up_list]
    exact h
theorem key_do (fs : List Fm) (c : Cm) (ck : Int) : (doF fs c ck).1 = (doK (fkeys fs) c.kind c.p.data.toList c.dst.data.toList c.ls ck).1 ∧ fkeys (doF fs c ck).2 = (doK (fkeys fs) c.kind c.p.data.toList c.dst.data.toList c.ls ck).2 := by
  have e1 : (rightP c.p = false ∨ ((c.kind < 0 ∨ 2 < c.kind) ∧ rightP c.dst = false)) = (names nameP c.p.data.toList = [] ∨ ((c.kind < 0 ∨ 2 < c.kind) ∧ names nameP c.dst.data.toList = [])) := by
    unfold rightP
    simp
  unfold doF doK
  rw [key_find, key_find, key_dir, key_dir, key_child, up_list, up_list]
  by_cases h : rightP c.p = false ∨ ((c.kind < 0 ∨ 2 < c.kind) ∧ rightP c.dst = false)
  · rw [if_pos h, if_pos (Eq.mp e1 h)]
    exact ⟨rfl, rfl⟩
  · rw [if_neg h, if_neg (fun k => h (Eq.mpr e1 k))]
    cases hf : fs.find? fun f => decide (f.p = c.p) with
    | none =>
      simp only [Option.map_none]
      split
      · split
        · exact ⟨rfl, rfl⟩
        · exact ⟨rfl, key_with _ _⟩
      · split
        · split
          · exact ⟨rfl, rfl⟩
          · split
            · exact ⟨rfl, rfl⟩
            · exact ⟨rfl, key_with _ _⟩
        · exact ⟨rfl, rfl⟩
    | some f =>
      simp only [Option.map_some, Option.isSome_map]
      split
      · exact ⟨rfl, rfl⟩
      · split
        · show _ ∧ _
          have : f.key.2.1 = f.d := rfl
          rw [this]
          split
          · exact ⟨rfl, rfl⟩
          · split
            · exact ⟨rfl, rfl⟩
            · exact ⟨rfl, key_with _ _⟩
        · split
          · split
            · exact ⟨rfl, rfl⟩
            · exact ⟨rfl, key_without _ _⟩
          · have : f.key.2.1 = f.d := rfl
            rw [this]
            split
            · exact ⟨rfl, rfl⟩
            · split
              · exact ⟨rfl, rfl⟩
              · split
                · exact ⟨rfl, rfl⟩
                · refine ⟨rfl, ?_⟩
                  show fkeys (withF _ _) = _
                  rw [key_with, key_without]
                  rfl
end Go.Proofs.YtcjiipmageddhaaDoor
