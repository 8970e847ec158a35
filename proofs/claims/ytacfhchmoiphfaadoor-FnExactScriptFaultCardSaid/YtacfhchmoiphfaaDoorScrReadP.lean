/-
  A text cut at its blanks is what it was joined of; a call is got back from its text; no two calls have one text. In plain words.
-/
import Derived.Test.YtacfhchmoiphfaaDoorScrTake
namespace Go.Proofs.YtacfhchmoiphfaaDoor.scr
open Go.RowKit Go.Deep Go.Sort
open Go.Proofs.YtacfhchmoiphfaaDoor
open Go.Proofs.YtacfhchmoiphfaaDoor.call (CallD ccall)
open Go.Proofs.YtacfhchmoiphfaaDoor.lread (outL)
set_option linter.unusedVariables false
set_option maxRecDepth 100000

def bl (s : ByteArray) : List UInt8 := s.data.toList
theorem bl_inj {a b : ByteArray} (h : bl a = bl b) : a = b := ByteArray.ext (Array.toList_inj.1 h)
theorem bl_app (a b : ByteArray) : bl (a ++ b) = bl a ++ bl b := by simp [bl]
theorem bl_size (a : ByteArray) : (bl a).length = a.size := by simp [bl]
theorem bl_get (a : ByteArray) (i : Nat) (h : i < a.size) : (bl a)[i]'(by rw [bl_size]; exact h) = a[i] := by simp [bl]; rfl
theorem map_inj : ∀ {a b : List ByteArray}, a.map bl = b.map bl → a = b
  | [], [], _ => rfl
  | x :: t, y :: u, h => by
    simp only [List.map_cons, List.cons.injEq] at h
    rw [bl_inj h.1, map_inj h.2]
  | [], y :: u, h => by simp at h
  | x :: t, [], h => by simp at h
theorem bl_extract (s : ByteArray) (a b : Nat) : bl (s.extract a b) = ((bl s).drop a).take (b - a) := by
  simp [bl, List.extract]
/-- a sign more -/
def stF (b : Int) (st : List (List UInt8) × List UInt8) (x : UInt8) : List (List UInt8) × List UInt8 := if (x.toNat : Int) = b then (st.1 ++ [st.2], []) else (st.1, st.2 ++ [x])
theorem cutTo_fold (s : ByteArray) (b : Int) : ∀ i, i ≤ s.size → ((bl s).take i).foldl (stF b) ([], []) = ((cutTo s b i).1.map bl, bl (s.extract (cutTo s b i).2 i))
  | 0, _ => by simp [cutTo]; rfl
  | i + 1, h => by
    have hl : i < s.size := by omega
    have ih := cutTo_fold s b i (by omega)
    have hle := (cut_le s b i).1
    have hi : i < (bl s).length := by rw [bl_size]; exact hl
    rw [List.take_add_one, List.getElem?_eq_getElem hi, List.foldl_append, ih, bl_get s i hl]
    simp only [Option.toList_some, List.foldl_cons, List.foldl_nil, stF]
    split
    · rename_i e
      rw [cut_yes hl e]
      simp
      rfl
    · rename_i e
      rw [cut_no hl e]
      congr 1
      rw [bl_extract, bl_extract, show i + 1 - (cutTo s b i).2 = (i - (cutTo s b i).2) + 1 by omega, List.take_add_one, List.getElem?_drop, show (cutTo s b i).2 + (i - (cutTo s b i).2) = i by omega, List.getElem?_eq_getElem hi, bl_get s i hl]
      rfl
/-- joined with a sign between -/
def joinL (b : UInt8) : List (List UInt8) → List UInt8
  | [] => []
  | [x] => x
  | x :: y :: t => x ++ b :: joinL b (y :: t)
theorem fold_free (b : UInt8) (x : List UInt8) (h : b ∉ x) (acc : List (List UInt8)) : ∀ cur, x.foldl (stF (b.toNat : Int)) (acc, cur) = (acc, cur ++ x) := by
  induction x with
  | nil => intro cur; simp
  | cons a t ih =>
    intro cur
    have hne : ¬ ((a.toNat : Int) = (b.toNat : Int)) := fun e => h (by
      have : a = b := UInt8.toNat_inj.1 (by omega)
      rw [this]; exact List.mem_cons_self)
    rw [List.foldl_cons, stF, if_neg hne, ih (fun hm => h (List.mem_cons_of_mem _ hm))]
    simp
theorem fold_join (b : UInt8) : ∀ (l : List (List UInt8)) (acc : List (List UInt8)) (x : List UInt8), (∀ y ∈ x :: l, b ∉ y) → (joinL b (x :: l)).foldl (stF (b.toNat : Int)) (acc, []) = (acc ++ (x :: l).dropLast, (x :: l).getLast (by simp))
  | [], acc, x, h => by
    rw [joinL, fold_free b x (h x (by simp))]
    simp
  | y :: t, acc, x, h => by
    rw [joinL, List.foldl_append, fold_free b x (h x (by simp)), List.foldl_cons, stF, if_pos rfl]
    have := fold_join b t (acc ++ [x]) y (fun z hz => h z (List.mem_cons_of_mem _ hz))
    simp only [List.nil_append]
    rw [this]
    simp [List.dropLast]
/-- what was joined is got back -/
theorem cutS_join (b : UInt8) (l : List ByteArray) (h0 : l ≠ []) (h : ∀ x ∈ l, b ∉ bl x) (s : ByteArray) (hs : bl s = joinL b (l.map bl)) : cutS s (b.toNat : Int) = l := by
  have h1 := cutTo_fold s (b.toNat : Int) s.size (Nat.le_refl _)
  rw [show (bl s).take s.size = bl s by rw [← bl_size]; exact List.take_length] at h1
  obtain ⟨x, t, rfl⟩ : ∃ x t, l = x :: t := by
    cases l with
    | nil => exact absurd rfl h0
    | cons x t => exact ⟨x, t, rfl⟩
  rw [hs, List.map_cons, fold_join b (t.map bl) [] (bl x) (fun y hy => by
    rw [← List.map_cons] at hy
    obtain ⟨z, hz, rfl⟩ := List.mem_map.1 hy
    exact h z hz)] at h1
  simp only [List.nil_append, Prod.mk.injEq] at h1
  apply map_inj
  rw [cutS, List.map_append, ← h1.1]
  simp only [List.map_cons, List.map_nil]
  rw [← h1.2]
  exact List.dropLast_concat_getLast _
end Go.Proofs.YtacfhchmoiphfaaDoor.scr
