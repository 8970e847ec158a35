/-
  The walks of PutText, the specification's and the program's, at every text.
-/
import Derived.Test.YtjiihkdnpblilaaDoorPut
import Derived.Test.YtjiihkdnpblilaaDoorJoin
namespace Go.Proofs.YtjiihkdnpblilaaDoor.text
open Go.RowKit Go.Deep
open Go.Proofs.YtjiihkdnpblilaaDoor

/-- the bytes of a text -/
def textS (t : ByteArray) : ByteArray := if 8000 < t.size then ⟨#[]⟩ else put.numS t.size ++ t

theorem encF_len (f : Nat) : ∀ u, (num.encF f u).length ≤ f + 1 := by
  induction f with
  | zero => intro u; simp [num.encF]
  | succ f ih => intro u; rw [num.encF]; split <;> simp; exact ih _
theorem numS_size (n : Int) : (put.numS n).size ≤ 10 := by
  have := encF_len 9 (num.foldN n)
  simpa [put.numS, strOfNums_size] using this

theorem spec_text (t : ByteArray) (w : World) (hs : t.size ≤ maxLen) :
    Calls Tryd.prog 10 #[.string t] w fun e w' => e = .returned (.string (textS t)) ∧ Below w.heap.size w w' := by
  unfold maxLen at hs
  by_cases h : 8000 < t.size
  · rw [show textS t = ⟨#[]⟩ from if_pos h]
    go_enter Tryd.func10, Tryd.ntmps10
    go_wp2
    go_ret
    exact ⟨rfl, Below.refl _ _⟩
  · rw [show textS t = put.numS t.size ++ t from if_neg h]
    have hz := numS_size t.size
    have hc := fun W => put.spec_put t.size W (by omega) (by omega)
    generalize put.numS t.size = x at hz hc ⊢
    have HC : Hid _ := hc
    clear hc
    go_enter Tryd.func10, Tryd.ntmps10
    go_wp2_with fail
    refine (HC.out _).mono ?_
    rintro e w1 ⟨rfl, hb⟩
    go_wp2
    go_ret
    exact ⟨rfl, hb⟩

theorem impl_text (t : ByteArray) (w : World) (hs : t.size ≤ maxLen) :
    Calls Tryd.prog 9 #[.string t] w fun e w' => e = .returned (.string (textS t)) ∧ Below w.heap.size w w' := by
  unfold maxLen at hs
  by_cases h : 8000 < t.size
  · rw [show textS t = ⟨#[]⟩ from if_pos h]
    go_enter Tryd.func9, Tryd.ntmps9
    go_wp2
    go_ret
    exact ⟨rfl, Below.refl _ _⟩
  · rw [show textS t = put.numS t.size ++ t from if_neg h]
    have hz := numS_size t.size
    have hc := fun W => put.impl_put t.size W (by omega) (by omega)
    generalize put.numS t.size = x at hz hc ⊢
    have HC : Hid _ := hc
    clear hc
    go_enter Tryd.func9, Tryd.ntmps9
    go_wp2_with fail
    refine (HC.out _).mono ?_
    rintro e w1 ⟨rfl, hb⟩
    go_wp2_with fail
    refine (join.joined_any x t _ (by omega) (by omega)).mono ?_
    rintro e w2 ⟨rfl, hb2⟩
    go_wp2
    go_ret
    exact ⟨rfl, hb.trans (hb2.mono hb.size)⟩
end Go.Proofs.YtjiihkdnpblilaaDoor.text
