/-
  The walks of PutText, the specification's and the program's, at every text.
-/
import Derived.Test.YtjiihkdnpbliladPut
import Derived.Test.YtjiihkdnpbliladJoin
namespace Go.Proofs.Ytjiihkdnpblilad.text
open Go.RowKit Go.Deep
open Go.Proofs.Ytjiihkdnpblilad

/-- the bytes of a text -/
def textS (t : ByteArray) : ByteArray := if 8000 < t.size then ⟨#[]⟩ else put.numS t.size ++ t

theorem encF_len (f : Nat) : ∀ u, (num.encF f u).length ≤ f + 1 := by
  induction f with
  | zero => intro u; simp [num.encF]
  | succ f ih => intro u; rw [num.encF]; split <;> simp; exact ih _
theorem numS_size (n : Int) : (put.numS n).size ≤ 10 := by
  have := encF_len 9 (num.foldN n)
  simpa [put.numS, strOfNums_size] using this

theorem spec_text (t : ByteArray) (w : World) (hs : t.size ≤ maxLen) :
    Calls Try.prog 7 #[.string t] w fun e w' => e = .returned (.string (textS t)) ∧ Below w.heap.size w w' := by
  unfold maxLen at hs
  by_cases h : 8000 < t.size
  · rw [show textS t = ⟨#[]⟩ from if_pos h]
    go_enter Try.func7, Try.ntmps7
    go_wp2
    go_ret
    exact ⟨rfl, Below.refl _ _⟩
  · rw [show textS t = put.numS t.size ++ t from if_neg h]
    have hz := numS_size t.size
    have hc := fun W => put.spec_put t.size W (by omega) (by omega)
    generalize put.numS t.size = x at hz hc ⊢
    have HC : Hid _ := hc
    clear hc
    go_enter Try.func7, Try.ntmps7
    go_wp2_with fail
    refine (HC.out _).mono ?_
    rintro e w1 ⟨rfl, hb⟩
    go_wp2
    go_ret
    exact ⟨rfl, hb⟩

theorem impl_text (t : ByteArray) (w : World) (hs : t.size ≤ maxLen) :
    Calls Try.prog 8 #[.string t] w fun e w' => e = .returned (.string (textS t)) ∧ Below w.heap.size w w' := by
  unfold maxLen at hs
  by_cases h : 8000 < t.size
  · rw [show textS t = ⟨#[]⟩ from if_pos h]
    go_enter Try.func8, Try.ntmps8
    go_wp2
    go_ret
    exact ⟨rfl, Below.refl _ _⟩
  · rw [show textS t = put.numS t.size ++ t from if_neg h]
    have hz := numS_size t.size
    have hc := fun W => put.impl_put t.size W (by omega) (by omega)
    generalize put.numS t.size = x at hz hc ⊢
    have HC : Hid _ := hc
    clear hc
    go_enter Try.func8, Try.ntmps8
    go_wp2_with fail
    refine (HC.out _).mono ?_
    rintro e w1 ⟨rfl, hb⟩
    go_wp2_with fail
    refine (join.joined_any x t _ (by omega) (by omega)).mono ?_
    rintro e w2 ⟨rfl, hb2⟩
    go_wp2
    go_ret
    exact ⟨rfl, hb.trans (hb2.mono hb.size)⟩
end Go.Proofs.Ytjiihkdnpblilad.text
