/-
  The walk of the program's GetNum.
-/
import Derived.Test.YtjiihkdnpblilaaDoorNum2
namespace Go.Proofs.YtjiihkdnpblilaaDoor.get
open Go.RowKit
open Go.Proofs.YtjiihkdnpblilaaDoor

set_option maxHeartbeats 1000000 in
theorem impl_any (s : ByteArray) (p : Int) (w : World) (hs : s.size ≤ maxLen) (hp : p ≤ 9223372036854775807) (hL : Laid w) :
    Calls Tryd.prog 7 #[.string s, .int .i64 p] w fun e w' => e = .returned (told (outR s p)) ∧ Below w.heap.size w w' := by
  have hc := fun W => num_any s p W hs hp
  generalize outR s p = R at hc ⊢
  obtain ⟨u, q, c⟩ := R
  simp only [numTold] at hc
  simp only [told]
  have hd := code_any c
  generalize errV c = ev at hc hd
  generalize dec.unN u = n at hc ⊢
  have HC : Hid _ := hc
  have HD : Hid _ := hd
  have HL : Hid (Laid w) := hL
  clear hc hd hL hs hp
  go_enter Tryd.func7, Tryd.ntmps7
  go_wp2_with fail
  refine (HC.out _).mono ?_
  rintro e w1 ⟨rfl, hb1⟩
  go_wp2_with fail
  refine (HD.out _ (Laid.below (Laid.alloc HL.out _) hb1 (by simp))).mono ?_
  rintro e w2 ⟨rfl, hb2⟩
  have hb3 := hb1.trans (hb2.mono hb1.size)
  clear hb1 hb2
  obtain ⟨hc, hf⟩ := bcell hb3
  go_wp2
  exact bodyPost_ret (v := .agg #[.int .i64 n, .int .i64 (q : Int), .int .i64 c]) (by simp [results, Tryd.results7, go_sem, hc]) rfl
    ⟨rfl, (((((Below.refl w.heap.size w).alloc (Nat.le_refl _) _).trans (hb3.mono (by simp))).setCell (Nat.le_refl _) _).setCell (Nat.le_refl _) _).setCell (Nat.le_refl _) _⟩
end Go.Proofs.YtjiihkdnpblilaaDoor.get
