/-
  GetText at every argument: the program's.
-/
import Derived.Test.YtjiihkdnpblilaaDoorGetText2
namespace Go.Proofs.YtjiihkdnpblilaaDoor.gett
open Go.RowKit
open Go.Proofs.YtjiihkdnpblilaaDoor

/-- GetText's outcome at every argument -/
def textR (s : ByteArray) (p : Int) : ByteArray × Nat × Int := textOf s (dec.unN (get.outR s p).1) (get.outR s p).2.1 (get.outR s p).2.2

/-- where GetNum tells no fault the text is short, and the place within it -/
theorem outR_good (s : ByteArray) (p : Int) (h : (get.outR s p).2.2 = 0) : s.size ≤ 8000 ∧ (get.outR s p).2.1 ≤ s.size := by
  unfold get.outR at *
  by_cases h1 : 8000 < s.size
  · rw [if_pos h1] at h; simp at h
  · rw [if_neg h1] at h ⊢
    by_cases h2 : p < 0
    · rw [if_pos h2] at h; simp at h
    · rw [if_neg h2]
      exact ⟨by omega, dec.dec_at _ _ _ _ _⟩

theorem read_text (s : ByteArray) (p : Int) (w : World) (hs : s.size ≤ maxLen) (hp : p ≤ 9223372036854775807) :
    Calls Tryd.prog 21 #[.string s, .int .i64 p] w fun e w' => e = .returned (rout (textR s p)) ∧ Below w.heap.size w w' := by
  have hc := fun W => get.num_any s p W hs hp
  have hg := outR_good s p
  unfold textR
  generalize get.outR s p = R at hc hg ⊢
  obtain ⟨u, q, c⟩ := R
  simp only [get.numTold] at hc
  simp only at hg ⊢
  generalize dec.unN u = n at hc ⊢
  by_cases h0 : c = 0
  · obtain ⟨hs8, hq⟩ := hg h0
    by_cases hn : n < 0 ∨ 8000 < n
    · rw [show textOf s n q c = (⟨#[]⟩, 0, 3) by unfold textOf; rw [if_neg (by simpa using h0), if_pos hn]]
      subst h0
      exact read_syntax s p n q w hn hc
    · obtain ⟨m, rfl⟩ := Int.eq_ofNat_of_zero_le (show 0 ≤ n by omega)
      subst h0
      by_cases hl : s.size < q + m
      · rw [show textOf s m q 0 = (⟨#[]⟩, 0, 4) by unfold textOf; rw [if_neg (by simp), if_neg hn, if_pos (by simpa using hl)]]
        exact read_short s p m q w hs8 (by omega) (by omega) hl hc
      · rw [show textOf s m q 0 = (s.extract q (q + m), q + m, 0) by unfold textOf; rw [if_neg (by simp), if_neg hn, if_neg (by simpa using hl)]; simp]
        exact read_good s p m q w hs8 (by omega) (by omega) (by omega) hc
  · rw [show textOf s n q c = (⟨#[]⟩, 0, c) from if_pos h0]
    rw [show get.errV c = .iface 54 (.agg #[.int .i64 c]) from if_neg h0] at hc
    have := read_code s p n q c w hc
    simp only [rout]
    rw [show get.errV c = .iface 54 (.agg #[.int .i64 c]) from if_neg h0]
    exact this

set_option maxHeartbeats 1000000 in
theorem impl_text (s : ByteArray) (p : Int) (w : World) (hs : s.size ≤ maxLen) (hp : p ≤ 9223372036854775807) (hL : get.Laid w) :
    Calls Tryd.prog 11 #[.string s, .int .i64 p] w fun e w' => e = .returned (tout (textR s p)) ∧ Below w.heap.size w w' := by
  have hc := fun W => read_text s p W hs hp
  generalize textR s p = R at hc ⊢
  obtain ⟨t, q, c⟩ := R
  simp only [rout] at hc
  simp only [tout]
  have hd := get.code_any c
  generalize get.errV c = ev at hc hd
  have HC : Hid _ := hc
  have HD : Hid _ := hd
  have HL : Hid (get.Laid w) := hL
  clear hc hd hL hs hp
  go_enter Tryd.func11, Tryd.ntmps11
  go_wp2_with fail
  refine (HC.out _).mono ?_
  rintro e w1 ⟨rfl, hb1⟩
  go_wp2_with fail
  refine (HD.out _ (get.Laid.below (get.Laid.alloc HL.out _) hb1 (by simp))).mono ?_
  rintro e w2 ⟨rfl, hb2⟩
  have hb3 := hb1.trans (hb2.mono hb1.size)
  clear hb1 hb2
  obtain ⟨hc, hf⟩ := get.bcell hb3
  go_wp2
  exact bodyPost_ret (v := .agg #[.string t, .int .i64 (q : Int), .int .i64 c]) (by simp [results, Tryd.results11, go_sem, hc]) rfl
    ⟨rfl, (((((Below.refl w.heap.size w).alloc (Nat.le_refl _) _).trans (hb3.mono (by simp))).setCell (Nat.le_refl _) _).setCell (Nat.le_refl _) _).setCell (Nat.le_refl _) _⟩
end Go.Proofs.YtjiihkdnpblilaaDoor.gett
