/-
  The walks of codeOf and readNum; GetNum's outcome at every argument.
-/
import Derived.Test.YtjiihkdnpblilaaDoorRead
import Derived.Test.YtjiihkdnpblilaaDoorTold
namespace Go.Proofs.YtjiihkdnpblilaaDoor.get
open Go.RowKit
open Go.Proofs.YtjiihkdnpblilaaDoor

/-- what readNum tells -/
def numTold (R : Nat × Nat × Int) : Value := .tuple #[.int .i64 (dec.unN R.1), .int .i64 (R.2.1 : Int), errV R.2.2]

theorem num_good (s : ByteArray) (p0 : Nat) (w : World) (hs : s.size ≤ 8000) (hp : (p0 : Int) ≤ 9223372036854775807) :
    Calls Tryd.prog 15 #[.string s, .int .i64 p0] w fun e w' => e = .returned (numTold (dec.decN 10 s p0 0 0)) ∧ Below w.heap.size w w' := by
  have hc := fun W => bits_num s p0 W hs hp
  have hu := dec.dec10_lt s p0
  generalize dec.decN 10 s p0 0 0 = R at hc hu
  obtain ⟨u, q, c⟩ := R
  simp only at hu
  simp only [readOut] at hc
  have HE : Hid (numTold (u, q, c) = .tuple #[.int .i64 (dec.unN u), .int .i64 (q : Int), errV c]) := rfl
  generalize numTold (u, q, c) = out at HE
  generalize errV c = ev at hc HE
  have HC : Hid _ := hc
  have HX : Hid _ := dec.xor_i64 u hu
  clear hc
  have hu2 : (u : Int) ≤ 18446744073709551615 := by omega
  clear hu
  go_enter Tryd.func15, Tryd.ntmps15
  go_wp2_with fail
  refine (HC.out _).mono ?_
  rintro e w1 ⟨rfl, hb⟩
  go_wp2
  go_ret3
  exact ⟨by rw [HE.out, ← HX.out]; rfl, hb⟩
theorem num_size (s : ByteArray) (p : Int) (w : World) (hs : s.size ≤ maxLen) (h : 8000 < s.size) :
    Calls Tryd.prog 15 #[.string s, .int .i64 p] w fun e w' => e = .returned (numTold (0, 0, 2)) ∧ Below w.heap.size w w' := by
  unfold maxLen at hs
  go_enter Tryd.func15, Tryd.ntmps15
  go_wp2
  go_ret3
  exact ⟨by simp [numTold, dec.un_zero, errV], Below.refl _ _⟩
theorem num_form (s : ByteArray) (p : Int) (w : World) (hs : s.size ≤ 8000) (h : p < 0) :
    Calls Tryd.prog 15 #[.string s, .int .i64 p] w fun e w' => e = .returned (numTold (0, 0, 1)) ∧ Below w.heap.size w w' := by
  go_enter Tryd.func15, Tryd.ntmps15
  go_wp2
  go_ret3
  exact ⟨by simp [numTold, dec.un_zero, errV], Below.refl _ _⟩

theorem num_any (s : ByteArray) (p : Int) (w : World) (hs : s.size ≤ maxLen) (hp : p ≤ 9223372036854775807) :
    Calls Tryd.prog 15 #[.string s, .int .i64 p] w fun e w' => e = .returned (numTold (outR s p)) ∧ Below w.heap.size w w' := by
  by_cases h1 : 8000 < s.size
  · rw [show outR s p = (0, 0, 2) from if_pos h1]; exact num_size s p w hs h1
  by_cases h2 : p < 0
  · rw [show outR s p = (0, 0, 1) by unfold outR; rw [if_neg h1, if_pos h2]]; exact num_form s p w (by omega) h2
  · obtain ⟨n, rfl⟩ := Int.eq_ofNat_of_zero_le (show 0 ≤ p by omega)
    rw [show outR s n = dec.decN 10 s n 0 0 by unfold outR; rw [if_neg h1, if_neg h2]; rfl]
    exact num_good s n w (by omega) hp
/-- the variable that errors.As reads -/
def Laid (w : World) : Prop := w.cell? ⟨0, 0, none⟩ = some (.iface 74 (.agg #[.pointer (some ⟨1, 42, none⟩)]))
theorem Laid.pos {w : World} (h : Laid w) : 0 < w.heap.size := by
  rcases Nat.eq_zero_or_pos w.heap.size with h0 | h1
  · simp [Laid, World.cell?, h0] at h
  · exact h1
theorem Laid.below {B : Nat} {w w' : World} (h : Laid w) (hb : Below B w w') (hB : 0 < B) : Laid w' :=
  (hb.cell (p := ⟨0, 0, none⟩) hB).trans h
theorem Laid.alloc {w : World} (h : Laid w) (o : Obj) : Laid (w.alloc o) :=
  (World.cell?_alloc_lt _ _ ⟨0, 0, none⟩ h.pos).trans h

set_option maxHeartbeats 1000000 in
theorem code_any (c : Int) (w : World) (hL : Laid w) :
    Calls Tryd.prog 16 #[errV c] w fun e w' => e = .returned (.int .i64 c) ∧ Below w.heap.size w w' := by
  by_cases h : c = 0
  · subst h
    rw [show errV 0 = .nilIface from rfl]
    go_enter Tryd.func16, Tryd.ntmps16
    go_wp2_with (go_at_call 24; refine (faults.as_nil _ _).mono ?_; rintro e w' ⟨rfl, rfl⟩)
    go_ret
    exact ⟨rfl, (Below.refl _ _).alloc (Nat.le_refl _) _⟩
  · rw [show errV c = .iface 54 (.agg #[.int .i64 c]) from if_neg h]
    have hg : (w.alloc (.cells #[.int .i64 0] 54)).cell? ⟨0, 0, none⟩ = some (.iface 74 (.agg #[.pointer (some ⟨1, 42, none⟩)])) := hL.alloc _
    have ht : (w.alloc (.cells #[.int .i64 0] 54)).cell? ⟨w.heap.size, 0, none⟩ = some (.int .i64 0) := by simp
    have hf : (w.alloc (.cells #[.int .i64 0] 54)).frozen? ⟨w.heap.size, 0, none⟩ = false := by simp
    have hc := faults.as_hit c ⟨w.heap.size, 0, none⟩ (.int .i64 0) _ hg ht hf
    have HC : Hid _ := hc
    clear hc hg ht hf h
    go_enter Tryd.func16, Tryd.ntmps16
    go_wp2_with fail
    refine Calls.mono HC.out ?_
    rintro e w1 ⟨rfl, rfl⟩
    go_wp2
    go_ret
    exact ⟨rfl, by repeat (first | exact Below.refl _ _ | refine Below.setCell ?_ (Nat.le_refl _) _ | refine Below.alloc ?_ (by simp; try omega) _)⟩

theorem bcell {W w1 : World} (hb : Below W.heap.size W w1) : (∀ b o, b < W.heap.size → w1.cell? ⟨b, o, none⟩ = W.cell? ⟨b, o, none⟩) ∧ (∀ b o, b < W.heap.size → w1.frozen? ⟨b, o, none⟩ = W.frozen? ⟨b, o, none⟩) :=
  ⟨fun b o h => hb.cell (p := ⟨b, o, none⟩) h, fun b o h => hb.frozen (p := ⟨b, o, none⟩) h⟩

end Go.Proofs.YtjiihkdnpblilaaDoor.get
