/-
  The walk of the specification's l04Put into a row that is empty, and at every row.
-/
import Derived.Test.YtcokchfedaoccabBuddyPut
namespace Go.Proofs.Ytcokchfedaoccab.bspec
open Go.RowKit Go.Deep Go.Sort
open Go.Proofs.Ytcokchfedaoccab
open Go.Proofs.Ytcokchfedaoccab.brows
open Go.Proofs.Ytcokchfedaoccab.bd (Blk)
set_option linter.unusedVariables false

set_option maxHeartbeats 2000000 in
theorem spec_put_none (P : Nat) (n : Int) (a : Option Addr) (c : Nat) (x : Pr) (w : World) (hbox : Box w P n (.slice a 0 c)) (hcm : c ≤ maxLen) :
    Calls Try.prog 67 #[.pointer (some ⟨P, 0, none⟩), .agg #[.int .i64 x.1, .int .i64 x.2]] w (PutPost P n [x] w) := by
  obtain ⟨p, q⟩ := x
  simp only
  have HBX : Hid (Box w P n (.slice a 0 c)) := hbox
  have hP : P < w.heap.size := hbox.lt
  obtain ⟨i0, hi, hz0, hz1, hz2⟩ := info_parts info_blk
  unfold maxLen at hcm
  clear hbox
  obtain ⟨b0, b1, f0, f1⟩ := HBX.out.cells
  go_enter Try.func67, Try.ntmps67
  go_wp2
  go_loopw [4] (fun i wr => i = .int .i64 0 ∧ wr = w.alloc (.cells #[.int .i64 p, .int .i64 q] 68)) (fun i _ => 0)
  case atStart => exact ⟨rfl, rfl⟩
  case round =>
    obtain ⟨rfl, rfl⟩ := hrel
    go_wp2
    go_quiet (fail)
    go_upto_region 4 with fail
    obtain ⟨V, hV⟩ : ∃ V, V = (w.alloc (.cells #[.int .i64 p, .int .i64 q] 68)).drewN nq := ⟨_, rfl⟩
    have HBV : Hid (Below w.heap.size w V) := by rw [hV]; exact below_drewN ((Below.refl _ _).alloc (Nat.le_refl _) _) _
    have X0 : V.cell? ⟨w.heap.size, 0, none⟩ = some (.int .i64 p) := by rw [hV]; simp
    have X1 : V.cell? ⟨w.heap.size, 1, none⟩ = some (.int .i64 q) := by rw [hV]; simp
    have hVs : w.heap.size < V.heap.size := cell_lt X0
    have HBP : Hid (Box V P n (.slice a 0 c)) := (HBV.out.block P hP).trans HBX.out
    have hPV : P < V.heap.size := Nat.lt_trans hP hVs
    rw [← hV]
    clear hV b0 b1 f0 f1
    obtain ⟨b0, b1, f0, f1⟩ := HBP.out.cells
    cases a
    all_goals
      go_upto_region 5 with fail
      go_wp2_with (at_builtin; refine wpList_append_own _ rfl _ _ 27 rfl V.heap.size 68 i0 (.agg #[.int .i64 0, .int .i64 0]) 2 16 Try.underlying27 hi hz0 hz1 hz2 rfl (by decide) _ 0 [] rfl (World.ownsRow.alloc (World.ownsRow_made V #[] 0 (Nat.le_refl _) (by unfold maxLen; omega) rfl) _) ⟨V.heap.size + 1, 0, none⟩ 1 1 [.int .i64 p, .int .i64 q] (by simp [Act.eval]) rfl ?c1 ?c2 ?c3 ?c4 ?c5 ?_)
      case c1 =>
        intro j u hu
        match j, hu with
        | 0, hu => simp at hu; subst hu; simp [Addr.add]
        | 1, hu => simp at hu; subst hu; simp [Addr.add]
      case c2 => intro u hu; simp at hu; rcases hu with rfl | rfl <;> rfl
      case c3 => unfold maxLen; omega
      case c4 => omega
      case c5 => simp; omega
      intro v2 w2 own2 gr2 _
      have hb2 : Below V.heap.size V w2 := (((Below.refl _ V).alloc (Nat.le_refl _) _).alloc (by simp) _).grown gr2 (by simp; omega) (fun k e => by simp [Value.ownBlock] at e; omega)
      have HB2 : Hid (Below V.heap.size V w2) := hb2
      have HBP2 : Hid _ := (hb2.block P hPV).trans HBP.out
      have OWN2 : Hid (Row w2 V.heap.size v2 [(p, q)]) := own2
      obtain ⟨d0, d1, h0, h1⟩ := Box.cells HBP2.out
      obtain ⟨g2, c2, hv2, hc2, hc3, _⟩ := OWN2.out.rd.at (by simp)
      have hv2' : v2 = .slice (some ⟨g2, 0, none⟩) 1 c2 := hv2
      subst hv2'
      unfold maxLen at hc3
      have hc2' : 1 ≤ c2 := hc2
      clear b0 b1 f0 f1 X0 X1 gr2 own2 hb2 hc2 hv2
      go_wp2
      go_end0
      exact put_end rfl HBV.out hPV HB2.out HBP2.out OWN2.out hP

/-- l04Put at every row -/
theorem spec_put (P : Nat) (n : Int) (v : Value) (xs : List Pr) (x : Pr) (w : World) (hbox : Box w P n v) (hrd : Rd w v xs) (hl : xs.length ≤ 1000) :
    Calls Try.prog 67 #[.pointer (some ⟨P, 0, none⟩), .agg #[.int .i64 x.1, .int .i64 x.2]] w (PutPost P n (putI xs x) w) := by
  by_cases h0 : xs.length = 0
  · have e : xs = [] := List.eq_nil_of_length_eq_zero h0
    subst e
    obtain ⟨a, c, rfl, _, hc⟩ := hrd.form
    exact spec_put_none P n a c x w hbox hc
  · obtain ⟨g, c, rfl, hc1, hc2, hg, hc⟩ := hrd.at (by omega)
    have hgP : g ≠ P := fun e => by
      subst e
      have h1 := (hc 0 (by omega)).2
      have h2 := hbox.cells.2.1
      simp only [Nat.zero_mul, Nat.zero_add] at h1
      rw [h1] at h2
      cases h2
    exact spec_put_some P n g c xs x w hbox hgP hg (by omega) hl hc1 hc2 hc
end Go.Proofs.Ytcokchfedaoccab.bspec
