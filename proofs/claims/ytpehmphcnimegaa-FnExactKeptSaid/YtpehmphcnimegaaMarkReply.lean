/-
  Replies are marked, with their lists, and held. No condition but their lengths.
-/
import Derived.Test.YtpehmphcnimegaaRowReply
import Derived.Test.YtpehmphcnimegaaMarkHandle
import Derived.Deep.CutRange
namespace Go.Proofs.Ytpehmphcnimegaa.deep
open Go.RowKit Go.Deep
set_option linter.unusedVariables false
set_option maxRecDepth 100000

set_option maxHeartbeats 1000000 in
theorem mark_reps0 (a : Option Addr) (c : Nat) (k : Int) (w : World) : Calls Try.prog 17 #[.slice a 0 c, .int .i64 k] w fun e w' => e = .returned (.int .i64 k) ∧ w' = w := by
  go_enter Try.func17, Try.ntmps17
  go_wp2
  go_loop [1, 5] (fun tk i => i = .int .i64 0 ∧ tk = .int .i64 k) (fun _ _ => 0)
  case atStart => exact ⟨rfl, rfl⟩
  case round =>
    obtain ⟨rfl, rfl⟩ := hrel
    go_wp2
    go_ret
    exact ⟨rfl, rfl⟩
/-- each element has one list, of handles -/
def OneL (ds : List EL) : Prop := ∀ d ∈ ds, ∃ v, d = [(3, v)]
set_option maxHeartbeats 1000000 in
theorem mark_reps {w : World} {G o n c : Nat} {ds : List EL} {k : Int} (h : MElems 5 6 w G o ds) (h1 : OneL ds) (hn : n = ds.length) (hn1 : (n : Int) ≤ 1048576) (hk0 : 0 ≤ k) (hk1 : k + sumE 5 ds ds.length ≤ 500000000) : Calls Try.prog 17 #[.slice (some ⟨G, o, none⟩) n c, .int .i64 k] w fun e w' => e = .returned (.int .i64 (k + sumE 5 ds n)) ∧ w' = markEs 5 6 w G o k ds n := by
  have HX : Hid (n = ds.length) := hn
  have H0 : Hid (MElems 5 6 w G o ds) := h
  have H1 : Hid (OneL ds) := h1
  have HK : Hid (k + sumE 5 ds ds.length ≤ 500000000) := hk1
  clear h h1 hn hk1
  go_enter Try.func17, Try.ntmps17
  go_wp2
  go_loopw [1, 5] (fun tk i wr => ∃ (j : Nat) (q : Int), j ≤ n ∧ i = .int .i64 j ∧ tk = .int .i64 q ∧ Hid (q = k + sumE 5 ds j) ∧ Hid (wr = markEs 5 6 w G o k ds j)) (fun _ i _ => n - (intOf i).toNat)
  case atStart => exact ⟨0, k, by omega, rfl, rfl, by simp [Hid, sumE], rfl⟩
  case round =>
    obtain ⟨j, q, hj, rfl, rfl, HQ, HW⟩ := hrel
    by_cases hlt : j < n
    · have hlx : j < ds.length := by rw [← HX.out]; exact hlt
      have HM : Hid (MElems 5 6 wr G o ds) := by rw [HW.out]; exact H0.out.upto k j (by omega)
      have HNX : Hid (∀ W, W = markEs 5 6 w G o k ds j → markE 5 W G (o + j * 6) ds[j] q = markEs 5 6 w G o k ds (j + 1)) := fun W hW => by rw [hW, HQ.out, markE_next 5 6 w G o k ds j hlx]
      have HQX : Hid (q + (5 + cntL ds[j]) = k + sumE 5 ds (j + 1)) := by rw [Hid, HQ.out, sumE_next 5 ds j hlx]; omega
      have hq0 : 0 ≤ q := by have := HQ.out; have := sumE_pos 5 ds j; omega
      have hq1 : q + (5 + cntL ds[j]) ≤ 500000000 := by
        have h1 := sumE_le 5 ds (ds.length - (j + 1)) (j + 1) (by omega)
        have h2 := HQX.out
        have h3 := HK.out
        omega
      obtain ⟨x0, c0⟩ : ∃ x, wr.cell? ⟨G, o + j * 6, none⟩ = some (.int .i64 x) := HM.out.ints j hlx 0 (by decide)
      have f0 := HM.out.free (o + j * 6)
      obtain ⟨x1, c1⟩ : ∃ x, wr.cell? ⟨G, o + j * 6 + 1, none⟩ = some (.int .i64 x) := HM.out.ints j hlx 1 (by decide)
      have f1 := HM.out.free (o + j * 6 + 1)
      obtain ⟨x2, c2⟩ : ∃ x, wr.cell? ⟨G, o + j * 6 + 2, none⟩ = some (.int .i64 x) := HM.out.ints j hlx 2 (by decide)
      have f2 := HM.out.free (o + j * 6 + 2)
      obtain ⟨x3, c3⟩ : ∃ x, wr.cell? ⟨G, o + j * 6 + 3, none⟩ = some (.int .i64 x) := HM.out.ints j hlx 3 (by decide)
      have f3 := HM.out.free (o + j * 6 + 3)
      obtain ⟨x4, c4⟩ : ∃ x, wr.cell? ⟨G, o + j * 6 + 4, none⟩ = some (.int .i64 x) := HM.out.ints j hlx 4 (by decide)
      have f4 := HM.out.free (o + j * 6 + 4)
      have hv := HM.out.vals j hlx
      have hm := HM.out.mks ds[j] (List.getElem_mem _)
      have ho := HM.out.off ds[j] (List.getElem_mem _)
      obtain ⟨vh, hvh⟩ := H1.out ds[j] (List.getElem_mem _)
      generalize ds[j] = d at *
      subst hvh
      have v1 : wr.cell? ⟨G, o + j * 6 + 5, none⟩ = some vh := hv 0 (by simp)
      have m1 : Mks wr 3 vh := hm (3, vh) (by simp)
      have o1 := ho (3, vh) (by simp)
      have hc1 : cntL [(3, vh)] = 3 * (lenOf vh : Int) := by simp [cntL]
      rw [hc1] at hq1 HQX
      obtain ⟨W1, hW1⟩ : ∃ W, W = putW wr G (o + j * 6) (nums q 5) := ⟨_, rfl⟩
      have p1 : Mks W1 3 vh := by rw [hW1]; exact m1.putO _ _ _ o1
      obtain ⟨W5, hW5⟩ : ∃ W, W = markE 5 wr G (o + j * 6) [(3, vh)] q := ⟨_, rfl⟩
      have HW5 : Hid (W5 = markEs 5 6 w G o k ds (j + 1)) := by rw [hW5]; exact HNX.out _ HW.out
      obtain ⟨k5, hk5⟩ : ∃ x, x = k + sumE 5 ds (j + 1) := ⟨_, rfl⟩
      have HK5 : Hid (k5 = k + sumE 5 ds (j + 1)) := hk5
      have e5 : nums q 5 = [.int .i64 q, .int .i64 (q + 1), .int .i64 (q + 1 + 1), .int .i64 (q + 1 + 1 + 1), .int .i64 (q + 1 + 1 + 1 + 1)] := by
        simp only [nums, List.range_succ, List.range_zero, List.nil_append, List.cons_append, List.map_cons, List.map_nil, Int.add_assoc]
        simp
      have C1 : Hid (Calls Try.prog 28 #[vh, .int .i64 (q + 1 + 1 + 1 + 1 + 1)] (putW wr G (o + j * 6) [.int .i64 q, .int .i64 (q + 1), .int .i64 (q + 1 + 1), .int .i64 (q + 1 + 1 + 1), .int .i64 (q + 1 + 1 + 1 + 1)]) fun e w' => e = .returned (.int .i64 k5) ∧ w' = W5) := by
        have := mark_hds p1 (k := q + 5) (by omega) (by omega)
        rw [← e5, ← hW1, show q + 1 + 1 + 1 + 1 + 1 = q + 5 by omega, hW5, markE, ← hW1, hk5, ← HQX.out, show q + (5 + 3 * (lenOf vh : Int)) = q + 5 + 3 * (lenOf vh : Int) by omega]
        exact this
      obtain ⟨ah, nh, ch, qh, _⟩ := m1
      have hq2 : q ≤ 500000000 := by omega
      clear hW1 hW5 HNX HW p1 o1 ho HM hv hm hk5 HQX H0 hq1 hlx W1 hc1 e5
      subst qh
      go_wp2_with fail
      refine Calls.mono C1.out ?_
      rintro e w1 ⟨rfl, rfl⟩
      go_wp2_with fail
      go_roundw
      case rel => exact ⟨j + 1, _, by omega, by go_num, rfl, HK5.out, HW5.out⟩
      case measure => simp [intOf]; omega
    · obtain rfl : j = n := by omega
      have e := HQ.out
      clear HQ
      subst e
      go_wp2
      go_ret
      exact ⟨rfl, HW.out⟩

set_option maxHeartbeats 1000000 in
theorem held_reps0 (a : Option Addr) (c : Nat) (k : Int) (w : World) : Calls Try.prog 18 #[.slice a 0 c, .int .i64 k] w fun e w' => e = .returned (.int .i64 k) ∧ w' = w := by
  go_enter Try.func18, Try.ntmps18
  go_wp2
  go_loop [1, 5] (fun tk i => i = .int .i64 0 ∧ tk = .int .i64 k) (fun _ _ => 0)
  case atStart => exact ⟨rfl, rfl⟩
  case round =>
    obtain ⟨rfl, rfl⟩ := hrel
    go_wp2
    go_ret
    exact ⟨rfl, rfl⟩
set_option maxHeartbeats 2000000 in
theorem held_reps {w : World} {G o n c : Nat} {ds : List EL} {k : Int} (h : HElems 5 6 w G o ds k ds.length) (h1 : OneL ds) (hv : ∀ i (hi : i < ds.length), ∀ r (hr : r < ds[i].length), w.cell? ⟨G, o + i * 6 + (5 + r), none⟩ = some (ds[i][r]).2) (hn : n = ds.length) (hn1 : (n : Int) ≤ 1048576) (hk0 : 0 ≤ k) (hk1 : k + sumE 5 ds ds.length ≤ 500000000) : Calls Try.prog 18 #[.slice (some ⟨G, o, none⟩) n c, .int .i64 k] w fun e w' => e = .returned (.int .i64 (k + sumE 5 ds n)) ∧ w' = w := by
  have HX : Hid (n = ds.length) := hn
  have H0 : Hid (HElems 5 6 w G o ds k ds.length) := h
  have HV : Hid (∀ i (hi : i < ds.length), ∀ r (hr : r < ds[i].length), w.cell? ⟨G, o + i * 6 + (5 + r), none⟩ = some (ds[i][r]).2) := hv
  have H1 : Hid (OneL ds) := h1
  have HK : Hid (k + sumE 5 ds ds.length ≤ 500000000) := hk1
  clear h h1 hn hk1 hv
  go_enter Try.func18, Try.ntmps18
  go_wp2
  go_loop [1, 5] (fun tk i => ∃ (j : Nat) (q : Int), j ≤ n ∧ i = .int .i64 j ∧ tk = .int .i64 q ∧ Hid (q = k + sumE 5 ds j)) (fun _ i => n - (intOf i).toNat)
  case atStart => exact ⟨0, k, by omega, rfl, rfl, by simp [Hid, sumE]⟩
  case round =>
    obtain ⟨j, q, hj, rfl, rfl, HQ⟩ := hrel
    by_cases hlt : j < n
    · have hlx : j < ds.length := by rw [← HX.out]; exact hlt
      have HH : Hid (HElem 5 w G (o + j * 6) ds[j] q) := by rw [HQ.out]; exact H0.out j hlx hlx
      have HQX : Hid (q + (5 + cntL ds[j]) = k + sumE 5 ds (j + 1)) := by rw [Hid, HQ.out, sumE_next 5 ds j hlx]; omega
      have hq0 : 0 ≤ q := by have := HQ.out; have := sumE_pos 5 ds j; omega
      have hq1 : q + (5 + cntL ds[j]) ≤ 500000000 := by
        have h1 := sumE_le 5 ds (ds.length - (j + 1)) (j + 1) (by omega)
        have h2 := HQX.out
        have h3 := HK.out
        omega
      have hv := HV.out j hlx
      obtain ⟨vh, hvh⟩ := H1.out ds[j] (List.getElem_mem _)
      generalize ds[j] = d at *
      subst hvh
      have v1 : w.cell? ⟨G, o + j * 6 + 5, none⟩ = some vh := hv 0 (by simp)
      have hc1 : cntL [(3, vh)] = 3 * (lenOf vh : Int) := by simp [cntL]
      rw [hc1] at hq1 HQX
      have c0 : w.cell? ⟨G, o + j * 6, none⟩ = some (.int .i64 (q)) := by have := HH.out.hd 0 (by decide); rw [show q = q + ((0 : Nat) : Int) by omega]; exact this
      have c1 : w.cell? ⟨G, o + j * 6 + 1, none⟩ = some (.int .i64 (q + 1)) := by have := HH.out.hd 1 (by decide); rw [show q + 1 = q + ((1 : Nat) : Int) by omega]; exact this
      have c2 : w.cell? ⟨G, o + j * 6 + 2, none⟩ = some (.int .i64 (q + 1 + 1)) := by have := HH.out.hd 2 (by decide); rw [show q + 1 + 1 = q + ((2 : Nat) : Int) by omega]; exact this
      have c3 : w.cell? ⟨G, o + j * 6 + 3, none⟩ = some (.int .i64 (q + 1 + 1 + 1)) := by have := HH.out.hd 3 (by decide); rw [show q + 1 + 1 + 1 = q + ((3 : Nat) : Int) by omega]; exact this
      have c4 : w.cell? ⟨G, o + j * 6 + 4, none⟩ = some (.int .i64 (q + 1 + 1 + 1 + 1)) := by have := HH.out.hd 4 (by decide); rw [show q + 1 + 1 + 1 + 1 = q + ((4 : Nat) : Int) by omega]; exact this
      have m1 : HeldV w 3 vh (q + 5) := HH.out.ls.1
      obtain ⟨k5, hk5⟩ : ∃ x, x = k + sumE 5 ds (j + 1) := ⟨_, rfl⟩
      have HK5 : Hid (k5 = k + sumE 5 ds (j + 1)) := hk5
      have y5 : 0 ≤ k5 := by rw [hk5, ← HQX.out]; omega
      have C1 : Hid (Calls Try.prog 29 #[vh, .int .i64 (q + 1 + 1 + 1 + 1 + 1)] w fun e w' => e = .returned (.int .i64 k5) ∧ w' = w) := by
        have := held_hds m1 (by omega) (by omega)
        rw [show q + 1 + 1 + 1 + 1 + 1 = q + 5 by omega, hk5, ← HQX.out, show q + (5 + 3 * (lenOf vh : Int)) = q + 5 + 3 * (lenOf vh : Int) by omega]
        exact this
      obtain ⟨ah, nh, ch, qh, _⟩ := m1
      have hq2 : q ≤ 500000000 := by omega
      clear HH HQX H0 hq1 hlx hk5 hv hc1
      subst qh
      go_wp2_with fail
      refine Calls.mono C1.out ?_
      rintro e w1 ⟨rfl, rfl⟩
      go_wp2_with fail
      go_round
      case rel => exact ⟨j + 1, _, by omega, by go_num, rfl, HK5.out⟩
      case measure => simp [intOf]; omega
    · obtain rfl : j = n := by omega
      have e := HQ.out
      clear HQ
      subst e
      go_wp2
      go_ret
      exact ⟨rfl, rfl⟩
end Go.Proofs.Ytpehmphcnimegaa.deep
