/-
  The program's SchedRun. Condition: the list of tasks is no longer than its room.
-/
import Derived.Test.YtnkkkdhpopfahaaSchSr
import Derived.Test.YtnkkkdhpopfahaaSchTc
import Derived.Test.YtnkkkdhpopfahaaSchTk
namespace Go.Proofs.Ytnkkkdhpopfahaa.sch
open Go.RowKit Go.Deep Go.Sort
open Go.Proofs.Ytnkkkdhpopfahaa
open Go.Proofs.Ytnkkkdhpopfahaa.deep
set_option linter.unusedVariables false
set_option maxRecDepth 100000

theorem turns_of (B : Nat) (w : World) : Calls Try.prog 57 #[.pointer (some ⟨B, 0, none⟩)] w fun e w' => e = .returned (.func (.func 71) #[] #[.pointer (some ⟨w.heap.size, 0, none⟩)]) ∧ w'.cell? ⟨w.heap.size, 0, none⟩ = some (.pointer (some ⟨B, 0, none⟩)) ∧ Below w.heap.size w w' ∧ w.heap.size < w'.heap.size := by
  go_enter Try.func57, Try.ntmps57
  go_wp2_with fail
  go_ret
  refine ⟨rfl, ?_, below_one _ _, by simp⟩
  exact (blk_new w [.pointer (some ⟨B, 0, none⟩)] _).cell 0
theorem placed_mem : ∀ (ts : List Tt) (q : Nat) (y : Wt), y ∈ placed ts q → y.1 ∈ ts ∧ (q : Int) ≤ y.2 ∧ y.2 < ((q + ts.length : Nat) : Int)
  | [], _, y, h => by simp [placed] at h
  | t :: r, q, y, h => by
    rw [placed] at h
    rcases List.mem_cons.1 h with h | h
    · subst h; exact ⟨List.mem_cons_self, Int.le_refl _, by simp only [List.length_cons]; omega⟩
    · obtain ⟨h1, h2, h3⟩ := placed_mem r (q + 1) y h
      exact ⟨List.mem_cons_of_mem _ h1, by omega, by simp only [List.length_cons]; omega⟩
theorem placed_rise : ∀ (ts : List Tt) (q : Nat), (placed ts q).Pairwise fun a b => a.2 < b.2
  | [], _ => List.Pairwise.nil
  | t :: r, q => by
    rw [placed, List.pairwise_cons]
    exact ⟨fun y hy => by have := (placed_mem r (q + 1) y hy).2.1; simp only; omega, placed_rise r (q + 1)⟩
theorem placed_ok {x : SchedD} (hs : schedB x = true) : LineOk (placed x.tasks 0) x.tasks.length := by
  obtain ⟨f1, f2, f3, f4⟩ := sched_facts hs
  refine ⟨by rw [placed_len]; omega, fun y hy => ?_, fun y hy => ?_, fun y hy => ?_, placed_rise _ _⟩
  · obtain ⟨k, hk, e⟩ := List.getElem_of_mem (placed_mem _ _ y hy).1
    obtain ⟨l, hl, h⟩ := task_label (f4 k hk) f1
    rw [← e, h]; omega
  · obtain ⟨k, hk, e⟩ := List.getElem_of_mem (placed_mem _ _ y hy).1
    have := f4 k hk
    simp only [taskB, Bool.and_eq_true] at this
    rw [← e]; exact isB_of.1 this.2.2
  · have := (placed_mem _ _ y hy).2; simpa using this
theorem lab_nat {x : SchedD} (ho : orderB x.order = true) (hn : 0 ≤ x.now) : ∃ l : Nat, l < 16 ∧ labOf x = (l : Int) := by
  have hol := order_len ho
  have h1 := Int.emod_lt_of_pos x.now (show (0 : Int) < x.order.length by omega)
  have h2 := Int.emod_nonneg x.now (show (x.order.length : Int) ≠ 0 by omega)
  have h3 : (x.now % (x.order.length : Int)).toNat < x.order.length := by omega
  have e : labOf x = x.order[(x.now % (x.order.length : Int)).toNat] := by unfold labOf; simp [List.getD, List.getElem?_eq_getElem h3]
  have hr : label.rightB (labOf x) = true := by
    simp only [orderB, Bool.and_eq_true] at ho
    rw [e]; exact List.all_eq_true.1 ho.1 _ (List.getElem_mem h3)
  have := label.right_yes _ hr
  exact ⟨(labOf x).toNat, by omega, by omega⟩
/-- where the program's run stands -/
def RunI (x : SchedD) (B X : Nat) (a : Option Addr) (n c : Nat) (j : Nat) (w : World) : Prop :=
  w.cell? ⟨X, 0, none⟩ = some (.pointer (some ⟨B, 0, none⟩)) ∧ Ints 0 w (.slice a n c) x.order ∧ ∃ last f ws, Wheel w B (.slice a n c) (x.now + j) last f ws ∧ LineOk ws last ∧ 0 ≤ last ∧ last ≤ 40 + j ∧ ws.map (·.1) = (stN j x).tasks
theorem RunI.past {x : SchedD} {B X : Nat} {a : Option Addr} {n c j : Nat} {w w' : World} (h : RunI x B X a n c j w) (hb : ∀ g, g < w.heap.size → (g = B ∨ g = X ∨ (Value.slice a n c).ownBlock = some g) → w'.heap[g]? = w.heap[g]?) : RunI x B X a n c j w' := by
  obtain ⟨h1, h2, last, f, ws, h3, h4⟩ := h
  exact ⟨(World.cell?_of_block (w := w) (a := ⟨X, 0, none⟩) (hb X (ltc h1) (.inr (.inl rfl)))).trans h1, own_kept h2 (fun g hg => hb g (World.ownsRow.lt (OwnC.row h2) g hg).2 (.inr (.inr hg))), last, f, ws, h3.later (hb B h3.lt (.inl rfl)), h4⟩
theorem ints_spot {w : World} {B T : Nat} {cur : Array Value} {a : Option Addr} {n c : Nat} {xs : List Int} (h : Ints 0 w (.slice a n c) xs) (hB : w.heap[B]? = some (.cells cur T (0, 0))) (hT : 2 ≠ T) : ∀ g o, spotOf (.slice a n c) = some (g, o) → g ≠ B := by
  intro g o hs e
  subst e
  rcases (OwnC.row h).2 with ⟨e, _⟩ | ⟨g1, cap1, cur1, e, _, hc1, _⟩
  · cases e; simp [spotOf] at hs
  · cases e
    simp [spotOf] at hs
    obtain ⟨rfl, -⟩ := hs
    rw [hB] at hc1
    injection hc1 with hc1
    injection hc1 with _ ht2
    exact hT ht2.symm
theorem run_turn {x : SchedD} {B X : Nat} {a : Option Addr} {n c j : Nat} {w : World} (hs : schedB x = true) (h : RunI x B X a n c j w) (hXB : X ≠ B) (hlt : x.now + j < 999999) (hj : j ≤ 200) :
    Calls Try.prog 71 #[.pointer (some ⟨X, 0, none⟩)] w fun e w' => e = .returned (.tuple #[.agg #[.int .i64 (tickD (stN j x)).r.1, .int .i64 (tickD (stN j x)).r.2.1, .int .i64 (tickD (stN j x)).r.2.2], .bool true]) ∧ w.grownBy w' (some B) ∧ RunI x B X a n c (j + 1) w' := by
  obtain ⟨h1, h2, last, f, ws, h3, h4, h5, h6, h7⟩ := h
  obtain ⟨f1, f2, f3, f4⟩ := sched_facts hs
  have hol := order_len f1
  have hnow := st_now j x
  have hord := st_order j x
  obtain ⟨l, hl, hlab⟩ := lab_nat (x := stN j x) (by rw [hord]; exact f1) (by rw [hnow]; omega)
  have hlb : x.order.getD ((x.now + (j : Int)) % (x.order.length : Int)).toNat 0 = (l : Int) := by
    have := hlab
    unfold labOf at this
    rw [hnow, hord] at this
    exact this
  obtain ⟨cur, hcur, hWC⟩ := h3
  have hrow : RowE (Plain cint) 1 0 w (.slice a n c) x.order := OwnC.plain h2
  refine (turn_one B X l hl a n c ⟨cur, hcur, hWC⟩ h1 hXB (by omega) hlt hrow (ints_spot h2 hcur (by decide)) (by omega) hlb h4 h5 (by omega)).mono ?_
  rintro e w' ⟨rfl, hg, f', hW⟩
  have hbnd := last_bound ws l last
  have hmap := left_map ws l last
  refine ⟨?_, hg, (World.cell?_of_block (w := w) (a := ⟨X, 0, none⟩) (hg.block X (ltc h1) (fun e => hXB (Option.some.inj e)))).trans h1, ints_apart h2 hcur (by decide) hg, lastW ws l last, f', leftW ws l last, ?_, h4.left h5 hl, by omega, by omega, ?_⟩
  · rw [h7, ← hlab]; rfl
  · rw [show x.now + ((j + 1 : Nat) : Int) = x.now + (j : Int) + 1 by omega]; exact hW
  · rw [hmap, h7, ← hlab]; rfl
theorem run_over {x : SchedD} {B X : Nat} {a : Option Addr} {n c j : Nat} {w : World} (h : RunI x B X a n c j w) (hlt : 999999 ≤ x.now + j) :
    Calls Try.prog 71 #[.pointer (some ⟨X, 0, none⟩)] w fun e w' => e = .returned (.tuple #[.agg #[.int .i64 0, .int .i64 0, .int .i64 0], .bool false]) ∧ Below w.heap.size w w' := by
  obtain ⟨h1, h2, last, f, ws, h3, h4⟩ := h
  exact turn_over B X h3 h1 hlt
theorem run_stepI {x : SchedD} {B X : Nat} {a : Option Addr} {n c j base : Nat} {w wr w5 w6 : World} {tv v' : Value} {o1 o2 : Obj} {r : Tt} (hO : Tks base wr tv (ranN j x)) (hbr : base ≤ wr.heap.size) (hB : Below w.heap.size w wr) (hwB : w.heap.size ≤ B) (hBb : B < base) (hXb : X < base) (hv : ∀ g, (Value.slice a n c).ownBlock = some g → g < base) (hg : wr.grownBy w5 (some B)) (hR : RunI x B X a n c (j + 1) w5) (hr : (tickD (stN j x)).r = r)
    (own : w6.ownsRow base 35 3 v' (((ranN j x).map ctk).length + 1) (((ranN j x).map ctk).flatten ++ ctk r)) (gr : ((w5.alloc o1).alloc o2).grownBy w6 tv.ownBlock) :
    Tks base w6 v' (ranN (j + 1) x) ∧ Below w.heap.size w w6 ∧ base ≤ w6.heap.size ∧ RunI x B X a n c (j + 1) w6 := by
  have hge : ∀ k, tv.ownBlock = some k → base ≤ k := fun k hk => (World.ownsRow.lt hO.row k hk).1
  have hwr := hB.size
  have hb5 : Below w.heap.size w w5 := hB.grown hg hB.size (fun k e => by injection e with e; omega)
  have h5 := hb5.size
  have h55 := hg.size
  have ha : Below w5.heap.size w5 ((w5.alloc o1).alloc o2) := below2 _ _ _
  have hb6 : Below w.heap.size w ((w5.alloc o1).alloc o2) := below_tr hb5 ha
  have hgs := gr.size
  have has := ha.size
  refine ⟨?_, hb6.grown gr hb6.size (fun k e => by have := hge k e; omega), by omega, hR.past fun g hgl h => ?_⟩
  · unfold Tks
    rw [ranN, hr, List.map_append]
    exact OwnC.push (w := wr) hO rfl own
  · refine (gr.block g (by omega) (fun e => ?_)).trans (ha.block g hgl)
    have := hge g e.symm
    rcases h with h | h | h
    · omega
    · omega
    · have := hv g h; omega
set_option maxHeartbeats 8000000 in
theorem impl_run (x : SchedD) (many : Int) {lo : Nat} {w : World} {vo : Value} (a : Option Addr) (n c : Nat) (hnc : n ≤ c) (h : SF lo w vo (.slice a n c) x) : Calls Try.prog 28 #[.agg #[vo, .int .i64 x.now, .slice a n c], .int .i64 many] w (ImplTks (runL x many) w) := by
  have HR : Hid (∀ W, Below w.heap.size w W → Calls Try.prog 12 #[.agg #[vo, .int .i64 x.now, .slice a n c]] W fun e w' => e = .returned (.bool (schedB x)) ∧ Below W.heap.size W w') := fun W hW => impl_right x a n c hnc (h.later hW)
  have HWO : Hid (schedB x = true → ∀ W, Below w.heap.size w W → Calls Try.prog 52 #[.agg #[vo, .int .i64 x.now, .slice a n c]] W (WheelOf x W)) := fun hr W hW => wheel_of x hr (h.later hW)
  obtain ⟨ao, co, hvo, -⟩ := int_at h.1
  generalize x.order.length = no at hvo
  subst hvo
  obtain ⟨V, hV⟩ : ∃ V, V = w.alloc (.cells #[.slice ao no co, .int .i64 x.now, .slice a n c] 30) := ⟨_, rfl⟩
  have HB : Hid (Below w.heap.size w V) := by rw [hV]; exact below_one _ _
  have HX : Hid (Blk V w.heap.size 30 [.slice ao no co, .int .i64 x.now, .slice a n c]) := by rw [hV]; exact blk_new _ _ _
  obtain ⟨x0, x1, x2⟩ := cells3s HX.out
  have HN0 : Hid (∀ W, Below w.heap.size w W → ImplTks [] w (.returned (.slice none 0 0)) W) := fun W hW => ⟨_, rfl, (ill_sf _ _ 0).2, hW, free_nil _⟩
  clear h
  cases hs : schedB x with
  | false =>
    have HE : Hid (runL x many = []) := by rw [Hid, runL, hs]; rfl
    rw [hs] at HR
    rw [HE.out]
    go_enter Try.func28, Try.ntmps28
    go_wp2_with fail
    rw [← hV]
    clear hV
    refine Calls.mono (HR.out _ HB.out) ?_
    rintro e w1 ⟨rfl, hb1⟩
    have HB1 : Hid (Below w.heap.size w w1) := below_tr HB.out hb1
    clear hb1
    go_wp2_with fail
    go_ret
    exact HN0.out _ HB1.out
  | true =>
    rw [hs] at HR
    have HW2 : Hid _ := HWO.out hs
    obtain ⟨f1, f2, f3, f4⟩ := sched_facts hs
    by_cases h1 : many < 1
    · have HE : Hid (runL x many = []) := by
        have : isB many 1 200 = false := by simp [isB]; omega
        rw [Hid, runL, this, Bool.and_false]; rfl
      rw [HE.out]
      clear HE f1 f4
      go_enter Try.func28, Try.ntmps28
      go_wp2_with fail
      rw [← hV]
      clear hV
      refine Calls.mono (HR.out _ HB.out) ?_
      rintro e w1 ⟨rfl, hb1⟩
      have HB1 : Hid (Below w.heap.size w w1) := below_tr HB.out hb1
      clear hb1
      go_wp2_with fail
      go_ret
      exact HN0.out _ HB1.out
    · by_cases h2 : 200 < many
      · have HE : Hid (runL x many = []) := by
          have : isB many 1 200 = false := by simp [isB]; omega
          rw [Hid, runL, this, Bool.and_false]; rfl
        rw [HE.out]
        clear HE f1 f4
        go_enter Try.func28, Try.ntmps28
        go_wp2_with fail
        rw [← hV]
        clear hV
        refine Calls.mono (HR.out _ HB.out) ?_
        rintro e w1 ⟨rfl, hb1⟩
        have HB1 : Hid (Below w.heap.size w w1) := below_tr HB.out hb1
        clear hb1
        go_wp2_with fail
        go_ret
        exact HN0.out _ HB1.out
      · have HE : Hid (runL x many = ranN (turnsN x many) x) := by
          have : isB many 1 200 = true := isB_of.2 (by omega)
          rw [Hid, runL, hs, this]; rfl
        have HSB : Hid (schedB x = true) := hs
        clear f1 f4 HWO hs
        go_enter Try.func28, Try.ntmps28
        go_wp2_with fail
        rw [← hV]
        clear hV
        refine Calls.mono (HR.out _ HB.out) ?_
        rintro e w1 ⟨rfl, hb1⟩
        have HB1 : Hid (Below w.heap.size w w1) := below_tr HB.out hb1
        have HX1 : Hid (Blk w1 w.heap.size 30 [.slice ao no co, .int .i64 x.now, .slice a n c]) := HX.out.later hb1
        clear hb1 x0 x1 x2 HX
        obtain ⟨x0, x1, x2⟩ := cells3s HX1.out
        go_wp2_with fail
        refine Calls.mono (HW2.out _ HB1.out) ?_
        rintro e w3 ⟨B, v3, rfl, hBg, hw3, hi3, hb3⟩
        have HB3 : Hid (Below w.heap.size w w3) := below_tr HB1.out hb3
        have HW3 : Hid (Wheel w3 B v3 x.now x.tasks.length (fun _ => 0) (placed x.tasks 0)) := hw3
        have HI3 : Hid (Ints w1.heap.size w3 v3 x.order) := hi3
        have hBw : w.heap.size ≤ B := Nat.le_trans HB1.out.size hBg
        have hB3 : B < w3.heap.size := hw3.lt
        clear hb3 hw3 hi3 x0 x1 x2 HX1 hBg
        go_wp2_with fail
        refine Calls.mono (turns_of B w3) ?_
        rintro e w4 ⟨rfl, hX4, hb4, hw4⟩
        obtain ⟨b3, n3, c3, rfl⟩ := ints_form HI3.out
        have HX4 : Hid (w4.cell? ⟨w3.heap.size, 0, none⟩ = some (.pointer (some ⟨B, 0, none⟩))) := hX4
        have HB4 : Hid (Below w.heap.size w w4) := below_tr HB3.out hb4
        have HR4 : Hid (RunI x B w3.heap.size b3 n3 c3 0 w4) := ⟨hX4, (Ints.lower HI3.out (Nat.zero_le _)).later hb4, x.tasks.length, fun _ => 0, placed x.tasks 0, by simpa using HW3.out.later (hb4.block B hB3), placed_ok HSB.out, by omega, by omega, placed_tasks _ _⟩
        have HG4 : Hid (∀ g, (Value.slice b3 n3 c3).ownBlock = some g → g < w4.heap.size) := fun g hg => (World.ownsRow.lt (OwnC.row (OwnC.later HI3.out hb4)) g hg).2
        have hw34 : w3.heap.size < w4.heap.size := hw4
        have hBX : B ≠ w3.heap.size := by omega
        have hBb : B < w4.heap.size := by omega
        have hws : w.heap.size ≤ w4.heap.size := by omega
        obtain ⟨T, hT⟩ : ∃ T, T = turnsN x many := ⟨_, rfl⟩
        have HTN : Hid (∀ j : Nat, ((j : Int) < many ∧ x.now + j < 999999 → j < T) ∧ (¬ ((j : Int) < many ∧ x.now + j < 999999) → j ≤ T → j = T) ∧ (j ≤ T → (j : Int) ≤ 200)) := fun j => by
          rw [hT]; unfold turnsN
          refine ⟨fun h => by omega, fun h1 h2 => by omega, fun h => by omega⟩
        rw [← hT] at HE
        obtain ⟨i0, hi, hz0, hz1, hz2⟩ := info_parts info_tk
        generalize w3.heap.size = X at *
        clear hT hX4 hb4 hw4 HI3 HW3 HB3 HW2 HR HB1 HB HN0 hB3
        have hXb : X < w4.heap.size := hw34
        go_wp2_with fail
        go_loopw [5, 24] (fun tv ti wr => ∃ j : Nat, j ≤ T ∧ ti = .int .i64 j ∧ Hid (Tks w4.heap.size wr tv (ranN j x)) ∧ Hid (Below w.heap.size w wr) ∧ Hid (w4.heap.size ≤ wr.heap.size) ∧ Hid (RunI x B X b3 n3 c3 j wr)) (fun _ ti _ => T - (intOf ti).toNat)
        case atStart => exact ⟨0, Nat.zero_le _, rfl, OwnC.nil _ _ _ _, HB4.out, Nat.le_refl _, HR4.out⟩
        case round =>
          obtain ⟨j, hj, rfl, HO, HW, HS, HRA⟩ := hrel
          obtain ⟨t1, t2, t3⟩ := HTN.out j
          have hj2 := t3 hj
          have HQE : Hid (j = T → ∀ W, Below wr.heap.size wr W → ImplTks (runL x many) w (.returned u5) W) := fun hjT W hW => by
            rw [HE.out, ← hjT]
            have hk := (OwnC.later HO.out hW)
            exact ⟨_, rfl, (tks_free (Tks.lower hk hws)).1, below_tr HW.out hW, (tks_free hk).2⟩
          clear HB4 HR4
          by_cases h1 : (j : Int) < many
          · by_cases h2 : x.now + (j : Int) < 999999
            · have hjT : j < T := t1 ⟨h1, h2⟩
              obtain ⟨r0, r1, r2, hr⟩ : ∃ r0 r1 r2, (tickD (stN j x)).r = (r0, r1, r2) := ⟨_, _, _, rfl⟩
              have HTK : Hid (Calls Try.prog 71 #[.pointer (some ⟨X, 0, none⟩)] wr fun e w' => e = .returned (.tuple #[.agg #[.int .i64 r0, .int .i64 r1, .int .i64 r2], .bool true]) ∧ wr.grownBy w' (some B) ∧ RunI x B X b3 n3 c3 (j + 1) w') := by
                have := run_turn HSB.out HRA.out (fun e => hBX e.symm) h2 (by omega)
                rw [hr] at this; exact this
              have HRR : Hid ((tickD (stN j x)).r = (r0, r1, r2)) := hr
              clear t1 t2 t3 hr HQE
              go_wp2_with fail
              refine Calls.mono HTK.out ?_
              rintro e w5 ⟨rfl, hg5, hR5⟩
              clear HTK
              have HO5 : Hid (Tks w4.heap.size w5 u5 (ranN j x)) := own_kept HO.out (fun g hg => hg5.block g (World.ownsRow.lt HO.out.row g hg).2 (fun e => by have := (World.ownsRow.lt HO.out.row g hg).1; injection e with e; omega))
              have hs5 : w4.heap.size ≤ w5.heap.size := Nat.le_trans HS.out hg5.size
              go_upto_region 9 with fail
              obtain ⟨U, hU⟩ : ∃ U, U = w5.alloc (.cells #[.int .i64 r0, .int .i64 r1, .int .i64 r2] 35) := ⟨_, rfl⟩
              have HSTEP : Hid (∀ (v' : Value) (w6 : World) (o2 : Obj), w6.ownsRow w4.heap.size 35 3 v' (((ranN j x).map ctk).length + 1) (((ranN j x).map ctk).flatten ++ ctk (r0, r1, r2)) → (U.alloc o2).grownBy w6 u5.ownBlock → Tks w4.heap.size w6 v' (ranN (j + 1) x) ∧ Below w.heap.size w w6 ∧ w4.heap.size ≤ w6.heap.size ∧ RunI x B X b3 n3 c3 (j + 1) w6) := fun v' w6 o2 own gr => run_stepI HO.out HS.out HW.out hBw hBb hXb HG4.out hg5 hR5 HRR.out own (by rw [hU] at gr; exact gr)
              have hY : Blk U w5.heap.size 35 [.int .i64 r0, .int .i64 r1, .int .i64 r2] := by rw [hU]; exact blk_new _ _ _
              have HOU : Hid (Tks w4.heap.size U u5 (ranN j x)) := by rw [hU]; exact OwnC.later HO5.out (below_one _ _)
              have hUs : w4.heap.size ≤ U.heap.size := by have := hY.lt; omega
              have HLE : Hid (((ranN j x).map ctk).length ≤ 200) := by show _ ≤ _; rw [List.length_map, ran_len]; omega
              obtain ⟨y0, y1, y2⟩ := cells3s hY
              rw [← hU]
              clear hU hY hg5 hR5 HO HRA HO5
              go_wp2_with (at_builtin; go_loud (refine wpList_append_own _ rfl _ _ 28 rfl w4.heap.size 35 i0 (.agg #[.int .i64 0, .int .i64 0, .int .i64 0]) 3 24 Try.underlying28 hi hz0 hz1 hz2 rfl (by decide) _ _ _ rfl (HOU.out.row.alloc _) ⟨U.heap.size, 0, none⟩ 1 1 (ctk (r0, r1, r2)) rfl rfl (new_cells U _ _) (ctk_one _) (by have := HLE.out; unfold maxLen; omega) (by have := HLE.out; omega) (by simp; omega) ?_); intro v' w6 own6 gr6 _; have HN6 : Hid _ := HSTEP.out _ _ _ own6 gr6; clear own6 gr6)
              go_roundw
              case rel => exact ⟨j + 1, hjT, by go_num, HN6.out.1, HN6.out.2.1, HN6.out.2.2.1, HN6.out.2.2.2⟩
              case measure => simp [intOf]; omega
            · have hjT : j = T := t2 (fun h => h2 h.2) hj
              have HTK : Hid (Calls Try.prog 71 #[.pointer (some ⟨X, 0, none⟩)] wr fun e w' => e = .returned (.tuple #[.agg #[.int .i64 0, .int .i64 0, .int .i64 0], .bool false]) ∧ Below wr.heap.size wr w') := run_over HRA.out (by omega)
              have HQ2 : Hid _ := HQE.out hjT
              clear t1 t2 t3 HQE
              go_wp2_with fail
              refine Calls.mono HTK.out ?_
              rintro e w5 ⟨rfl, hb5⟩
              have HQ3 : Hid (∀ o, ImplTks (runL x many) w (.returned u5) (w5.alloc o)) := fun o => HQ2.out _ (below_tr hb5 (below_one _ _))
              clear hb5 HTK HQ2
              go_wp2_with fail
              go_ret
              exact HQ3.out _
          · have hjT : j = T := t2 (fun h => h1 h.1) hj
            have HQ2 : Hid (ImplTks (runL x many) w (.returned u5) wr) := HQE.out hjT _ (Below.refl _ _)
            clear t1 t2 t3 HQE
            go_wp2_with fail
            go_ret
            exact HQ2.out
end Go.Proofs.Ytnkkkdhpopfahaa.sch
