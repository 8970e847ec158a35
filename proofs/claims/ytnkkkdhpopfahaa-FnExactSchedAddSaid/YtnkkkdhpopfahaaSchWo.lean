/-
  The program makes a wheel of a Sched, and tells the tasks of a label.
-/
import Derived.Test.YtnkkkdhpopfahaaSchWk
import Derived.Test.YtnkkkdhpopfahaaSchWp
namespace Go.Proofs.Ytnkkkdhpopfahaa.sch
open Go.RowKit Go.Deep Go.Sort
open Go.Proofs.Ytnkkkdhpopfahaa
open Go.Proofs.Ytnkkkdhpopfahaa.deep
set_option linter.unusedVariables false
set_option maxRecDepth 100000

/-- tasks with their places, from q on -/
def placed (ts : List Tt) (q : Nat) : List Wt := match ts with | [] => [] | t :: r => (t, (q : Int)) :: placed r (q + 1)
theorem placed_len : ∀ (ts : List Tt) (q : Nat), (placed ts q).length = ts.length
  | [], _ => rfl
  | t :: r, q => by simp [placed, placed_len r]
theorem placed_app : ∀ (ts : List Tt) (t : Tt) (q : Nat), placed (ts ++ [t]) q = placed ts q ++ [(t, ((q + ts.length : Nat) : Int))]
  | [], t, q => rfl
  | u :: r, t, q => by rw [List.cons_append, placed, placed_app r t (q + 1), placed, List.cons_append, List.length_cons, show q + 1 + r.length = q + (r.length + 1) by omega]
theorem placed_tasks : ∀ (ts : List Tt) (q : Nat), (placed ts q).map (·.1) = ts
  | [], _ => rfl
  | t :: r, q => by rw [placed, List.map_cons, placed_tasks r]
theorem placed_of : ∀ (ts : List Tt) (q : Nat) (l : Nat), ((placed ts q).filter (isL l)).map (·.1) = ofL ts l
  | [], _, _ => rfl
  | t :: r, q, l => by
    rw [placed, List.filter_cons]
    have ih := placed_of r (q + 1) l
    have e : isL l (t, (q : Int)) = mine l t := rfl
    rw [e]
    unfold ofL at *
    rw [List.filter_cons]
    cases mine l t with
    | true => rw [if_pos rfl, if_pos rfl, List.map_cons, ih]
    | false => rw [if_neg (by simp), if_neg (by simp), ih]
theorem placed_filter_le (ts : List Tt) (q l : Nat) : ((placed ts q).filter (isL l)).length ≤ ts.length := Nat.le_trans (List.length_filter_le _ _) (by rw [placed_len]; exact Nat.le_refl _)
theorem task_label {l : List Int} {t : Tt} (h : taskB l t = true) (ho : orderB l = true) : ∃ n : Nat, n < 16 ∧ t.1 = (n : Int) := by
  have h0 : 0 < oft l t.1 := by
    unfold taskB at h
    simp only [Bool.and_eq_true, decide_eq_true_eq] at h
    exact h.1
  rw [oft_eq, List.length_pos_iff_exists_mem] at h0
  obtain ⟨a, ha⟩ := h0
  rw [List.mem_filter] at ha
  have e : a = t.1 := by simpa using ha.2
  have hr : label.rightB a = true := by
    simp only [orderB, Bool.and_eq_true] at ho
    exact List.all_eq_true.1 ho.1 a ha.1
  have := label.right_yes a hr
  exact ⟨t.1.toNat, by omega, by omega⟩
theorem sched_facts {x : SchedD} (h : schedB x = true) : orderB x.order = true ∧ (0 ≤ x.now ∧ x.now ≤ 999999) ∧ x.tasks.length ≤ 40 ∧ ∀ j (hj : j < x.tasks.length), taskB x.order x.tasks[j] = true := by
  simp only [schedB, Bool.and_eq_true, decide_eq_true_eq] at h
  refine ⟨h.1, isB_of.1 h.2.1, h.2.2.1, fun j hj => ?_⟩
  have := h.2.2.2 j hj
  simp only [okAt, Bool.and_eq_true] at this
  exact this.1
theorem ints_form {b : Nat} {w : World} {v : Value} {xs : List Int} (h : Ints b w v xs) : ∃ a n c, v = .slice a n c := by
  obtain ⟨a, c, e, _⟩ := h.form
  exact ⟨_, _, _, e⟩
/-- what wheelOf leaves -/
def WheelOf (x : SchedD) (w : World) (e : Ending) (w' : World) : Prop := ∃ B v, e = .returned (.pointer (some ⟨B, 0, none⟩)) ∧ w.heap.size ≤ B ∧ Wheel w' B v x.now x.tasks.length (fun _ => 0) (placed x.tasks 0) ∧ Ints w.heap.size w' v x.order ∧ Below w.heap.size w w'
theorem ints_apart {base : Nat} {w w' : World} {v : Value} {xs : List Int} {B T : Nat} {cur : Array Value} (h : Ints base w v xs) (hB : w.heap[B]? = some (.cells cur T (0, 0))) (hT : 2 ≠ T) (hg : w.grownBy w' (some B)) : Ints base w' v xs := by
  refine own_kept h (fun g hv => hg.block g (World.ownsRow.lt (OwnC.row h) g hv).2 ?_)
  intro e
  injection e with e
  subst e
  rcases (OwnC.row h).2 with ⟨rfl, _⟩ | ⟨g1, cap1, cur1, rfl, _, hc1, _⟩
  · simp [Value.ownBlock] at hv
  · simp [Value.ownBlock] at hv
    subst hv
    rw [hB] at hc1
    injection hc1 with hc1
    injection hc1 with _ ht2
    exact hT ht2.symm
set_option maxHeartbeats 4000000 in
theorem wheel_of (x : SchedD) (hr : schedB x = true) {lo : Nat} {w : World} {vo vt : Value} (h : SF lo w vo vt x) : Calls Try.prog 52 #[.agg #[vo, .int .i64 x.now, vt]] w (WheelOf x w) := by
  obtain ⟨f1, f2, f3, f4⟩ := sched_facts hr
  have hol := (order_len f1).2
  have HCP : Hid (∀ W, Below w.heap.size w W → Calls Try.prog 44 #[vo] W (CopiedI x.order W)) := fun W hW => im_copied (h.1.below (plain_stays _) hW) (by omega)
  obtain ⟨ao, co, hvo, -⟩ := int_at h.1
  obtain ⟨at', ct, hvt, -, h3⟩ := tk_at h.2
  obtain ⟨n, hn⟩ : ∃ n, n = x.tasks.length := ⟨_, rfl⟩
  have HN : Hid (n = x.tasks.length) := hn
  have H3 : Hid (0 < x.tasks.length → ∃ g o, at' = some ⟨g, o, none⟩ ∧ g < w.heap.size ∧ ∀ i (hi : i < x.tasks.length), w.cell? ⟨g, o + i * 3, none⟩ = some (.int .i64 x.tasks[i].1) ∧ w.cell? ⟨g, o + i * 3 + 1, none⟩ = some (.int .i64 x.tasks[i].2.1) ∧ w.cell? ⟨g, o + i * 3 + 2, none⟩ = some (.int .i64 x.tasks[i].2.2)) := h3
  have HLB : Hid (∀ j (hj : j < x.tasks.length), ∃ l : Nat, l < 16 ∧ x.tasks[j].1 = (l : Int)) := fun j hj => task_label (f4 j hj) f1
  unfold WheelOf
  obtain ⟨nw, hnw⟩ : ∃ q, q = x.now := ⟨_, rfl⟩
  rw [← hnw]
  rw [← hn] at hvt f3 ⊢
  generalize x.order.length = no at hvo hol
  subst hvo hvt
  obtain ⟨V, hV⟩ : ∃ V, V = w.alloc (.cells #[.slice ao no co, .int .i64 nw, .slice at' n ct] 30) := ⟨_, rfl⟩
  have HBV : Hid (Below w.heap.size w V) := by rw [hV]; exact below_one _ _
  have HX : Hid (Blk V w.heap.size 30 [.slice ao no co, .int .i64 nw, .slice at' n ct]) := by rw [hV]; exact blk_new _ _ _
  clear h h3 hn hnw f1 f2 f4 hr hol
  go_enter Try.func52, Try.ntmps52
  go_wp2_with fail
  rw [← hV]
  clear hV
  go_region_held3 (fun W => W.cell? ⟨w.heap.size, 0, none⟩ = some (.slice ao no co) ∧ W.cell? ⟨w.heap.size, 1, none⟩ = some (.int .i64 nw) ∧ W.cell? ⟨w.heap.size, 2, none⟩ = some (.slice at' n ct))
    (first | (with_reducible assumption) | (refine three_of HX.out ?_; (with_reducible (repeat' first | exact HB1.out | exact Below.refl _ _ | refine bdd ?_ | refine bda ?_ _))))
    (first | (go_at_call 44; refine Calls.mono (HCP.out _ (bdd HBV.out)) ?_; rintro e w1 ⟨v1, rfl, hi1, hb1⟩; have HB1 : Hid (Below V.heap.size V w1) := (bd0 V).trans hb1; have HI1 : Hid (Ints V.heap.size w1 v1 x.order) := hi1; obtain ⟨a1, n1, c1, hv1⟩ := ints_form hi1; clear hb1 hi1; subst hv1))
  obtain ⟨U, hU⟩ : ∃ U, U = w1.alloc (.cells ((Try.zeroCells73.setIfInBounds 0 (.slice a1 n1 c1)).setIfInBounds 1 (.int .i64 nw)) 73) := ⟨_, rfl⟩
  have hbU : Below w1.heap.size w1 U := by rw [hU]; exact below_one _ _
  have HWU : Hid (Wheel U w1.heap.size (.slice a1 n1 c1) nw ((0 : Nat) : Int) (fun _ => 0) (placed (x.tasks.take 0) 0)) := ⟨_, by rw [hU]; exact heap_alloc_new w1 _, wheel_new _ _⟩
  have HIU : Hid (Ints V.heap.size U (.slice a1 n1 c1) x.order) := OwnC.later HI1.out hbU
  have HBU : Hid (Below w.heap.size w U) := below_tr HBV.out (HB1.out.trans (hbU.mono HB1.out.size))
  have hBW : w.heap.size ≤ w1.heap.size := Nat.le_trans HBV.out.size HB1.out.size
  have HXU : Hid (Blk U w.heap.size 30 [.slice ao no co, .int .i64 nw, .slice at' n ct]) := (HX.out.later HB1.out).later hbU
  obtain ⟨q0, q1, q2⟩ := cells3s HXU.out
  have HVW : Hid (w.heap.size ≤ V.heap.size) := HBV.out.size
  have HALL : Hid (placed (x.tasks.take x.tasks.length) 0 = placed x.tasks 0) := by rw [Hid, List.take_length]
  rw [← hU]
  clear hU hbU HI1 HB1
  obtain ⟨B, hB⟩ : ∃ B, B = w1.heap.size := ⟨_, rfl⟩
  rw [← hB] at HWU hBW ⊢
  clear hB
  go_wp2_with fail
  go_loopw [16] (fun ti wr => ∃ j : Nat, j ≤ n ∧ ti = .int .i64 j ∧ Hid (Wheel wr B (.slice a1 n1 c1) nw j (fun _ => 0) (placed (x.tasks.take j) 0)) ∧ Hid (Ints V.heap.size wr (.slice a1 n1 c1) x.order) ∧ Hid (Below w.heap.size w wr)) (fun ti _ => n - (intOf ti).toNat)
  case atStart => exact ⟨0, by omega, rfl, HWU.out, HIU.out, HBU.out⟩
  case round =>
    obtain ⟨j, hj, rfl, HW, HI, HB⟩ := hrel
    clear HWU HIU HBU q0 q1 q2 HXU
    by_cases hlt : j < n
    · have hlx : j < x.tasks.length := by rw [← HN.out]; exact hlt
      obtain ⟨g, o, rfl, hg, hc⟩ := H3.out (by omega)
      obtain ⟨f0, f1, f2⟩ := hc j hlx
      have e0 := (HB.out.cell (p := ⟨g, o + j * 3, none⟩) hg).trans f0
      have e1 := (HB.out.cell (p := ⟨g, o + j * 3 + 1, none⟩) hg).trans f1
      have e2 := (HB.out.cell (p := ⟨g, o + j * 3 + 2, none⟩) hg).trans f2
      obtain ⟨l, hl16, hl⟩ := HLB.out j hlx
      have HTK : Hid (placed (x.tasks.take (j + 1)) 0 = placed (x.tasks.take j) 0 ++ [(x.tasks[j], (j : Int))]) := by
        rw [Hid, List.take_add_one, List.getElem?_eq_getElem hlx, Option.toList_some, placed_app, List.length_take, Nat.min_eq_left (Nat.le_of_lt hlx), Nat.zero_add]
      have hfl : ((placed (x.tasks.take j) 0).filter (isL l)).length < 40 := Nat.lt_of_le_of_lt (placed_filter_le _ _ _) (by rw [List.length_take]; omega)
      have hbn := below_one wr (.cells #[.int .i64 l, .int .i64 x.tasks[j].2.1, .int .i64 x.tasks[j].2.2] 35)
      have hBr := HW.out.lt
      have HPU : Hid (Calls Try.prog 54 #[.pointer (some ⟨B, 0, none⟩), .agg #[.int .i64 l, .int .i64 x.tasks[j].2.1, .int .i64 x.tasks[j].2.2]] (wr.alloc (.cells #[.int .i64 l, .int .i64 x.tasks[j].2.1, .int .i64 x.tasks[j].2.2] 35)) (WPutR B (.slice a1 n1 c1) nw ((j : Int) + 1) (fun _ => 0) (placed (x.tasks.take j) 0 ++ [(((l : Int), x.tasks[j].2.1, x.tasks[j].2.2), (j : Int))]) (wr.alloc (.cells #[.int .i64 l, .int .i64 x.tasks[j].2.1, .int .i64 x.tasks[j].2.2] 35)))) := wheel_put B l hl16 _ _ nw j (fun _ => 0) _ (HW.out.later (hbn.block B hBr)) hfl (by omega) (by omega)
      have HIN : Hid (Ints V.heap.size (wr.alloc (.cells #[.int .i64 l, .int .i64 x.tasks[j].2.1, .int .i64 x.tasks[j].2.2] 35)) (.slice a1 n1 c1) x.order) := OwnC.later HI.out hbn
      have HBN : Hid (Below w.heap.size w (wr.alloc (.cells #[.int .i64 l, .int .i64 x.tasks[j].2.1, .int .i64 x.tasks[j].2.2] 35))) := below_tr HB.out hbn
      have HBH : Hid (∃ cur, (wr.alloc (.cells #[.int .i64 l, .int .i64 x.tasks[j].2.1, .int .i64 x.tasks[j].2.2] 35)).heap[B]? = some (.cells cur 73 (0, 0))) := by
        obtain ⟨cur, h1, _⟩ := HW.out
        exact ⟨cur, (hbn.block B hBr).trans h1⟩
      have HXE : Hid (x.tasks[j] = ((l : Int), x.tasks[j].2.1, x.tasks[j].2.2)) := by rw [Hid, ← hl]
      rw [hl] at e0
      clear hc f0 f1 f2 hl hfl hbn hBr
      rw [HXE.out] at HTK
      clear HXE
      generalize x.tasks[j].2.1 = p1 at *
      generalize x.tasks[j].2.2 = p2 at *
      go_wp2_with fail
      refine Calls.mono HPU.out ?_
      rintro e w2 ⟨rfl, hg2, hw2⟩
      have HW2 : Hid (Wheel w2 B (.slice a1 n1 c1) nw ((j : Int) + 1) (fun _ => 0) (placed (x.tasks.take (j + 1)) 0)) := by rw [HTK.out]; exact hw2
      have HI2 : Hid (Ints V.heap.size w2 (.slice a1 n1 c1) x.order) := by
        obtain ⟨cur, hcur⟩ := HBH.out
        exact ints_apart HIN.out hcur (by decide) hg2
      have HB2 : Hid (Below w.heap.size w w2) := HBN.out.grown hg2 HBN.out.size (fun k hk => by injection hk with hk; omega)
      clear hg2 hw2 HPU HIN HBN HBH
      go_wp2_with fail
      go_roundw
      case rel => exact ⟨j + 1, by omega, by go_num, by push_cast; exact HW2.out, HI2.out, HB2.out⟩
      case measure => simp [intOf]; omega
    · obtain rfl : j = n := by omega
      have HE : Hid (placed (x.tasks.take j) 0 = placed x.tasks 0) := by rw [Hid, HN.out]; exact HALL.out
      go_wp2_with fail
      go_ret
      exact ⟨B, _, rfl, hBW, by rw [← HE.out]; exact HW.out, Ints.lower HI.out HVW.out, HB.out⟩
end Go.Proofs.Ytnkkkdhpopfahaa.sch
