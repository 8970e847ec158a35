/-
  The program's ArenaFind, at every arena and handle. No condition.
-/
import Derived.Test.YtohgafblffnekaaArenaFindS
import Derived.Test.YtohgafblffnekaaArenaRightI
namespace Go.Proofs.Ytohgafblffnekaa.deep
open Go.RowKit Go.Deep Go.Maps
open Go.Proofs.Ytohgafblffnekaa
set_option linter.unusedVariables false

theorem look_nil {x : Thd} (hx : Wf3 x) (w : World) : (Instr.lookup 75 (.map none) (keyV x) true).run Try.prog w = .ok (.tuple #[zeroS, .bool false]) w := by
  obtain ⟨kl, hk⟩ := key_mk hx
  exact Maps.look_nil true lawK underM (zeroE w) hk
/-- what shelfOf tells, as far as ArenaFind asks -/
def Told (r : Bool) (rv : Int) (y : Thd) (w : World) (e : Ending) (w' : World) : Prop := ∃ x0 x1 x2 sa sn sc m z u, e = .returned (.tuple #[.agg #[.int .i64 x0, .int .i64 x1, .int .i64 x2, .slice sa sn sc, .map m], .bool r]) ∧ Below w.heap.size w w' ∧
  (∀ W, Below w'.heap.size w' W → (Instr.lookup 75 (.map m) (keyV y) true).run Try.prog W = .ok (.tuple #[.agg #[.int .i64 z, u], .bool (decide (rv ≠ -1))]) W) ∧ (rv ≠ -1 → r = true ∧ z = rv) ∧ (u = .nilIface ∨ ∃ ty V, u = .iface ty V)
theorem place_nat {lb : Int} {xs : List SlotD} {y : Thd} : placeI lb xs y = -1 ∨ 0 ≤ placeI lb xs y := by
  simp only [placeI]
  cases findAt lb xs xs.length y with
  | none => exact Or.inl rfl
  | some i => exact Or.inr (Int.natCast_nonneg i)
theorem holds_nat {f : Thd → Option Std} {lb : Int} {xs : List SlotD} (h : Holds f lb xs xs.length) (y : Thd) : (f y).isSome = decide (placeI lb xs y ≠ -1) := by
  have key : ∀ o : Option Nat, o.isSome = decide ((match o with | some i => (i : Int) | none => -1) ≠ -1) := fun o => by
    cases o with
    | none => rfl
    | some i =>
      have : (i : Int) ≠ -1 := by omega
      simp [this]
  rw [h.some y]
  exact key _
theorem shelf_told {a : ArenaD} {y : Thd} (hy : Wf3 y) {w w' : World} {e : Ending} (h : ShelfPost a w e w') : Told a.right (a.place y) y w e w' := by
  cases ha : a.right with
  | true =>
    obtain ⟨ga, gc, b, n, f, he, _, hl, hh, _, _, hb⟩ := h.1 ha
    have hp : a.place y = placeI a.label a.slots y := by rw [ArenaD.place, if_pos ha]
    have hs := holds_nat hh y
    cases hf : f y with
    | none =>
      refine ⟨_, _, _, _, _, _, _, 0, .nilIface, he, hb, fun W hW => ?_, fun hne => absurd ?_ hne, Or.inl rfl⟩
      · have := (hl.later hW).look hy
        rw [hf] at this hs
        rw [this, hp, ← hs]; rfl
      · rw [hp]; exact (holds_place hh y).1 hf
    | some s =>
      refine ⟨_, _, _, _, _, _, _, s.1, .iface s.2.1 s.2.2, he, hb, fun W hW => ?_, fun hne => ⟨rfl, ?_⟩, Or.inr ⟨_, _, rfl⟩⟩
      · have := (hl.later hW).look hy
        rw [hf] at this hs
        rw [this, hp, ← hs]; rfl
      · rw [hp]; exact (holds_place hh y).2 s hf
  | false =>
    obtain ⟨he, hb⟩ := h.2 ha
    have hp : a.place y = -1 := by rw [ArenaD.place, if_neg (by rw [ha]; decide)]
    refine ⟨0, 0, 0, none, 0, 0, none, 0, .nilIface, he, hb, fun W _ => ?_, fun hne => absurd hp hne, Or.inl rfl⟩
    rw [look_nil hy W, hp]; rfl
theorem blk2later {w w' : World} {c1 c2 : List Value} {t1 t2 : Nat} (h : Below ((w.alloc (.cells c1.toArray t1)).alloc (.cells c2.toArray t2)).heap.size ((w.alloc (.cells c1.toArray t1)).alloc (.cells c2.toArray t2)) w') : Blk w' w.heap.size t1 c1 ∧ Blk w' (w.heap.size + 1) t2 c2 :=
  ⟨(blk2 w c1 c2 t1 t2).1.later h, (blk2 w c1 c2 t1 t2).2.later h⟩

set_option maxHeartbeats 8000000 in
set_option maxRecDepth 100000 in
theorem im_find (a : ArenaD) (y1 y2 y3 : Int) (hy : Wf3 (y1, y2, y3)) {lo : Nat} {w : World} {v : Value} (h : RowE SlotE 15 lo w v a.slots) : Calls Try.prog 10 #[.agg (acells a v).toArray, .agg #[.int .i64 y1, .int .i64 y2, .int .i64 y3]] w fun e w' => e = .returned (.int .i64 (a.place (y1, y2, y3))) ∧ Below w.heap.size w w' := by
  have HS : Hid (∀ W, Below w.heap.size w W → Calls Try.prog 34 #[.agg #[.int .i64 a.label, .int .i64 a.key, .int .i64 a.count, v]] W (Told a.right (a.place (y1, y2, y3)) (y1, y2, y3) W)) := fun W hW => (im_shelf a (h.below slot_stays hW)).mono fun e w' h => shelf_told hy h
  have HF : Hid (∀ W, _) := fun W => im_full y1 y2 y3 W
  obtain ⟨aa, c, hv, _⟩ := h.form
  simp only [acells]
  generalize a.place (y1, y2, y3) = rv at *
  generalize a.right = r at *
  generalize a.label = lb at *
  generalize a.key = ky at *
  generalize a.count = ct at *
  obtain ⟨n, hn⟩ : ∃ n, n = a.slots.length := ⟨_, rfl⟩
  rw [← hn] at hv
  clear h hn
  subst hv
  go_enter Try.func10, Try.ntmps10
  go_wp2_with fail
  refine Calls.mono (HS.out _ (below2 w _ _)) ?_
  rintro e w1 ⟨x0, x1, x2, sa, sn, sc, m, z, u, rfl, hb1, hlk, hz, hu⟩
  have HH1 : Hid (Blk w1 (w.heap.size + 1) 36 [.int .i64 y1, .int .i64 y2, .int .i64 y3]) := (blk2later hb1).2
  have HB1 : Hid (Below w.heap.size w w1) := below_tr (below2 w _ _) hb1
  have HLK : Hid (∀ W, Below w1.heap.size w1 W → (Instr.lookup 75 (.map m) (keyV (y1, y2, y3)) true).run Try.prog W = .ok (.tuple #[.agg #[.int .i64 z, u], .bool (decide (rv ≠ -1))]) W) := hlk
  have HZ : Hid (rv ≠ -1 → r = true ∧ z = rv) := hz
  clear hb1 hlk hz
  obtain ⟨w2, hw2⟩ : ∃ W, W = w1.alloc (.cells #[.int .i64 x0, .int .i64 x1, .int .i64 x2, .slice sa sn sc, .map m] 77) := ⟨_, rfl⟩
  have HS2 : Hid (Blk w2 w1.heap.size 77 [.int .i64 x0, .int .i64 x1, .int .i64 x2, .slice sa sn sc, .map m]) := by rw [hw2]; exact blk_new w1 _ _
  have HH2 : Hid (Blk w2 (w.heap.size + 1) 36 [.int .i64 y1, .int .i64 y2, .int .i64 y3]) := by rw [hw2]; exact HH1.out.later (below_one _ _)
  have HB2 : Hid (Below w.heap.size w w2) := by rw [hw2]; exact below_tr HB1.out (below_one _ _)
  have HLK2 : Hid (∀ W, Below w2.heap.size w2 W → (Instr.lookup 75 (.map m) (keyV (y1, y2, y3)) true).run Try.prog W = .ok (.tuple #[.agg #[.int .i64 z, u], .bool (decide (rv ≠ -1))]) W) := fun W hW => HLK.out W (below_tr (by rw [hw2]; exact below_one _ _) hW)
  clear HH1 HB1 HLK
  go_upto_region 2 with fail
  rw [← hw2]
  clear hw2
  have x4 : w2.cell? ⟨w1.heap.size, 4, none⟩ = some (.map m) := HS2.out.cell 4
  have h0 : w2.cell? ⟨w.heap.size + 1, 0, none⟩ = some (.int .i64 y1) := HH2.out.cell 0
  have h1 : w2.cell? ⟨w.heap.size + 1, 1, none⟩ = some (.int .i64 y2) := HH2.out.cell 1
  have h2 : w2.cell? ⟨w.heap.size + 1, 2, none⟩ = some (.int .i64 y3) := HH2.out.cell 2
  have hsz1 := HS2.out.lt
  have hsz2 := HH2.out.lt
  have k4 : ∀ o, (w2.alloc o).cell? ⟨w1.heap.size, 4, none⟩ = some (.map m) := fun o => (HS2.out.later (below_one w2 o)).cell 4
  have k0 : ∀ o, (w2.alloc o).cell? ⟨w.heap.size + 1, 0, none⟩ = some (.int .i64 y1) := fun o => (HH2.out.later (below_one w2 o)).cell 0
  have k1 : ∀ o, (w2.alloc o).cell? ⟨w.heap.size + 1, 1, none⟩ = some (.int .i64 y2) := fun o => (HH2.out.later (below_one w2 o)).cell 1
  have k2 : ∀ o, (w2.alloc o).cell? ⟨w.heap.size + 1, 2, none⟩ = some (.int .i64 y3) := fun o => (HH2.out.later (below_one w2 o)).cell 2
  obtain ⟨bb, hbb⟩ : ∃ b, b = decide (rv ≠ -1) := ⟨_, rfl⟩
  have HBB : Hid (bb = decide (rv ≠ -1)) := hbb
  rw [← hbb] at HLK2
  clear hbb
  go_cut [7, 8] from 14 to 21 (fun x7 x8 wx => x8 = .bool bb ∧ ∃ B, x7 = .pointer (some ⟨B, 0, none⟩) ∧ wx.cell? ⟨B, 0, none⟩ = some (.int .i64 z) ∧ Hid (Below w2.heap.size w2 wx))
  case first =>
    rcases hu with rfl | ⟨ty, V, rfl⟩
    · go_region_with (go_at_call 35; refine Calls.mono (HF.out _) ?_; rintro e wA ⟨rfl, hbA⟩; have hqA : Below w2.heap.size w2 wA := (by first | exact Below.trans (Below.drew (Below.refl w2.heap.size w2)) hbA | exact below_tr (Below.drew (below_one w2 _)) hbA); have HQA : Hid (Below w2.heap.size w2 wA) := hqA; have x4A : wA.cell? ⟨w1.heap.size, 4, none⟩ = some (.map m) := (HS2.out.later hqA).cell 4; have x4B : ∀ o, (wA.alloc o).cell? ⟨w1.heap.size, 4, none⟩ = some (.map m) := fun o => ((HS2.out.later hqA).later (below_one wA o)).cell 4; have hlA : (Instr.lookup 75 (.map m) (.agg #[.int .i64 y1, .int .i64 y2, .int .i64 y3]) true).run Try.prog wA = .ok (.tuple #[.agg #[.int .i64 z, _], .bool bb]) wA := HLK2.out wA hqA; have hlB : ∀ o, (Instr.lookup 75 (.map m) (.agg #[.int .i64 y1, .int .i64 y2, .int .i64 y3]) true).run Try.prog (wA.alloc o) = .ok (.tuple #[.agg #[.int .i64 z, _], .bool bb]) (wA.alloc o) := fun o => HLK2.out (wA.alloc o) (below_tr hqA (below_one wA o)); (first | (have nbA : Blk wA w2.heap.size 83 [.int .i64 0, .nilIface] := Blk.later (blk_new w2.drew [.int .i64 0, .nilIface] 83) hbA; have n0 : wA.cell? ⟨w2.heap.size, 0, none⟩ = some (.int .i64 0) := nbA.cell 0; have n1 : wA.cell? ⟨w2.heap.size, 1, none⟩ = some .nilIface := nbA.cell 1; have f0 : wA.frozen? ⟨w2.heap.size, 0, none⟩ = false := nbA.free 0; have f1 : wA.frozen? ⟨w2.heap.size, 1, none⟩ = false := nbA.free 1; have HNB : Hid (Blk wA w2.heap.size 83 [.int .i64 0, .nilIface]) := nbA; clear nbA) | (have nbA : Blk wA w2.heap.size 83 [.int .i64 0, .nilIface] := Blk.later (w := (w2.alloc (.cells #[.int .i64 0, .nilIface] 83)).drew) (blk_new w2 [.int .i64 0, .nilIface] 83) hbA; have n0 : wA.cell? ⟨w2.heap.size, 0, none⟩ = some (.int .i64 0) := nbA.cell 0; have n1 : wA.cell? ⟨w2.heap.size, 1, none⟩ = some .nilIface := nbA.cell 1; have f0 : wA.frozen? ⟨w2.heap.size, 0, none⟩ = false := nbA.free 0; have f1 : wA.frozen? ⟨w2.heap.size, 1, none⟩ = false := nbA.free 1; have HNB : Hid (Blk wA w2.heap.size 83 [.int .i64 0, .nilIface]) := nbA; clear nbA) | skip); clear hqA hbA)
      all_goals (go_wp2_with fail)
      all_goals go_meet
      all_goals (first | exact ⟨rfl, _, rfl, (blk_new wA [.int .i64 z, .nilIface] 83).cell 0, below_tr HQA.out (below_one wA _)⟩ | exact ⟨rfl, _, rfl, (HNB.out.put [.int .i64 z, .nilIface] 0).cell 0, putW_below [.int .i64 z, .nilIface] HQA.out (Nat.le_refl _)⟩)
    · go_region_with (go_at_call 35; refine Calls.mono (HF.out _) ?_; rintro e wA ⟨rfl, hbA⟩; have hqA : Below w2.heap.size w2 wA := (by first | exact Below.trans (Below.drew (Below.refl w2.heap.size w2)) hbA | exact below_tr (Below.drew (below_one w2 _)) hbA); have HQA : Hid (Below w2.heap.size w2 wA) := hqA; have x4A : wA.cell? ⟨w1.heap.size, 4, none⟩ = some (.map m) := (HS2.out.later hqA).cell 4; have x4B : ∀ o, (wA.alloc o).cell? ⟨w1.heap.size, 4, none⟩ = some (.map m) := fun o => ((HS2.out.later hqA).later (below_one wA o)).cell 4; have hlA : (Instr.lookup 75 (.map m) (.agg #[.int .i64 y1, .int .i64 y2, .int .i64 y3]) true).run Try.prog wA = .ok (.tuple #[.agg #[.int .i64 z, _], .bool bb]) wA := HLK2.out wA hqA; have hlB : ∀ o, (Instr.lookup 75 (.map m) (.agg #[.int .i64 y1, .int .i64 y2, .int .i64 y3]) true).run Try.prog (wA.alloc o) = .ok (.tuple #[.agg #[.int .i64 z, _], .bool bb]) (wA.alloc o) := fun o => HLK2.out (wA.alloc o) (below_tr hqA (below_one wA o)); (first | (have nbA : Blk wA w2.heap.size 83 [.int .i64 0, .nilIface] := Blk.later (blk_new w2.drew [.int .i64 0, .nilIface] 83) hbA; have n0 : wA.cell? ⟨w2.heap.size, 0, none⟩ = some (.int .i64 0) := nbA.cell 0; have n1 : wA.cell? ⟨w2.heap.size, 1, none⟩ = some .nilIface := nbA.cell 1; have f0 : wA.frozen? ⟨w2.heap.size, 0, none⟩ = false := nbA.free 0; have f1 : wA.frozen? ⟨w2.heap.size, 1, none⟩ = false := nbA.free 1; have HNB : Hid (Blk wA w2.heap.size 83 [.int .i64 0, .nilIface]) := nbA; clear nbA) | (have nbA : Blk wA w2.heap.size 83 [.int .i64 0, .nilIface] := Blk.later (w := (w2.alloc (.cells #[.int .i64 0, .nilIface] 83)).drew) (blk_new w2 [.int .i64 0, .nilIface] 83) hbA; have n0 : wA.cell? ⟨w2.heap.size, 0, none⟩ = some (.int .i64 0) := nbA.cell 0; have n1 : wA.cell? ⟨w2.heap.size, 1, none⟩ = some .nilIface := nbA.cell 1; have f0 : wA.frozen? ⟨w2.heap.size, 0, none⟩ = false := nbA.free 0; have f1 : wA.frozen? ⟨w2.heap.size, 1, none⟩ = false := nbA.free 1; have HNB : Hid (Blk wA w2.heap.size 83 [.int .i64 0, .nilIface]) := nbA; clear nbA) | skip); clear hqA hbA)
      all_goals (go_wp2_with fail)
      all_goals go_meet
      all_goals (first | exact ⟨rfl, _, rfl, (blk_new wA [.int .i64 z, .iface ty V] 83).cell 0, below_tr HQA.out (below_one wA _)⟩ | exact ⟨rfl, _, rfl, (HNB.out.put [.int .i64 z, .iface ty V] 0).cell 0, putW_below [.int .i64 z, .iface ty V] HQA.out (Nat.le_refl _)⟩)
  case rest =>
    obtain ⟨rfl, B, rfl, hz0, HQ⟩ := hcut
    obtain ⟨w3, rfl⟩ : ∃ W, W = wc := ⟨_, rfl⟩
    have HB3 : Hid (Below w.heap.size w w3) := below_tr HB2.out HQ.out
    clear x4 h0 h1 h2 k4 k0 k1 k2 hsz1 hsz2 HQ HLK2 HS2 HH2 HB2
    by_cases hrv : rv = -1
    · obtain rfl : bb = false := by rw [HBB.out, hrv]; rfl
      subst hrv
      cases r <;>
      · go_wp2_with fail
        go_ret
        exact ⟨rfl, HB3.out⟩
    · obtain rfl : bb = true := by rw [HBB.out, decide_eq_true hrv]
      obtain ⟨rfl, rfl⟩ := HZ.out hrv
      go_wp2_with fail
      go_ret
      exact ⟨rfl, HB3.out⟩
end Go.Proofs.Ytohgafblffnekaa.deep
