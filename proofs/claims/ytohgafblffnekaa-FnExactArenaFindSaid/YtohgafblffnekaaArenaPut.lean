/-
  The program's put: a thing on the shelf, at a place that is there.
-/
import Derived.Test.YtohgafblffnekaaArenaHas
import Derived.Test.YtohgafblffnekaaArenaNone
import Derived.Deep.RegionHeld3
import Derived.Deep.Cut
import Derived.Deep.CutRange
namespace Go.Proofs.Ytohgafblffnekaa.deep
open Go.RowKit Go.Deep Go.Maps
open Go.Proofs.Ytohgafblffnekaa
set_option linter.unusedVariables false

theorem grown_below {w w' : World} (h : Below w.heap.size w w') (row : Option Nat) : w.grownBy w' row := ⟨h.os, h.tape, h.output, h.size, fun k hk _ => h.block k hk⟩
theorem grown_trans {a c d : World} {row : Option Nat} (h : a.grownBy c row) (k : c.grownBy d row) : a.grownBy d row :=
  ⟨k.os.trans h.os, k.tape.trans h.tape, k.output.trans h.output, Nat.le_trans h.size k.size, fun i hi hr => (k.block i (Nat.lt_of_lt_of_le hi h.size) hr).trans (h.block i hi hr)⟩
theorem Blk.grown {w w' : World} {B t b : Nat} {cs : List Value} (h : Blk w B t cs) (hg : w.grownBy w' (some b)) (hne : B ≠ b) : Blk w' B t cs := (hg.block B h.lt (by simp; exact hne)).trans h
theorem grown_put {w w' : World} {R b : Nat} {i : Nat} (hg : w.grownBy w' (some b)) (vs : List Value) (hR : w.heap.size ≤ R) : w.grownBy (putW w' R i vs) (some b) := by
  have h : Below w.heap.size w' (putW w' R i vs) := putW_below vs (Below.refl _ _) hR
  exact ⟨h.os.trans hg.os, h.tape.trans hg.tape, h.output.trans hg.output, by rw [putW_size]; exact hg.size, fun k hk hr => (h.block k hk).trans (hg.block k hk hr)⟩
theorem thing_form (kd lo' od pl u1 u2 u3 rm : Int) (af : Option Addr) (nf cf : Nat) (ak : Option Addr) (nk ck : Nat) (am : Option Addr) (nm cm : Nat) (aq : Option Addr) (nq cq : Nat) : ∃ ty v, thingC kd lo' od pl u1 u2 u3 rm af nf cf ak nk ck am nm cm aq nq cq = .iface ty v := by
  unfold thingC
  split
  · exact ⟨_, _, rfl⟩
  · split
    · exact ⟨_, _, rfl⟩
    · split
      · exact ⟨_, _, rfl⟩
      · split
        · exact ⟨_, _, rfl⟩
        · exact ⟨_, _, rfl⟩
/-- what put leaves: the name's handle; under it the place and the thing -/
def PutPost (lb id gn : Int) (pl b n : Nat) (f : Thd → Option Std) (V : Value) (w : World) (e : Ending) (w' : World) : Prop :=
  e = .returned (.agg #[.int .i64 lb, .int .i64 id, .int .i64 gn]) ∧ (∃ ty v, V = .iface ty v ∧ Live w' b (n + 1) (fun y => if y = (lb, id, gn) then some ((pl : Int), ty, v) else f y)) ∧ w.grownBy w' (some b)

set_option maxHeartbeats 4000000 in
theorem im_put (lb ky ct id gn : Int) (p B G ng cg b n : Nat) (f : Thd → Option Std) (kd lo' od pl u1 u2 u3 rm : Int) (af : Option Addr) (nf cf : Nat) (ak : Option Addr) (nk ck : Nat) (am : Option Addr) (nm cm : Nat) (aq : Option Addr) (nq cq : Nat) (lf : nf ≤ maxLen) (lk : nk ≤ maxLen) (lm : nm ≤ maxLen) (ls : nq ≤ maxLen) (w : World) (hB : Blk w B 77 [.int .i64 lb, .int .i64 ky, .int .i64 ct, .slice (some ⟨G, 0, none⟩) ng cg, .map (some b)]) (hg : w.cell? ⟨G, p, none⟩ = some (.int .i64 gn)) (hG : G < w.heap.size) (hp : p < ng) (hn6 : ng ≤ 6) (hl : Live w b n f) (hn : n < 1000) (hw : Wf3 (lb, id, gn)) (hBb : B ≠ b) (hGb : G ≠ b) :
    Calls Try.prog 68 #[.pointer (some ⟨B, 0, none⟩), .int .i64 p, .int .i64 id, .agg #[.int .i64 kd, .int .i64 lo', .int .i64 od, .int .i64 pl, .int .i64 u1, .int .i64 u2, .int .i64 u3, .int .i64 rm, .slice af nf cf, .slice ak nk ck, .slice am nm cm, .slice aq nq cq]] w (PutPost lb id gn p b n f (thingC kd lo' od pl u1 u2 u3 rm af nf cf ak nk ck am nm cm aq nq cq) w) := by
  have HT : Hid (∀ W, _) := fun W => im_thing kd lo' od pl u1 u2 u3 rm af nf cf ak nk ck am nm cm aq nq cq lf lk lm ls W
  have HF : Hid (∀ W, _) := fun W => im_full lb id gn W
  obtain ⟨ty, v, htv⟩ := thing_form kd lo' od pl u1 u2 u3 rm af nf cf ak nk ck am nm cm aq nq cq
  rw [htv] at HT ⊢
  have HL : Hid (Live w b n f) := hl
  have HST : Hid (∀ W, Live W b n f → ∃ w', (Instr.mapUpdate 75 (.map (some b)) (.agg #[.int .i64 lb, .int .i64 id, .int .i64 gn]) (.agg #[.int .i64 p, .iface ty v])).run Try.prog W = .ok () w' ∧ Live w' b (n + 1) (fun y => if y = (lb, id, gn) then some ((p : Int), ty, v) else f y) ∧ W.grownBy w' (some b)) := fun W hW => hW.store hn hw ((p : Int), ty, v)
  have HBL : Hid (Blk w B 77 [.int .i64 lb, .int .i64 ky, .int .i64 ct, .slice (some ⟨G, 0, none⟩) ng cg, .map (some b)]) := hB
  have hBlt := hB.lt
  have hblt := hl.lt
  have HGC : Hid (w.cell? ⟨G, p, none⟩ = some (.int .i64 gn)) := hg
  clear hB hg hl hw htv
  have hpi : ¬ (p : Int) = (ng : Int) := by omega
  go_enter Try.func68, Try.ntmps68
  have x2w : w.cell? ⟨B, 2, none⟩ = some (.int .i64 ct) := HBL.out.cell 2
  have x3w : w.cell? ⟨B, 3, none⟩ = some (.slice (some ⟨G, 0, none⟩) ng cg) := HBL.out.cell 3
  go_upto_region 3 with fail
  have F := blk2 w [.int .i64 kd, .int .i64 lo', .int .i64 od, .int .i64 pl, .int .i64 u1, .int .i64 u2, .int .i64 u3, .int .i64 rm, .slice af nf cf, .slice ak nk ck, .slice am nm cm, .slice aq nq cq] [.int .i64 0, .int .i64 0, .int .i64 0] 55 36
  have HBV : Hid (Below w.heap.size w ((w.alloc (.cells #[.int .i64 kd, .int .i64 lo', .int .i64 od, .int .i64 pl, .int .i64 u1, .int .i64 u2, .int .i64 u3, .int .i64 rm, .slice af nf cf, .slice ak nk ck, .slice am nm cm, .slice aq nq cq] 55)).alloc (.cells #[.int .i64 0, .int .i64 0, .int .i64 0] 36))) := below2 w _ _
  have HVS : Hid (((w.alloc (.cells #[.int .i64 kd, .int .i64 lo', .int .i64 od, .int .i64 pl, .int .i64 u1, .int .i64 u2, .int .i64 u3, .int .i64 rm, .slice af nf cf, .slice ak nk ck, .slice am nm cm, .slice aq nq cq] 55)).alloc (.cells #[.int .i64 0, .int .i64 0, .int .i64 0] 36)).heap.size = w.heap.size + 2) := by simp [Hid]
  generalize (w.alloc (.cells #[.int .i64 kd, .int .i64 lo', .int .i64 od, .int .i64 pl, .int .i64 u1, .int .i64 u2, .int .i64 u3, .int .i64 rm, .slice af nf cf, .slice ak nk ck, .slice am nm cm, .slice aq nq cq] 55)).alloc (.cells #[.int .i64 0, .int .i64 0, .int .i64 0] 36) = V at *
  have HO : Hid (Blk V w.heap.size 55 [.int .i64 kd, .int .i64 lo', .int .i64 od, .int .i64 pl, .int .i64 u1, .int .i64 u2, .int .i64 u3, .int .i64 rm, .slice af nf cf, .slice ak nk ck, .slice am nm cm, .slice aq nq cq]) := F.1
  have HR : Hid (Blk V (w.heap.size + 1) 36 [.int .i64 0, .int .i64 0, .int .i64 0]) := F.2
  clear F x2w x3w
  have HBB : Hid (Blk V B 77 [.int .i64 lb, .int .i64 ky, .int .i64 ct, .slice (some ⟨G, 0, none⟩) ng cg, .map (some b)]) := HBL.out.later HBV.out
  have x0 : V.cell? ⟨B, 0, none⟩ = some (.int .i64 lb) := HBB.out.cell 0
  have x3 : V.cell? ⟨B, 3, none⟩ = some (.slice (some ⟨G, 0, none⟩) ng cg) := HBB.out.cell 3
  have xg : V.cell? ⟨G, p, none⟩ = some (.int .i64 gn) := (HBV.out.cell (p := ⟨G, p, none⟩) hG).trans HGC.out
  have hpg : (p : Int) < (ng : Int) := by omega
  have hBV : B < V.heap.size := by have := HVS.out; omega
  have hGV : G < V.heap.size := by have := HVS.out; omega
  have z0 : ∀ o, (V.alloc o).cell? ⟨B, 0, none⟩ = some (.int .i64 lb) := fun o => ((HBB.out.later (below_one V o)).cell 0)
  have z3 : ∀ o, (V.alloc o).cell? ⟨B, 3, none⟩ = some (.slice (some ⟨G, 0, none⟩) ng cg) := fun o => ((HBB.out.later (below_one V o)).cell 3)
  have zg : ∀ o, (V.alloc o).cell? ⟨G, p, none⟩ = some (.int .i64 gn) := fun o => ((below_one V o).cell (p := ⟨G, p, none⟩) hGV).trans xg
  go_cut [9] from 10 to 38 (fun x9 wx => x9 = .pointer (some ⟨V.heap.size, 0, none⟩) ∧ Hid (Blk wx V.heap.size 36 [.int .i64 lb, .int .i64 id, .int .i64 gn]) ∧ Hid (Below V.heap.size V wx))
  case first =>
    go_region
    go_wp2_with fail
    go_meet
    case rel => exact ⟨rfl, blk_new V [.int .i64 lb, .int .i64 id, .int .i64 gn] 36, Below.drew (below_one V _)⟩
  case rest =>
    obtain ⟨rfl, HH, HBX⟩ := hcut
    obtain ⟨W1, rfl⟩ : ∃ W, W = wc := ⟨_, rfl⟩
    clear x0 x3 xg z0 z3 zg
    have hbV : b < V.heap.size := by have := HVS.out; omega
    have hwV : w.heap.size < V.heap.size := by have := HVS.out; omega
    have hHb : V.heap.size ≠ b := by omega
    have hwb : w.heap.size ≠ b := by omega
    have HMK : Hid (∀ W : World, Below W1.heap.size W1 W → (W.cell? ⟨B, 4, none⟩ = some (.map (some b)) ∧ W.cell? ⟨V.heap.size, 0, none⟩ = some (.int .i64 lb) ∧ W.cell? ⟨V.heap.size, 1, none⟩ = some (.int .i64 id) ∧ W.cell? ⟨V.heap.size, 2, none⟩ = some (.int .i64 gn) ∧ W.cell? ⟨w.heap.size, 0, none⟩ = some (.int .i64 kd) ∧ W.cell? ⟨w.heap.size, 1, none⟩ = some (.int .i64 lo') ∧ W.cell? ⟨w.heap.size, 2, none⟩ = some (.int .i64 od) ∧ W.cell? ⟨w.heap.size, 3, none⟩ = some (.int .i64 pl) ∧ W.cell? ⟨w.heap.size, 4, none⟩ = some (.int .i64 u1) ∧ W.cell? ⟨w.heap.size, 5, none⟩ = some (.int .i64 u2) ∧ W.cell? ⟨w.heap.size, 6, none⟩ = some (.int .i64 u3) ∧ W.cell? ⟨w.heap.size, 7, none⟩ = some (.int .i64 rm) ∧ W.cell? ⟨w.heap.size, 8, none⟩ = some (.slice af nf cf) ∧ W.cell? ⟨w.heap.size, 9, none⟩ = some (.slice ak nk ck) ∧ W.cell? ⟨w.heap.size, 10, none⟩ = some (.slice am nm cm) ∧ W.cell? ⟨w.heap.size, 11, none⟩ = some (.slice aq nq cq))) := fun W hW =>
      have h1 := (HBB.out.later HBX.out).later hW
      have h2 := HH.out.later hW
      have h3 := (HO.out.later HBX.out).later hW
      ⟨h1.cell 4, h2.cell 0, h2.cell 1, h2.cell 2, h3.cell 0, h3.cell 1, h3.cell 2, h3.cell 3, h3.cell 4, h3.cell 5, h3.cell 6, h3.cell 7, h3.cell 8, h3.cell 9, h3.cell 10, h3.cell 11⟩
    have HSG : Hid (∀ W W' : World, (W.cell? ⟨B, 4, none⟩ = some (.map (some b)) ∧ W.cell? ⟨V.heap.size, 0, none⟩ = some (.int .i64 lb) ∧ W.cell? ⟨V.heap.size, 1, none⟩ = some (.int .i64 id) ∧ W.cell? ⟨V.heap.size, 2, none⟩ = some (.int .i64 gn) ∧ W.cell? ⟨w.heap.size, 0, none⟩ = some (.int .i64 kd) ∧ W.cell? ⟨w.heap.size, 1, none⟩ = some (.int .i64 lo') ∧ W.cell? ⟨w.heap.size, 2, none⟩ = some (.int .i64 od) ∧ W.cell? ⟨w.heap.size, 3, none⟩ = some (.int .i64 pl) ∧ W.cell? ⟨w.heap.size, 4, none⟩ = some (.int .i64 u1) ∧ W.cell? ⟨w.heap.size, 5, none⟩ = some (.int .i64 u2) ∧ W.cell? ⟨w.heap.size, 6, none⟩ = some (.int .i64 u3) ∧ W.cell? ⟨w.heap.size, 7, none⟩ = some (.int .i64 rm) ∧ W.cell? ⟨w.heap.size, 8, none⟩ = some (.slice af nf cf) ∧ W.cell? ⟨w.heap.size, 9, none⟩ = some (.slice ak nk ck) ∧ W.cell? ⟨w.heap.size, 10, none⟩ = some (.slice am nm cm) ∧ W.cell? ⟨w.heap.size, 11, none⟩ = some (.slice aq nq cq)) → W.grownBy W' (some b) → (W'.cell? ⟨B, 4, none⟩ = some (.map (some b)) ∧ W'.cell? ⟨V.heap.size, 0, none⟩ = some (.int .i64 lb) ∧ W'.cell? ⟨V.heap.size, 1, none⟩ = some (.int .i64 id) ∧ W'.cell? ⟨V.heap.size, 2, none⟩ = some (.int .i64 gn) ∧ W'.cell? ⟨w.heap.size, 0, none⟩ = some (.int .i64 kd) ∧ W'.cell? ⟨w.heap.size, 1, none⟩ = some (.int .i64 lo') ∧ W'.cell? ⟨w.heap.size, 2, none⟩ = some (.int .i64 od) ∧ W'.cell? ⟨w.heap.size, 3, none⟩ = some (.int .i64 pl) ∧ W'.cell? ⟨w.heap.size, 4, none⟩ = some (.int .i64 u1) ∧ W'.cell? ⟨w.heap.size, 5, none⟩ = some (.int .i64 u2) ∧ W'.cell? ⟨w.heap.size, 6, none⟩ = some (.int .i64 u3) ∧ W'.cell? ⟨w.heap.size, 7, none⟩ = some (.int .i64 rm) ∧ W'.cell? ⟨w.heap.size, 8, none⟩ = some (.slice af nf cf) ∧ W'.cell? ⟨w.heap.size, 9, none⟩ = some (.slice ak nk ck) ∧ W'.cell? ⟨w.heap.size, 10, none⟩ = some (.slice am nm cm) ∧ W'.cell? ⟨w.heap.size, 11, none⟩ = some (.slice aq nq cq))) := fun W W' h hg => ⟨(hg.cell h.1 (by simp; omega)), (hg.cell h.2.1 (by simp; omega)), (hg.cell h.2.2.1 (by simp; omega)), (hg.cell h.2.2.2.1 (by simp; omega)), (hg.cell h.2.2.2.2.1 (by simp; omega)), (hg.cell h.2.2.2.2.2.1 (by simp; omega)), (hg.cell h.2.2.2.2.2.2.1 (by simp; omega)), (hg.cell h.2.2.2.2.2.2.2.1 (by simp; omega)), (hg.cell h.2.2.2.2.2.2.2.2.1 (by simp; omega)), (hg.cell h.2.2.2.2.2.2.2.2.2.1 (by simp; omega)), (hg.cell h.2.2.2.2.2.2.2.2.2.2.1 (by simp; omega)), (hg.cell h.2.2.2.2.2.2.2.2.2.2.2.1 (by simp; omega)), (hg.cell h.2.2.2.2.2.2.2.2.2.2.2.2.1 (by simp; omega)), (hg.cell h.2.2.2.2.2.2.2.2.2.2.2.2.2.1 (by simp; omega)), (hg.cell h.2.2.2.2.2.2.2.2.2.2.2.2.2.2.1 (by simp; omega)), (hg.cell h.2.2.2.2.2.2.2.2.2.2.2.2.2.2.2 (by simp; omega))⟩
    have HLV : Hid (∀ W : World, Below W1.heap.size W1 W → Live W b n f) := fun W hW => ((HL.out.later HBV.out).later HBX.out).later hW
    have hM0 := HMK.out _ (Below.refl _ _)
    have hMd := HMK.out _ (Below.drew (Below.refl _ _))
    go_upto_region 4 with fail
    go_cut [8] from 39 to 48 (fun x8 wx => x8 = .pointer (some ⟨w.heap.size + 1, 0, none⟩) ∧ ∃ wm, Hid (Below W1.heap.size W1 wm) ∧ Hid (Live wx b (n + 1) (fun y => if y = (lb, id, gn) then some ((p : Int), ty, v) else f y)) ∧ Hid (wm.grownBy wx (some b)))
    case first =>
      go_region_held3 (fun W => W.cell? ⟨B, 4, none⟩ = some (.map (some b)) ∧ W.cell? ⟨V.heap.size, 0, none⟩ = some (.int .i64 lb) ∧ W.cell? ⟨V.heap.size, 1, none⟩ = some (.int .i64 id) ∧ W.cell? ⟨V.heap.size, 2, none⟩ = some (.int .i64 gn) ∧ W.cell? ⟨w.heap.size, 0, none⟩ = some (.int .i64 kd) ∧ W.cell? ⟨w.heap.size, 1, none⟩ = some (.int .i64 lo') ∧ W.cell? ⟨w.heap.size, 2, none⟩ = some (.int .i64 od) ∧ W.cell? ⟨w.heap.size, 3, none⟩ = some (.int .i64 pl) ∧ W.cell? ⟨w.heap.size, 4, none⟩ = some (.int .i64 u1) ∧ W.cell? ⟨w.heap.size, 5, none⟩ = some (.int .i64 u2) ∧ W.cell? ⟨w.heap.size, 6, none⟩ = some (.int .i64 u3) ∧ W.cell? ⟨w.heap.size, 7, none⟩ = some (.int .i64 rm) ∧ W.cell? ⟨w.heap.size, 8, none⟩ = some (.slice af nf cf) ∧ W.cell? ⟨w.heap.size, 9, none⟩ = some (.slice ak nk ck) ∧ W.cell? ⟨w.heap.size, 10, none⟩ = some (.slice am nm cm) ∧ W.cell? ⟨w.heap.size, 11, none⟩ = some (.slice aq nq cq))
        (with_reducible first | assumption | exact hM0 | exact hMd)
        (first | (go_at_call 35; refine Calls.mono (HF.out _) ?_; rintro e wA ⟨rfl, hbA⟩; have hqA : Below W1.heap.size W1 wA := (by first | exact below_tr HQT.out hbA | exact below_tr (Below.drew HQT.out) hbA | exact Below.trans (Below.drew (Below.refl _ _)) hbA | exact hbA); have HQA : Hid (Below W1.heap.size W1 wA) := hqA; clear hqA; have ZZ := HMK.out _ HQA.out; obtain ⟨w9, hr9, hp9, hg9⟩ := HST.out _ (HLV.out _ HQA.out); have YY := HSG.out _ _ ZZ hg9; have HP9 : Hid _ := hp9; have HG9 : Hid _ := hg9; clear hbA hp9 hg9) | (go_at_call 86; refine Calls.mono (HT.out _) ?_; rintro e wT ⟨rfl, hbT⟩; have hqT : Below W1.heap.size W1 wT := (by first | exact below_tr HQA.out hbT | exact below_tr (Below.drew HQA.out) hbT | exact Below.trans (Below.drew (Below.refl _ _)) hbT | exact hbT); have HQT : Hid (Below W1.heap.size W1 wT) := hqT; clear hqT; have ZZ := HMK.out _ HQT.out; obtain ⟨w9, hr9, hp9, hg9⟩ := HST.out _ (HLV.out _ HQT.out); have YY := HSG.out _ _ ZZ hg9; have HP9 : Hid _ := hp9; have HG9 : Hid _ := hg9; clear hbT hp9 hg9))
      all_goals (go_wp2_with fail)
      all_goals go_meet
      all_goals (first | exact ⟨rfl, _, HQT.out, HP9.out, HG9.out⟩ | exact ⟨rfl, _, HQA.out, HP9.out, HG9.out⟩)
    case rest =>
      obtain ⟨rfl, wm, HQ, HP, HG⟩ := hcut
      have h1 : Blk wc V.heap.size 36 [.int .i64 lb, .int .i64 id, .int .i64 gn] := (HH.out.later HQ.out).grown HG.out hHb
      have h2 : Blk wc (w.heap.size + 1) 36 [.int .i64 0, .int .i64 0, .int .i64 0] := ((HR.out.later HBX.out).later HQ.out).grown HG.out (by omega)
      have HGW : Hid (w.grownBy wc (some b)) := grown_trans (grown_below (below_tr (below_tr HBV.out HBX.out) HQ.out) _) HG.out
      have c0 : wc.cell? ⟨V.heap.size, 0, none⟩ = some (.int .i64 lb) := h1.cell 0
      have c1 : wc.cell? ⟨V.heap.size, 1, none⟩ = some (.int .i64 id) := h1.cell 1
      have c2 : wc.cell? ⟨V.heap.size, 2, none⟩ = some (.int .i64 gn) := h1.cell 2
      have r0 : wc.cell? ⟨w.heap.size + 1, 0, none⟩ = some (.int .i64 0) := h2.cell 0
      have r1 : wc.cell? ⟨w.heap.size + 1, 1, none⟩ = some (.int .i64 0) := h2.cell 1
      have r2 : wc.cell? ⟨w.heap.size + 1, 2, none⟩ = some (.int .i64 0) := h2.cell 2
      have y0 := h2.free 0
      have y1 := h2.free 1
      have y2 := h2.free 2
      clear hM0 hMd h1 h2
      go_wp2_with fail
      refine bodyPost_ret (v := .agg #[.int .i64 lb, .int .i64 id, .int .i64 gn]) (by simp [results, Try.results68, go_sem, r0, r1, r2]) rfl ⟨rfl, ⟨ty, v, rfl, ?_⟩, ?_⟩
      · exact HP.out.block (putW_other [.int .i64 lb, .int .i64 id, .int .i64 gn] wc (w.heap.size + 1) 0 b (by omega))
      · exact grown_put HGW.out [.int .i64 lb, .int .i64 id, .int .i64 gn] (by omega)
end Go.Proofs.Ytohgafblffnekaa.deep
