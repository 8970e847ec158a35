/-
  The program's wheel is put into.
-/
import Derived.Test.YtnkkkdhpopfahaaSchWq
namespace Go.Proofs.Ytnkkkdhpopfahaa.sch
open Go.RowKit Go.Deep Go.Sort
open Go.Proofs.Ytnkkkdhpopfahaa
open Go.Proofs.Ytnkkkdhpopfahaa.deep
set_option linter.unusedVariables false
set_option maxRecDepth 100000

theorem four_of {V W : World} {X t : Nat} {a b c u : Value} {B i : Nat} (h : Blk V X t [a, b, c]) (h1 : V.cell? ⟨B, i, none⟩ = some u) (hX : W.heap[X]? = V.heap[X]?) (hB : W.cell? ⟨B, i, none⟩ = V.cell? ⟨B, i, none⟩) : W.cell? ⟨X, 0, none⟩ = some a ∧ W.cell? ⟨X, 1, none⟩ = some b ∧ W.cell? ⟨X, 2, none⟩ = some c ∧ W.cell? ⟨B, i, none⟩ = some u := by
  have hX : Blk W X t [a, b, c] := hX.trans h
  exact ⟨hX.cell 0, hX.cell 1, hX.cell 2, hB.trans h1⟩
def WPutR (B : Nat) (vo : Value) (now last : Int) (f : Nat → Nat) (ws : List Wt) (w : World) (e : Ending) (w' : World) : Prop := e = .returned (.tuple #[]) ∧ w.grownBy w' (some B) ∧ Wheel w' B vo now last f ws
set_option maxHeartbeats 4000000 in
theorem wheel_put (B l : Nat) (hl : l < 16) (t1 t2 : Int) (now last : Int) (f : Nat → Nat) (ws : List Wt) {w : World} {vo : Value} (h : Wheel w B vo now last f ws) (hn : (ws.filter (isL l)).length < 40) (h0 : 0 ≤ last) (h1 : last ≤ 1000000000) :
    Calls Try.prog 54 #[.pointer (some ⟨B, 0, none⟩), .agg #[.int .i64 l, .int .i64 t1, .int .i64 t2]] w (WPutR B vo now (last + 1) f (ws ++ [(((l : Int), t1, t2), last)]) w) := by
  obtain ⟨cur, hB, hW⟩ := h
  obtain ⟨V, hV⟩ : ∃ V, V = w.alloc (.cells #[.int .i64 l, .int .i64 t1, .int .i64 t2] 35) := ⟨_, rfl⟩
  have hbV : Below w.heap.size w V := by rw [hV]; exact below_one _ _
  have hX : Blk V w.heap.size 35 [.int .i64 l, .int .i64 t1, .int .i64 t2] := by rw [hV]; exact blk_new _ _ _
  have hBl : B < w.heap.size := (Array.getElem?_eq_some_iff.1 hB).1
  have hBV : V.heap[B]? = some (.cells cur 73 (0, 0)) := (hbV.block B hBl).trans hB
  have hgV : w.grownBy V (some B) := by rw [hV]; exact World.grownBy_alloc _ _ _
  have hr := hW.ring l hl
  have m0 : V.cell? ⟨B, 2594, none⟩ = some (.int .i64 last) := by rw [cell_cur hBV]; exact hW.last
  have HPT : Hid (∀ W, W.heap = V.heap → Calls Try.prog 67 #[.pointer (some ⟨B, 2 + l * 162, none⟩), .agg #[.int .i64 l, .int .i64 t1, .int .i64 t2, .int .i64 last]] W (PutR B 73 (2 + l * 162) (f l) (ws.filter (isL l)).length cur (((l : Int), t1, t2), last) W)) := fun W hWe =>
    ring_put B (2 + l * 162) (f l) _ _ (((l : Int), t1, t2), last) cur (by rw [hWe]; exact hBV) (by rw [hW.size]; omega) hr.first hr.many hr.ff hn
  have HP : Hid (WheelC cur vo now last f ws) := hW
  have HGV : Hid (w.grownBy V (some B)) := hgV
  have HXB : Hid (Blk V w.heap.size 35 [.int .i64 l, .int .i64 t1, .int .i64 t2]) := hX
  have HM : Hid (V.cell? ⟨B, 2594, none⟩ = some (.int .i64 last)) := m0
  have z4 := four_of hX m0 (W := V) rfl rfl
  have z4d := four_of hX m0 (W := V.drew) rfl rfl
  have hli : (0 : Int) ≤ (l : Int) := by omega
  have hli2 : (l : Int) < 16 := by omega
  have hVs : w.heap.size < V.heap.size := hX.lt
  have HF : Hid (∀ W w1, W.heap = V.heap → W.os = V.os → W.tape = V.tape → W.output = V.output → PutR B 73 (2 + l * 162) (f l) (ws.filter (isL l)).length cur (((l : Int), t1, t2), last) W (.returned (.tuple #[])) w1 → (w1.cell? ⟨w.heap.size, 0, none⟩ = some (.int .i64 l) ∧ w1.cell? ⟨w.heap.size, 1, none⟩ = some (.int .i64 t1) ∧ w1.cell? ⟨w.heap.size, 2, none⟩ = some (.int .i64 t2) ∧ w1.cell? ⟨B, 2594, none⟩ = some (.int .i64 last)) ∧ w1.frozen? ⟨B, 2594, none⟩ = false ∧ WPutR B vo now (last + 1) f (ws ++ [(((l : Int), t1, t2), last)]) w (.returned (.tuple #[])) (w1.setCell ⟨B, 2594, none⟩ (.int .i64 (last + 1)))) := fun W w1 e1 e2 e3 e4 hp => by
    obtain ⟨_, hg, hc⟩ := hp
    have hgw : w.grownBy w1 (some B) := ⟨hg.os.trans (e2.trans hgV.os), hg.tape.trans (e3.trans hgV.tape), hg.output.trans (e4.trans hgV.output), Nat.le_trans hgV.size (by rw [← e1]; exact hg.size), fun k hk hne => (hg.block k (by rw [e1]; exact Nat.lt_of_lt_of_le hk hgV.size) hne).trans (by rw [e1]; exact hgV.block k hk hne)⟩
    refine ⟨four_of hX m0 ?_ ?_, free_cur hc, rfl, grown_put hgw 2594 [.int .i64 (last + 1)], _, putW_block [.int .i64 (last + 1)] w1 B 2594 _ _ hc, ?_⟩
    · rw [hg.block w.heap.size (by rw [e1]; exact hVs) (by simp; omega), e1]
    · rw [cell_cur hc, cell_cur hBV, rput_out (.inr (.inl (by omega)))]
    · exact hW.put hl rfl hn (last + 1)
  clear hX hbV hB hBV hgV hr m0 hW hn
  go_enter Try.func54, Try.ntmps54
  go_wp2_with fail
  rw [← hV]
  clear hV
  go_region_held3 (fun W => W.cell? ⟨w.heap.size, 0, none⟩ = some (.int .i64 l) ∧ W.cell? ⟨w.heap.size, 1, none⟩ = some (.int .i64 t1) ∧ W.cell? ⟨w.heap.size, 2, none⟩ = some (.int .i64 t2) ∧ W.cell? ⟨B, 2594, none⟩ = some (.int .i64 last))
    (with_reducible first | assumption | exact z4 | exact z4d | exact z6)
    (first | (go_at_call 67; refine Calls.mono (HPT.out _ rfl) ?_; (refine fun e w1 hp => ?_); (obtain rfl := hp.1); (obtain ⟨z6, fz6, he6⟩ := HF.out V.drew w1 rfl rfl rfl rfl hp); (have HE6 : Hid (WPutR B vo now (last + 1) f (ws ++ [(((l : Int), t1, t2), last)]) w (.returned (.tuple #[])) (w1.setCell ⟨B, 2594, none⟩ (.int .i64 (last + 1)))) := he6); (clear he6 hp)))
  obtain ⟨x0, x1, x2, x3⟩ := z6
  go_wp2_with fail
  go_end0
  exact HE6.out
end Go.Proofs.Ytnkkkdhpopfahaa.sch
