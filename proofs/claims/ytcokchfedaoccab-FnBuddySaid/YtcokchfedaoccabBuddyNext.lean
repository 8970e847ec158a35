/-
  The walk of the program's closure: the next free block.
-/
import Derived.Test.YtcokchfedaoccabBuddyWalk
namespace Go.Proofs.Ytcokchfedaoccab.bpool
open Go.RowKit Go.Deep Go.Maps Go.Sort
open Go.Proofs.Ytcokchfedaoccab
open Go.Proofs.Ytcokchfedaoccab.brows
open Go.Proofs.Ytcokchfedaoccab.bspec
open Go.Proofs.Ytcokchfedaoccab.bimpl
open Go.Proofs.Ytcokchfedaoccab.bd (Blk)
set_option linter.unusedVariables false

theorem grown_new {w W : World} {A X i : Nat} {u : Value} (h : w.grownBy W (some A)) (hX : w.heap.size ≤ X) : w.grownBy (W.setCell ⟨X, i, none⟩ u) (some A) :=
  ⟨h.os, h.tape, h.output, by simp; exact h.size, fun k hk hr => (Below.heap_setCell W _ u k (by simp; omega)).trans (h.block k hk hr)⟩
theorem grown_drewN {w W : World} {row : Option Nat} (h : w.grownBy W row) (k : Nat) : w.grownBy (W.drewN k) row := ⟨h.os, h.tape, h.output, h.size, h.block⟩
theorem Pool.yes {w : World} {b n : Nat} {l : List Blk} (h : Pool w b n l) {c k : Nat} (hc : c < 1000) (hk : k < 1000) (hm : (c, k) ∈ l) :
    (Instr.lookup 58 (.map (some b)) (.agg #[.int .i64 c, .int .i64 k]) true).run Try.prog w = .ok (.tuple #[.int .i64 ((2 ^ k : Nat) : Int), .bool true]) w := by
  have := h.look_ok (y := (c, k)) (wf_emb hc hk)
  rw [if_pos hm, decide_eq_true hm] at this
  exact this
theorem Pool.no {w : World} {b n : Nat} {l : List Blk} (h : Pool w b n l) {c k : Nat} (hc : c < 1000) (hk : k < 1000) (hm : (c, k) ∉ l) :
    (Instr.lookup 58 (.map (some b)) (.agg #[.int .i64 c, .int .i64 k]) true).run Try.prog w = .ok (.tuple #[.int .i64 0, .bool false]) w := by
  have := h.look_ok (y := (c, k)) (wf_emb hc hk)
  rw [if_neg hm, decide_eq_false hm] at this
  exact this
theorem no_order {n : Nat} {l : List Blk} (hr : bd.Right n l) {c : Nat} (h : ∀ j, j < n + 1 → (c, j) ∉ l) (o : Nat) : (c, o) ∉ l := fun hm => h o (by have := (hr.inn _ hm).ord; simp only at this; omega) hm

theorem next_at {wr : World} {A R c t : Nat} {x y : Value} {o : Obj} (h : At wr A c) (hne : ¬ A = R) :
    At ((((wr.setCell ⟨A, 0, none⟩ (.int .i64 ((c : Int) + (t : Int)))).setCell ⟨R, 0, none⟩ x).setCell ⟨R, 1, none⟩ y).alloc o) A ((c + t : Nat) : Int) := by
  have h1 : At (wr.setCell ⟨A, 0, none⟩ (.int .i64 ((c : Int) + (t : Int)))) A ((c + t : Nat) : Int) := h.set
  have h2 : At (((wr.setCell ⟨A, 0, none⟩ (.int .i64 ((c : Int) + (t : Int)))).setCell ⟨R, 0, none⟩ x).setCell ⟨R, 1, none⟩ y) A ((c + t : Nat) : Int) :=
    (Below.heap_setCell _ _ _ _ (by simpa using hne)).trans ((Below.heap_setCell _ _ _ _ (by simpa using hne)).trans h1)
  exact h2.grown (World.grownBy_alloc _ _ none) (by simp)
theorem next_grown {w wr : World} {A : Nat} {x y z : Value} {o : Obj} (h : w.grownBy wr (some A)) :
    w.grownBy ((((wr.setCell ⟨A, 0, none⟩ z).setCell ⟨w.heap.size, 0, none⟩ x).setCell ⟨w.heap.size, 1, none⟩ y).alloc o) (some A) :=
  grown_trans (grown_new (grown_new (grown_trans h (grown_set _ _ _ _)) (Nat.le_refl _)) (Nat.le_refl _)) (World.grownBy_alloc _ _ _)

set_option maxHeartbeats 4000000 in
theorem impl_next (n b N A B : Nat) (l rest : List Blk) (hr : bd.Right n l) (a : Nat) (w : World) (ha : At w A a) (hal : a ≤ 2 ^ n) (hc : Curs l a rest) (hp : Pool w b N l) (hbA : b ≠ A) (hBA : B ≠ A)
    (b0 : w.cell? ⟨B, 0, none⟩ = some (.int .i64 n)) (b1 : w.cell? ⟨B, 1, none⟩ = some (.map (some b))) :
    Calls Try.prog 64 #[.pointer (some ⟨A, 0, none⟩), .pointer (some ⟨B, 0, none⟩)] w (NextPost n A l rest w) := by
  have hn := hr.ord
  have hn32 := bd.pow_le32 hn
  have HR : Hid (bd.Right n l) := hr
  have HN : Hid (∀ W, _) := fun W => impl_pagesOf n hn W
  have hA := ha.lt
  have hb := hp.lt
  have HA : Hid (At w A a) := ha
  have HC : Hid (Curs l a rest) := hc
  have HP : Hid (Pool w b N l) := hp
  have hB : B < w.heap.size := cell_lt b0
  obtain ⟨s, hs⟩ : ∃ s, s = 2 ^ n := ⟨_, rfl⟩
  rw [← hs] at hn32 HN hal
  have HS : Hid (s = 2 ^ n) := hs
  clear ha hc hp hr hs
  go_enter Try.func64, Try.ntmps64
  go_wp2_with fail
  obtain ⟨V, hV⟩ : ∃ V, V = w.alloc (.cells #[.int .i64 0, .int .i64 0] 68) := ⟨_, rfl⟩
  have HGV : Hid (w.grownBy V (some A)) := by rw [hV]; exact World.grownBy_alloc _ _ _
  have HAV : Hid (At V A a) := by rw [hV]; exact HA.out.grown (World.grownBy_alloc _ _ none) (by simp)
  have HQV : Hid (V.heap[w.heap.size]? = some (.cells #[.int .i64 0, .int .i64 0] 68 (0, 0))) := by rw [hV]; exact (MapKept.heap_alloc w _).1
  rw [← hV]
  clear hV
  go_loopw [] (fun wr => ∃ c : Nat, c ≤ s ∧ Hid (At wr A c) ∧ Hid (Curs l c rest) ∧ Hid (V.grownBy wr (some A))) (fun wr => s - atOf wr A)
  case atStart => exact ⟨a, hal, HAV.out, HC.out, World.grownBy.refl _ _⟩
  case round =>
    obtain ⟨c, hcs, HAC, HCC, HGC⟩ := hrel
    have HGW : Hid (w.grownBy wr (some A)) := grown_trans HGV.out HGC.out
    obtain ⟨c0, f0⟩ := HAC.out.cell
    have d0 := grown_cell HGW.out b0 hBA
    have d1 := grown_cell HGW.out b1 hBA
    have HAT : Hid (atOf wr A = c) := atOf_of HAC.out
    have HPW : Hid (Pool wr b N l) := HP.out.kept HGW.out (by simp; omega)
    have HRW : Hid (Blx wr w.heap.size 0 0) := (HGC.out.block w.heap.size (Array.getElem?_eq_some_iff.1 HQV.out).1 (by simp; omega)).trans HQV.out
    by_cases hlt : c < s
    · go_wp2_with fail
      go_quiet (first | (go_at_call 63; exact Calls.quiet_of_same (HN.out _)))
      go_wp2_with fail
      obtain ⟨W, hW⟩ : ∃ W, W = wr.drewN nq := ⟨_, rfl⟩
      have HGX : Hid (w.grownBy W (some A)) := by rw [hW]; exact grown_drewN HGW.out _
      have HGY : Hid (V.grownBy W (some A)) := by rw [hW]; exact grown_drewN HGC.out _
      have HAX : Hid (At W A c) := by rw [hW]; exact HAC.out
      have HPX : Hid (Pool W b N l) := by rw [hW]; exact HPW.out.block rfl
      have HRX : Hid (Blx W w.heap.size 0 0) := by rw [hW]; exact HRW.out
      have hWs : w.heap.size < W.heap.size := HRX.out.lt
      have D0 := grown_cell HGX.out b0 hBA
      have D1 := grown_cell HGX.out b1 hBA
      rw [← hW]
      clear hW HGW HAC HPW HRW HGC d0 d1 c0 f0
      go_loopw [18] (fun tk wi => ∃ k : Nat, k ≤ n + 1 ∧ tk = .int .i64 k ∧ Hid (∀ j, j < k → (c, j) ∉ l) ∧ Hid (Below W.heap.size W wi)) (fun tk _ => n + 1 - (intOf tk).toNat)
      case atStart => exact ⟨0, by omega, rfl, fun j hj => absurd hj (by omega), Below.refl _ _⟩
      case round =>
        obtain ⟨k, hk, rfl, HNO, HBI⟩ := hrel
        have c0 := (HBI.out.cell (p := ⟨A, 0, none⟩) (by show A < W.heap.size; omega)).trans HAX.out.cell.1
        have f0 := (HBI.out.frozen (p := ⟨A, 0, none⟩) (by show A < W.heap.size; omega)).trans HAX.out.cell.2
        have d0 := (HBI.out.cell (p := ⟨B, 0, none⟩) (by show B < W.heap.size; omega)).trans D0
        have d1 := (HBI.out.cell (p := ⟨B, 1, none⟩) (by show B < W.heap.size; omega)).trans D1
        have hAi : A < wr.heap.size := by have := HBI.out.size; omega
        have hBi : B < wr.heap.size := by have := HBI.out.size; omega
        by_cases hkn : k < n + 1
        · have HPI : Hid (∀ o : Obj, Pool (wr.alloc o) b N l) := fun o => (HPX.out.below HBI.out (by omega)).kept (World.grownBy_alloc _ _ none) (by simp)
          by_cases hm : (c, k) ∈ l
          · have hlk := fun o => (HPI.out o).yes (c := c) (k := k) (by omega) (by omega) hm
            obtain ⟨r, HRE, HCR⟩ := curs_hit HR.out HCC.out hm
            have hin := (HR.out.inn _ hm).top hn
            have HBX : Hid (Blx wr w.heap.size 0 0) := (HBI.out.block _ hWs).trans HRX.out
            obtain ⟨r0, r1, g0, g1⟩ := HBX.out.cells
            have hRi : w.heap.size < wr.heap.size := HBX.out.lt
            simp only at hin
            rw [← HS.out] at hin
            have HCR2 : Hid (Curs l (c + 2 ^ k) r) := HCR
            have HRE2 : Hid (rest = (c, k) :: r) := HRE
            obtain ⟨t, ht⟩ : ∃ t, t = 2 ^ k := ⟨_, rfl⟩
            have ht0 : 0 < t := by rw [ht]; exact bd.pow_pos' k
            rw [← ht] at hin HCR2
            simp only [← ht] at hlk
            clear HRE HCR ht
            have hAR : ¬ A = w.heap.size := by omega
            have hRA : ¬ w.heap.size = A := by omega
            have HAI : Hid (At wr A c) := (HBI.out.block A (by omega)).trans HAX.out
            have HGI : Hid (w.grownBy wr (some A)) := grown_trans HGX.out (grown_below HBI.out _)
            go_wp2_with fail
            refine bodyPost_ret (v := .tuple #[.agg #[.int .i64 c, .int .i64 k], .bool true]) (by simp [results, Try.results64, go_sem, r0, r1, hRi]) rfl (Or.inr ⟨(c, k), r, c + t, HRE2.out, rfl, ?_, by show c < c + t; omega, by have := HS.out; omega, HCR2.out, ?_⟩)
            · exact next_at HAI.out hAR
            · exact next_grown HGI.out
          · have hlk := fun o => (HPI.out o).no (c := c) (k := k) (by omega) (by omega) hm
            have HNO2 : Hid (∀ j, j < k + 1 → (c, j) ∉ l) := fun j hj => by
              rcases Nat.lt_succ_iff_lt_or_eq.1 hj with h | h
              · exact HNO.out j h
              · rw [h]; exact hm
            have HBA : Hid (∀ o : Obj, Below W.heap.size W (wr.alloc o)) := fun o => HBI.out.alloc HBI.out.size o
            clear hm HNO
            go_wp2_with fail
            go_roundw
            case rel => exact ⟨k + 1, by omega, by go_num, HNO2.out, HBA.out _⟩
            case measure => simp [intOf]; omega
        · obtain rfl : k = n + 1 := by omega
          have HCN : Hid (Curs l (c + 1) rest) := curs_step HCC.out (no_order HR.out HNO.out)
          go_wp2_with fail
          have HAI : Hid (At wr A c) := (HBI.out.block A (by omega)).trans HAX.out
          have HA1 : Hid (At (wr.setCell ⟨A, 0, none⟩ (.int .i64 ((c : Int) + 1))) A ((c + 1 : Nat) : Int)) := HAI.out.set
          go_roundw
          case rel => exact ⟨c + 1, by omega, HA1.out, HCN.out, grown_trans (grown_trans HGY.out (grown_below HBI.out _)) (grown_set _ _ _ _)⟩
          case measure =>
            have h1 := HAT.out
            have h2 := atOf_of HA1.out
            omega
    · have HE : Hid (rest = []) := curs_end HR.out HCC.out (by have := HS.out; omega)
      obtain ⟨r0, r1, g0, g1⟩ := HRW.out.cells
      go_wp2_with fail
      go_quiet (first | (go_at_call 63; exact Calls.quiet_of_same (HN.out _)))
      go_wp2_with fail
      refine bodyPost_ret (v := .tuple #[.agg #[.int .i64 0, .int .i64 0], .bool false]) (by simp [results, Try.results64, go_sem, r0, r1]) rfl (Or.inl ⟨HE.out, rfl, ?_⟩)
      exact grown_new (grown_new (grown_drewN HGW.out _) (Nat.le_refl _)) (Nat.le_refl _)
end Go.Proofs.Ytcokchfedaoccab.bpool
