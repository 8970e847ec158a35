/-
  The walk of the program's poolOf: a right buddy's blocks, as a map.
-/
import Derived.Test.YtcokchfedaoccabBuddyAdd
namespace Go.Proofs.Ytcokchfedaoccab.bpool
open Go.RowKit Go.Deep Go.Maps Go.Sort
open Go.Proofs.Ytcokchfedaoccab
open Go.Proofs.Ytcokchfedaoccab.brows
open Go.Proofs.Ytcokchfedaoccab.bspec
open Go.Proofs.Ytcokchfedaoccab.bimpl
open Go.Proofs.Ytcokchfedaoccab.bd (Blk)
set_option linter.unusedVariables false

/-- what poolOf leaves -/
def PoolPost (n : Nat) (l : List Blk) (w : World) (e : Ending) (w' : World) : Prop :=
  ∃ b, e = .returned (.agg #[.int .i64 n, .map (some b)]) ∧ w.heap.size ≤ b ∧ Pool w' b 32 l ∧ Below w.heap.size w w'

theorem Pool.mono {w : World} {b n n' : Nat} {l : List Blk} (h : Pool w b n l) (hn : n ≤ n') : Pool w b n' l := by
  obtain ⟨D, h1, h2⟩ := h
  exact ⟨D, h1.mono hn, h2⟩

theorem pool_new (w : World) (o1 o3 o4 : Obj) : ((((w.alloc o1).alloc (.cells #[.int .i64 0, .map none] 60)).alloc o3).alloc o4).cell? ⟨w.heap.size + 1, 0, none⟩ = some (.int .i64 0) ∧ ((((w.alloc o1).alloc (.cells #[.int .i64 0, .map none] 60)).alloc o3).alloc o4).cell? ⟨w.heap.size + 1, 1, none⟩ = some (.map none) ∧
    ((((w.alloc o1).alloc (.cells #[.int .i64 0, .map none] 60)).alloc o3).alloc o4).frozen? ⟨w.heap.size + 1, 0, none⟩ = false ∧ ((((w.alloc o1).alloc (.cells #[.int .i64 0, .map none] 60)).alloc o3).alloc o4).frozen? ⟨w.heap.size + 1, 1, none⟩ = false := by
  have hb : Below (w.heap.size + 2) ((w.alloc o1).alloc (.cells #[.int .i64 0, .map none] 60)) ((((w.alloc o1).alloc (.cells #[.int .i64 0, .map none] 60)).alloc o3).alloc o4) := ((Below.refl _ _).alloc (by simp) _).alloc (by simp) _
  exact ⟨(hb.cell (p := ⟨w.heap.size + 1, 0, none⟩) (by simp)).trans (by simp), (hb.cell (p := ⟨w.heap.size + 1, 1, none⟩) (by simp)).trans (by simp), (hb.frozen (p := ⟨w.heap.size + 1, 0, none⟩) (by simp)).trans (by simp), (hb.frozen (p := ⟨w.heap.size + 1, 1, none⟩) (by simp)).trans (by simp)⟩
theorem new_last (w : World) (cs : Array Value) (T : TypeId) (B : Nat) (hB : w.heap.size = B) (i : Nat) {v : Value} (hi : cs[i]? = some v) : (w.alloc (.cells cs T)).cell? ⟨B, i, none⟩ = some v := by
  subst hB
  have h := (MapKept.heap_alloc w (.cells cs T)).1
  unfold World.cell?
  simp only [h]
  exact hi
theorem pool_new2 (w : World) (o1 o2 o4 : Obj) : Pool ((((w.alloc o1).alloc o2).alloc (.map #[] 0)).alloc o4) (w.heap.size + 1 + 1) 0 [] := by
  have h := (pool_made ((w.alloc o1).alloc o2)).kept (World.grownBy_alloc _ o4 none) (by simp)
  simpa using h
theorem pool_res {V wr : World} {B : Nat} (hg : V.grownBy wr (some (B + 1 + 1))) (h : V.cell? ⟨B + 1, 0, none⟩ = some (.int .i64 0) ∧ V.cell? ⟨B + 1, 1, none⟩ = some (.map none) ∧ V.frozen? ⟨B + 1, 0, none⟩ = false ∧ V.frozen? ⟨B + 1, 1, none⟩ = false) (hB : B + 1 < V.heap.size) :
    wr.cell? ⟨B + 1, 0, none⟩ = some (.int .i64 0) ∧ wr.cell? ⟨B + 1, 1, none⟩ = some (.map none) ∧ wr.frozen? ⟨B + 1, 0, none⟩ = false ∧ wr.frozen? ⟨B + 1, 1, none⟩ = false := by
  have hb := hg.block (B + 1) hB (by simp)
  exact ⟨(World.cell?_of_block (a := ⟨B + 1, 0, none⟩) hb).trans h.1, (World.cell?_of_block (a := ⟨B + 1, 1, none⟩) hb).trans h.2.1, (World.frozen?_of_block (a := ⟨B + 1, 0, none⟩) hb).trans h.2.2.1, (World.frozen?_of_block (a := ⟨B + 1, 1, none⟩) hb).trans h.2.2.2⟩
theorem take_mem {l : List Blk} {k : Nat} {y : Blk} (h : l[k]? = some y) (x : Blk) : x ∈ y :: l.take k ↔ x ∈ l.take (k + 1) := by
  rw [List.take_add_one, h]
  simp [or_comm]

set_option maxHeartbeats 2000000 in
theorem impl_poolOf_some (n : Nat) (g c : Nat) (l : List Blk) (hr : bd.Right n l) (w : World) (h0 : 0 < l.length) (hg : g < w.heap.size) (hc : ∀ i (hi : i < l.length), w.cell? ⟨g, i * 2, none⟩ = some (.int .i64 l[i].1) ∧ w.cell? ⟨g, i * 2 + 1, none⟩ = some (.int .i64 l[i].2)) :
    Calls Try.prog 33 #[.agg #[.int .i64 n, .slice (some ⟨g, 0, none⟩) l.length c]] w (PoolPost n l w) := by
  have HC : Hid _ := hc
  have hl32 := hr.len_le
  have HR : Hid (bd.Right n l) := hr
  clear hc hr
  have hmm := @run_makeMap Try.prog
  go_enter Try.func33, Try.ntmps33
  go_wp2_with fail
  obtain ⟨V, hV⟩ : ∃ V, V = (((w.alloc (.cells #[.int .i64 n, .slice (some ⟨g, 0, none⟩) l.length c] 29)).alloc (.cells #[.int .i64 0, .map none] 60)).alloc (.map #[] 0)).alloc (.cells #[.int .i64 n, .map (some (w.heap.size + 1 + 1))] 60) := ⟨_, rfl⟩
  have HBV : Hid (Below w.heap.size w V) := by rw [hV]; exact ((((Below.refl _ _).alloc (Nat.le_refl _) _).alloc (by simp) _).alloc (by simp; omega) _).alloc (by simp; omega) _
  have hVs : V.heap.size = w.heap.size + 4 := by rw [hV]; simp
  have X0 : V.cell? ⟨w.heap.size + 1 + 1 + 1, 0, none⟩ = some (.int .i64 n) := by rw [hV]; exact new_last _ _ _ _ (by simp) _ rfl
  have X1 : V.cell? ⟨w.heap.size + 1 + 1 + 1, 1, none⟩ = some (.map (some (w.heap.size + 1 + 1))) := by rw [hV]; exact new_last _ _ _ _ (by simp) _ rfl
  have HQ : Hid (V.cell? ⟨w.heap.size + 1, 0, none⟩ = some (.int .i64 0) ∧ V.cell? ⟨w.heap.size + 1, 1, none⟩ = some (.map none) ∧ V.frozen? ⟨w.heap.size + 1, 0, none⟩ = false ∧ V.frozen? ⟨w.heap.size + 1, 1, none⟩ = false) := by rw [hV]; exact pool_new w _ _ _
  have HP : Hid (Pool V (w.heap.size + 1 + 1) 0 []) := by rw [hV]; exact pool_new2 w _ _ _
  rw [← hV]
  clear hV
  go_loopw [13] (fun i wr => ∃ k : Nat, k ≤ l.length ∧ i = .int .i64 k ∧ Hid (Pool wr (w.heap.size + 1 + 1) k (l.take k)) ∧ Hid (V.grownBy wr (some (w.heap.size + 1 + 1)))) (fun i _ => l.length - (intOf i).toNat)
  case atStart => exact ⟨0, by omega, rfl, HP.out, World.grownBy.refl _ _⟩
  case round =>
    obtain ⟨k, hk, rfl, HPK, HGK⟩ := hrel
    have hws : w.heap.size + 1 + 1 + 1 < wr.heap.size := Nat.lt_of_lt_of_le (by omega) HGK.out.size
    have x0 := grown_cell HGK.out X0 (by omega)
    have x1 := grown_cell HGK.out X1 (by omega)
    by_cases hlt : k < l.length
    · have e0 := grown_cell HGK.out ((HBV.out.cell (p := ⟨g, k * 2, none⟩) hg).trans (HC.out k hlt).1) (by omega)
      have e1 := grown_cell HGK.out ((HBV.out.cell (p := ⟨g, k * 2 + 1, none⟩) hg).trans (HC.out k hlt).2) (by omega)
      have hy := HR.out.inn _ (List.getElem_mem hlt)
      have HY : Hid (l[k]? = some l[k]) := List.getElem?_eq_getElem hlt
      have hy1 : l[k].1 < 64 := by have := hy.lt; have := bd.pow_le32 HR.out.ord; omega
      have hy2 : l[k].2 ≤ 5 := by have := hy.ord; have := HR.out.ord; omega
      have HADD : Hid (∀ W, Pool W (w.heap.size + 1 + 1) k (l.take k) → _) := fun W hW => impl_add (n : Int) (w.heap.size + 1 + 1) k (l.take k) l[k] hy1 hy2 W hW (by omega)
      have HPW : Hid (∀ o : Obj, Pool (wr.alloc o) (w.heap.size + 1 + 1) k (l.take k)) := fun o => HPK.out.kept (World.grownBy_alloc _ _ none) (by simp)
      generalize l[k] = y at *
      clear hy
      go_wp2_with fail
      refine Calls.mono (HADD.out _ (HPW.out _)) ?_
      rintro e w1 ⟨rfl, hp1, hg1⟩
      have HP1 : Hid (Pool w1 (w.heap.size + 1 + 1) (k + 1) (l.take (k + 1))) := hp1.congr (take_mem HY.out)
      have HG1 : Hid (V.grownBy w1 (some (w.heap.size + 1 + 1))) := grown_trans HGK.out (grown_trans (World.grownBy_alloc _ _ _) hg1)
      clear hp1 hg1
      go_wp2_with fail
      go_roundw
      case rel => exact ⟨k + 1, by omega, by go_num, HP1.out, HG1.out⟩
      case measure => simp [intOf]; omega
    · obtain rfl : k = l.length := by omega
      have HPL : Hid (Pool wr (w.heap.size + 1 + 1) 32 l) := by have := HPK.out; rw [List.take_length] at this; exact this.mono hl32
      have hq := pool_res HGK.out HQ.out (by omega)
      obtain ⟨q0, q1, f0, f1⟩ := hq
      go_wp2_with fail
      refine bodyPost_ret (v := .agg #[.int .i64 n, .map (some (w.heap.size + 1 + 1))]) (by simp [results, Try.results33, go_sem, q0, q1]) rfl ⟨_, rfl, by omega, ?_, ?_⟩
      · exact (HPL.out.block (by rw [Below.heap_setCell _ _ _ _ (by simp), Below.heap_setCell _ _ _ _ (by simp)]))
      · exact ((HBV.out.grown HGK.out (by omega) (fun k hk => by cases hk; omega)).setCell (by simp) _).setCell (by simp) _

set_option maxHeartbeats 2000000 in
theorem impl_poolOf_none (n : Nat) (a : Option Addr) (c : Nat) (w : World) :
    Calls Try.prog 33 #[.agg #[.int .i64 n, .slice a 0 c]] w (PoolPost n [] w) := by
  have hmm := @run_makeMap Try.prog
  go_enter Try.func33, Try.ntmps33
  go_wp2_with fail
  obtain ⟨V, hV⟩ : ∃ V, V = (((w.alloc (.cells #[.int .i64 n, .slice a 0 c] 29)).alloc (.cells #[.int .i64 0, .map none] 60)).alloc (.map #[] 0)).alloc (.cells #[.int .i64 n, .map (some (w.heap.size + 1 + 1))] 60) := ⟨_, rfl⟩
  have HBV : Hid (Below w.heap.size w V) := by rw [hV]; exact ((((Below.refl _ _).alloc (Nat.le_refl _) _).alloc (by simp) _).alloc (by simp; omega) _).alloc (by simp; omega) _
  have hVs : V.heap.size = w.heap.size + 4 := by rw [hV]; simp
  have X0 : V.cell? ⟨w.heap.size + 1 + 1 + 1, 0, none⟩ = some (.int .i64 n) := by rw [hV]; exact new_last _ _ _ _ (by simp) _ rfl
  have X1 : V.cell? ⟨w.heap.size + 1 + 1 + 1, 1, none⟩ = some (.map (some (w.heap.size + 1 + 1))) := by rw [hV]; exact new_last _ _ _ _ (by simp) _ rfl
  have HQ : Hid (V.cell? ⟨w.heap.size + 1, 0, none⟩ = some (.int .i64 0) ∧ V.cell? ⟨w.heap.size + 1, 1, none⟩ = some (.map none) ∧ V.frozen? ⟨w.heap.size + 1, 0, none⟩ = false ∧ V.frozen? ⟨w.heap.size + 1, 1, none⟩ = false) := by rw [hV]; exact pool_new w _ _ _
  have HP : Hid (Pool V (w.heap.size + 1 + 1) 0 []) := by rw [hV]; exact pool_new2 w _ _ _
  rw [← hV]
  clear hV
  obtain ⟨q0, q1, f0, f1⟩ := HQ.out
  go_loopw [13] (fun i wr => i = .int .i64 0 ∧ wr = V) (fun _ _ => 0)
  case atStart => exact ⟨rfl, rfl⟩
  case round =>
    obtain ⟨rfl, rfl⟩ := hrel
    go_wp2_with fail
    refine bodyPost_ret (v := .agg #[.int .i64 n, .map (some (w.heap.size + 1 + 1))]) (by simp [results, Try.results33, go_sem, q0, q1]) rfl ⟨_, rfl, by omega, ?_, ?_⟩
    · exact ((HP.out.mono (by omega)).block (by rw [Below.heap_setCell _ _ _ _ (by simp), Below.heap_setCell _ _ _ _ (by simp)]))
    · exact (HBV.out.setCell (by simp) _).setCell (by simp) _

theorem rd_blks {w : World} {g : Nat} {l : List Blk} (h : ∀ i (hi : i < (l.map emb).length), w.cell? ⟨g, i * 2, none⟩ = some (.int .i64 (l.map emb)[i].1) ∧ w.cell? ⟨g, i * 2 + 1, none⟩ = some (.int .i64 (l.map emb)[i].2)) :
    ∀ i (hi : i < l.length), w.cell? ⟨g, i * 2, none⟩ = some (.int .i64 l[i].1) ∧ w.cell? ⟨g, i * 2 + 1, none⟩ = some (.int .i64 l[i].2) := by
  intro i hi
  have := h i (by simpa using hi)
  simpa [emb] using this
theorem impl_poolOf (n : Nat) (v : Value) (l : List Blk) (hr : bd.Right n l) (w : World) (hrd : Rd w v (l.map emb)) :
    Calls Try.prog 33 #[.agg #[.int .i64 n, v]] w (PoolPost n l w) := by
  by_cases h0 : l.length = 0
  · obtain rfl : l = [] := List.eq_nil_of_length_eq_zero h0
    obtain ⟨a, c, rfl, _⟩ := hrd.form
    exact impl_poolOf_none n a c w
  · obtain ⟨g, c, rfl, _, _, hg, hc⟩ := hrd.at (by simp; omega)
    have := impl_poolOf_some n g c l hr w (by omega) hg (rd_blks hc)
    rwa [List.length_map]
end Go.Proofs.Ytcokchfedaoccab.bpool
