/-
  Elements of P numbers and some lists behind them, in a row: made one behind the other, marked, and held. In plain words.
-/
import Derived.Test.YtlojigfhbfemfaaDoorGrow
namespace Go.Proofs.YtlojigfhbfemfaaDoor.deep
open Go.RowKit Go.Deep
set_option linter.unusedVariables false

/-- elements that are made so far: each reads as it should, from block lo on -/
structure FillE {α : Type} (E : Reader α) (lo : Nat) (w : World) (css : List (List Value)) (xs : List α) : Prop where
  le : css.length ≤ xs.length
  each : ∀ i (hi : i < css.length), E lo w css[i] (xs[i]'(Nat.lt_of_lt_of_le hi le))
theorem FillE.keep {α : Type} {E : Reader α} (hE : Stays E) {lo : Nat} {w w' : World} {css : List (List Value)} {xs : List α} (h : FillE E lo w css xs) (hk : Keep lo w w') : FillE E lo w' css xs := ⟨h.le, fun i hi => hE _ _ _ _ _ (h.each i hi) hk⟩
theorem FillE.more {α : Type} {E : Reader α} {lo : Nat} {w : World} {css : List (List Value)} {xs : List α} {cs : List Value} (h : FillE E lo w css xs) (hl : css.length < xs.length) (hc : E lo w cs xs[css.length]) : FillE E lo w (css ++ [cs]) xs := by
  refine ⟨by simp; omega, fun i hi => ?_⟩
  by_cases e : i < css.length
  · rw [List.getElem_append_left e]; exact h.each i e
  · have e2 : i = css.length := by simp at hi; omega
    subst e2
    rw [List.getElem_append_right (Nat.le_refl _)]
    simpa using hc
theorem free_keep {lo : Nat} {w w' : World} {v : Value} (h : Free w v) (hs : ∀ g o, spotOf v = some (g, o) → 0 < lenOf v → lo ≤ g ∧ g < w.heap.size) (hk : Keep lo w w') : Free w' v := fun g o he hl j => by
  obtain ⟨h1, h2⟩ := hs g o he hl
  have h3 := h g o he hl j
  have h4 := hk.block g h1 h2
  unfold World.frozen? at h3 ⊢
  rw [show (⟨g, j, none⟩ : Addr).block = g from rfl] at *
  rw [h4]; exact h3

/-- the lists of an element, with how many numbers an item has -/
abbrev EL := List (Nat × Value)
def cntL : EL → Int
  | [] => 0
  | p :: t => (p.1 : Int) * (lenOf p.2 : Int) + cntL t
theorem cntL_pos : ∀ d : EL, 0 ≤ cntL d
  | [] => Int.le_refl _
  | p :: t => by
    have := cntL_pos t
    have h2 : (0 : Int) ≤ (p.1 : Int) * (lenOf p.2 : Int) := Int.mul_nonneg (by omega) (by omega)
    unfold cntL; omega
def markL (w : World) : EL → Int → World
  | [], _ => w
  | p :: t, k => markL (markV w p.1 p.2 k) t (k + (p.1 : Int) * (lenOf p.2 : Int))
def HeldL (w : World) : EL → Int → Prop
  | [], _ => True
  | p :: t, k => HeldV w p.1 p.2 k ∧ HeldL w t (k + (p.1 : Int) * (lenOf p.2 : Int))
def markE (P : Nat) (w : World) (G b : Nat) (d : EL) (k : Int) : World := markL (putW w G b (nums k P)) d (k + P)
def sumE (P : Nat) (ds : List EL) : Nat → Int
  | 0 => 0
  | j + 1 => match ds[j]? with | some d => sumE P ds j + (P + cntL d) | none => sumE P ds j
def markEs (P S : Nat) (w : World) (G o : Nat) (k : Int) (ds : List EL) : Nat → World
  | 0 => w
  | j + 1 => match ds[j]? with | some d => markE P (markEs P S w G o k ds j) G (o + j * S) d (k + sumE P ds j) | none => markEs P S w G o k ds j
theorem sumE_next (P : Nat) (ds : List EL) (j : Nat) (h : j < ds.length) : sumE P ds (j + 1) = sumE P ds j + (P + cntL ds[j]) := by simp [sumE, h]
theorem markE_next (P S : Nat) (w : World) (G o : Nat) (k : Int) (ds : List EL) (j : Nat) (h : j < ds.length) : markEs P S w G o k ds (j + 1) = markE P (markEs P S w G o k ds j) G (o + j * S) ds[j] (k + sumE P ds j) := by simp [markEs, h]
theorem sumE_pos (P : Nat) (ds : List EL) : ∀ j, 0 ≤ sumE P ds j
  | 0 => Int.le_refl _
  | j + 1 => by
    have := sumE_pos P ds j
    by_cases h : j < ds.length
    · rw [sumE_next P ds j h]
      have := cntL_pos ds[j]
      omega
    · have e : ds[j]? = none := by simp; omega
      simp only [sumE, e]; exact this
theorem sumE_le (P : Nat) (ds : List EL) : ∀ d j, j + d = ds.length → sumE P ds j ≤ sumE P ds ds.length
  | 0, j, h => by
    have e : j = ds.length := by omega
    rw [e]; exact Int.le_refl _
  | d + 1, j, h => Int.le_trans (by rw [sumE_next P ds j (by omega)]; have := cntL_pos (ds[j]'(by omega)); omega) (sumE_le P ds d (j + 1) (by omega))

/-- the lists lie in no block of the row itself -/
def OffE (G : Nat) (d : EL) : Prop := ∀ p ∈ d, ∀ g o, spotOf p.2 = some (g, o) → 0 < lenOf p.2 → g ≠ G
/-- elements that may be marked -/
structure MElems (P S : Nat) (w : World) (G o : Nat) (ds : List EL) : Prop where
  ints : ∀ i, i < ds.length → ∀ r, r < P → ∃ x, w.cell? ⟨G, o + i * S + r, none⟩ = some (.int .i64 x)
  free : ∀ q, w.frozen? ⟨G, q, none⟩ = false
  vals : ∀ i (hi : i < ds.length), ∀ r (hr : r < ds[i].length), w.cell? ⟨G, o + i * S + (P + r), none⟩ = some (ds[i][r]).2
  mks : ∀ d ∈ ds, ∀ p ∈ d, Mks w p.1 p.2
  off : ∀ d ∈ ds, OffE G d
  room : ∀ d ∈ ds, P + d.length ≤ S
theorem markV_cellE {w : World} {K G q : Nat} {v : Value} {k : Int} (h : ∀ g o, spotOf v = some (g, o) → 0 < lenOf v → g ≠ G) : (markV w K v k).cell? ⟨G, q, none⟩ = w.cell? ⟨G, q, none⟩ := by
  unfold markV
  split
  · rename_i a n c
    by_cases h0 : n = 0
    · subst h0
      rw [Nat.zero_mul, nums_zero]; rfl
    · exact putW_out (fun e => absurd e.symm (h a.block a.off rfl (by simp [lenOf]; omega)))
  · rfl
theorem markV_frozenE (w : World) (K : Nat) (v : Value) (k : Int) (x : Addr) : (markV w K v k).frozen? x = w.frozen? x := by
  unfold markV
  split
  · exact putW_frozen _ _ _ _ _
  · rfl
theorem markL_cell {G q : Nat} : ∀ (d : EL) (w : World) (k : Int), OffE G d → (markL w d k).cell? ⟨G, q, none⟩ = w.cell? ⟨G, q, none⟩
  | [], _, _, _ => rfl
  | p :: t, w, k, h => by
    rw [markL, markL_cell t _ _ (fun x hx => h x (List.mem_cons_of_mem _ hx)), markV_cellE (h p List.mem_cons_self)]
theorem markL_frozen (x : Addr) : ∀ (d : EL) (w : World) (k : Int), (markL w d k).frozen? x = w.frozen? x
  | [], _, _ => rfl
  | p :: t, w, k => by rw [markL, markL_frozen x t, markV_frozenE]
theorem Mks.markL {K : Nat} {v : Value} : ∀ (d : EL) {w : World} (k : Int), Mks w K v → Mks (markL w d k) K v
  | [], _, _, h => h
  | p :: t, w, k, h => Mks.markL t _ (h.mark k)
theorem Mks.markE {P : Nat} {w : World} {K : Nat} {v : Value} (h : Mks w K v) {G b : Nat} {d : EL} {k : Int} (hg : ∀ g o, spotOf v = some (g, o) → 0 < lenOf v → g ≠ G) : Mks (markE P w G b d k) K v := by
  unfold deep.markE
  exact (h.putO G b _ hg).markL d _
/-- the cell r of element i, when element j has been marked -/
theorem put_cell {P S : Nat} {w : World} {G o : Nat} {ds : List EL} (h : MElems P S w G o ds) {i j : Nat} (hi : i < ds.length) (hj : j < ds.length) {r : Nat} (hr : r < S) (hPS : P ≤ S) (k : Int) :
    (putW w G (o + j * S) (nums k P)).cell? ⟨G, o + i * S + r, none⟩ = if i = j ∧ r < P then (nums k P)[r]? else w.cell? ⟨G, o + i * S + r, none⟩ := by
  by_cases e : i = j ∧ r < P
  · rw [if_pos e]
    obtain ⟨rfl, h11⟩ := e
    exact putW_in (fun q hq => by
      rw [nums_len] at hq
      obtain ⟨x, hx⟩ := h.ints i hi q hq
      rw [hx]; rfl) r (by rw [nums_len]; exact h11)
  · rw [if_neg e]
    refine putW_out (fun _ => ?_)
    rw [nums_len]
    by_cases e2 : i = j
    · subst e2
      right
      have : ¬ r < P := fun h => e ⟨rfl, h⟩
      omega
    · rcases Nat.lt_or_gt_of_ne e2 with h | h
      · left
        have : (i + 1) * S ≤ j * S := Nat.mul_le_mul_right _ h
        rw [Nat.succ_mul] at this
        omega
      · right
        have : (j + 1) * S ≤ i * S := Nat.mul_le_mul_right _ h
        rw [Nat.succ_mul] at this
        omega
theorem markE_cell {P : Nat} {w : World} {G b q : Nat} {d : EL} {k : Int} (h : OffE G d) : (markE P w G b d k).cell? ⟨G, q, none⟩ = (putW w G b (nums k P)).cell? ⟨G, q, none⟩ := by
  unfold markE
  rw [markL_cell d _ _ h]
theorem MElems.next {P S : Nat} {w : World} {G o : Nat} {ds : List EL} (h : MElems P S w G o ds) (j : Nat) (hj : j < ds.length) (k : Int) : MElems P S (markE P w G (o + j * S) ds[j] k) G o ds := by
  have ho := h.off ds[j] (List.getElem_mem _)
  have hrm := h.room ds[j] (List.getElem_mem _)
  refine ⟨fun i hi r hr => ?_, fun q => ?_, fun i hi r hr => ?_, fun d hd p hp => ?_, h.off, h.room⟩
  · rw [markE_cell ho, put_cell h hi hj (by omega) (by omega)]
    by_cases e : i = j ∧ r < P
    · rw [if_pos e, nums_get k P r hr]; exact ⟨_, rfl⟩
    · rw [if_neg e]; exact h.ints i hi r hr
  · unfold markE; rw [markL_frozen, putW_frozen]; exact h.free q
  · have hri := h.room ds[i] (List.getElem_mem _)
    rw [markE_cell ho, put_cell h hi hj (by omega) (by omega), if_neg (by omega)]
    exact h.vals i hi r hr
  · exact (h.mks d hd p hp).markE (h.off d hd p hp)
theorem MElems.upto {P S : Nat} {w : World} {G o : Nat} {ds : List EL} (h : MElems P S w G o ds) (k : Int) : ∀ j, j ≤ ds.length → MElems P S (markEs P S w G o k ds j) G o ds
  | 0, _ => h
  | j + 1, hj => by
    rw [markE_next P S w G o k ds j (by omega)]
    exact (MElems.upto h k j (by omega)).next j (by omega) _
theorem markL_size : ∀ (d : EL) (w : World) (k : Int), (markL w d k).heap.size = w.heap.size
  | [], _, _ => rfl
  | p :: t, w, k => by rw [markL, markL_size t, markV_size]
theorem markE_size (P : Nat) (w : World) (G b : Nat) (d : EL) (k : Int) : (markE P w G b d k).heap.size = w.heap.size := by
  unfold markE; rw [markL_size, putW_size]
theorem markEs_size (P S : Nat) (w : World) (G o : Nat) (k : Int) (ds : List EL) : ∀ j, (markEs P S w G o k ds j).heap.size = w.heap.size
  | 0 => rfl
  | j + 1 => by
    by_cases e : j < ds.length
    · rw [markE_next P S w G o k ds j e, markE_size]; exact markEs_size P S w G o k ds j
    · have e : ds[j]? = none := by simp; omega
      simp only [markEs, e]; exact markEs_size P S w G o k ds j
theorem markL_below {n : Nat} {u : World} : ∀ (d : EL) {w : World} {k : Int}, Below n u w → (∀ p ∈ d, ∀ g o, spotOf p.2 = some (g, o) → 0 < lenOf p.2 → n ≤ g) → Below n u (markL w d k)
  | [], _, _, h, _ => h
  | p :: t, w, k, h, hs => markL_below t (markV_below h (hs p List.mem_cons_self)) (fun x hx => hs x (List.mem_cons_of_mem _ hx))
theorem markEs_below {P S : Nat} {n : Nat} {u w : World} {G o : Nat} {ds : List EL} {k : Int} (h : Below n u w) (hG : n ≤ G) (hs : ∀ d ∈ ds, ∀ p ∈ d, ∀ g o, spotOf p.2 = some (g, o) → 0 < lenOf p.2 → n ≤ g) : ∀ j, Below n u (markEs P S w G o k ds j)
  | 0 => h
  | j + 1 => by
    by_cases e : j < ds.length
    · rw [markE_next P S w G o k ds j e]
      exact markL_below _ (putW_below _ (markEs_below h hG hs j) hG) (hs _ (List.getElem_mem _))
    · have e : ds[j]? = none := by simp; omega
      simp only [markEs, e]; exact markEs_below h hG hs j
/-- what lies from lo on stays, when rows of elder blocks are marked -/
theorem markL_keep {lo : Nat} : ∀ (d : EL) (w : World) (k : Int), (∀ p ∈ d, ∀ g o, spotOf p.2 = some (g, o) → 0 < lenOf p.2 → g < lo) → Keep lo w (markL w d k)
  | [], _, _, _ => ⟨Nat.le_refl _, fun _ _ _ => rfl⟩
  | p :: t, w, k, h => (mark_keep (h p List.mem_cons_self)).trans (markL_keep t _ _ (fun x hx => h x (List.mem_cons_of_mem _ hx)))
theorem markEs_keep {P S lo : Nat} {w : World} {G o : Nat} {ds : List EL} {k : Int} (hG : G < lo) (hs : ∀ d ∈ ds, ∀ p ∈ d, ∀ g o, spotOf p.2 = some (g, o) → 0 < lenOf p.2 → g < lo) : ∀ j, Keep lo w (markEs P S w G o k ds j)
  | 0 => ⟨Nat.le_refl _, fun _ _ _ => rfl⟩
  | j + 1 => by
    by_cases e : j < ds.length
    · rw [markE_next P S w G o k ds j e]
      exact (markEs_keep hG hs j).trans ((putW_keep _ _ _ _ _ hG).trans (markL_keep _ _ _ (hs _ (List.getElem_mem _))))
    · have e : ds[j]? = none := by simp; omega
      simp only [markEs, e]; exact markEs_keep hG hs j
theorem MElems.later {P S : Nat} {w w' : World} {G o : Nat} {ds : List EL} (h : MElems P S w G o ds) (hG : G < w.heap.size) (hb : Below w.heap.size w w') : MElems P S w' G o ds :=
  ⟨fun i hi r hr => by obtain ⟨x, hx⟩ := h.ints i hi r hr; exact ⟨x, (hb.cell (p := ⟨G, _, none⟩) hG).trans hx⟩,
   fun q => (hb.frozen (p := ⟨G, q, none⟩) hG).trans (h.free q),
   fun i hi r hr => (hb.cell (p := ⟨G, _, none⟩) hG).trans (h.vals i hi r hr),
   fun d hd p hp => (h.mks d hd p hp).later hb, h.off, h.room⟩

/-- what has been marked in an element stands there -/
structure HElem (P : Nat) (w : World) (G b : Nat) (d : EL) (q : Int) : Prop where
  hd : ∀ r, r < P → w.cell? ⟨G, b + r, none⟩ = some (.int .i64 (q + (r : Int)))
  ls : HeldL w d (q + P)
/-- all lists of an element lie in blocks of their own -/
def ApartL : EL → Prop
  | [] => True
  | p :: t => (∀ q ∈ t, Two p.2 q.2) ∧ ApartL t
def ApartE (d e : EL) : Prop := ∀ p ∈ d, ∀ q ∈ e, Two p.2 q.2
structure DistinctE (ds : List EL) : Prop where
  one : ∀ d ∈ ds, ApartL d
  two : ∀ i j (hi : i < ds.length) (hj : j < ds.length), i ≠ j → ApartE ds[i] ds[j]
theorem HeldV.markL {K : Nat} {v : Value} {k : Int} : ∀ (d : EL) {w : World} (k' : Int), HeldV w K v k → (∀ p ∈ d, Two v p.2) → HeldV (markL w d k') K v k
  | [], _, _, h, _ => h
  | p :: t, w, k', h, ht => HeldV.markL t _ (h.mark (ht p List.mem_cons_self)) (fun x hx => ht x (List.mem_cons_of_mem _ hx))
theorem HeldV.markE {P : Nat} {w : World} {K : Nat} {v : Value} {k k' : Int} {G b : Nat} {d : EL} (h : HeldV w K v k) (hg : ∀ g o, spotOf v = some (g, o) → 0 < lenOf v → g ≠ G) (ht : ∀ p ∈ d, Two v p.2) : HeldV (markE P w G b d k') K v k := by
  unfold deep.markE
  exact (h.put G b _ hg).markL d _ ht
theorem HeldL.here : ∀ (d : EL) {w : World} (k : Int), (∀ p ∈ d, Mks w p.1 p.2) → ApartL d → HeldL (markL w d k) d k
  | [], _, _, _, _ => trivial
  | p :: t, w, k, hm, ha => by
    refine ⟨?_, ?_⟩
    · rw [markL]; exact (HeldV.here (hm p List.mem_cons_self) k).markL t _ ha.1
    · rw [markL]; exact HeldL.here t _ (fun q hq => (hm q (List.mem_cons_of_mem _ hq)).mark _) ha.2
theorem HeldL.markE {P : Nat} {w : World} {G b : Nat} {e : EL} {k' : Int} : ∀ (d : EL) {k : Int}, HeldL w d k → OffE G d → ApartE d e → HeldL (markE P w G b e k') d k
  | [], _, _, _, _ => trivial
  | p :: t, k, h, ho, ha => ⟨h.1.markE (ho p List.mem_cons_self) (ha p List.mem_cons_self), HeldL.markE t h.2 (fun x hx => ho x (List.mem_cons_of_mem _ hx)) (fun x hx => ha x (List.mem_cons_of_mem _ hx))⟩
theorem HElem.here {P S : Nat} {w : World} {G o : Nat} {ds : List EL} (h : MElems P S w G o ds) (j : Nat) (hj : j < ds.length) (k : Int) (ha : ApartL ds[j]) : HElem P (markE P w G (o + j * S) ds[j] k) G (o + j * S) ds[j] k := by
  have ho := h.off ds[j] (List.getElem_mem _)
  have hrm := h.room ds[j] (List.getElem_mem _)
  refine ⟨fun r hr => ?_, ?_⟩
  · rw [markE_cell ho, put_cell h hj hj (by omega) (by omega), if_pos ⟨rfl, hr⟩, nums_get k P r hr]
  · unfold markE
    exact HeldL.here _ _ (fun p hp => (h.mks _ (List.getElem_mem _) p hp).putO _ _ _ (ho p hp)) ha
theorem HElem.stay {P S : Nat} {w : World} {G o : Nat} {ds : List EL} (h : MElems P S w G o ds) {i j : Nat} (hi : i < ds.length) (hj : j < ds.length) (hne : i ≠ j) {k k' : Int} (hs : HElem P w G (o + i * S) ds[i] k) (ha : ApartE ds[i] ds[j]) : HElem P (markE P w G (o + j * S) ds[j] k') G (o + i * S) ds[i] k := by
  have ho := h.off ds[j] (List.getElem_mem _)
  have oi := h.off ds[i] (List.getElem_mem _)
  have hrm := h.room ds[j] (List.getElem_mem _)
  refine ⟨fun r hr => ?_, hs.ls.markE _ oi ha⟩
  rw [markE_cell ho, put_cell h hi hj (by omega) (by omega), if_neg (fun e => hne e.1)]
  exact hs.hd r hr
/-- the marks of all elements stand there -/
def HElems (P S : Nat) (w : World) (G o : Nat) (ds : List EL) (k : Int) (n : Nat) : Prop := ∀ i (hi : i < ds.length), i < n → HElem P w G (o + i * S) ds[i] (k + sumE P ds i)
theorem HElems.upto {P S : Nat} {w : World} {G o : Nat} {ds : List EL} (h : MElems P S w G o ds) (hd : DistinctE ds) (k : Int) : ∀ j, j ≤ ds.length → HElems P S (markEs P S w G o k ds j) G o ds k j
  | 0, _ => fun i hi h0 => absurd h0 (Nat.not_lt_zero _)
  | j + 1, hj => fun i hi hlt => by
    rw [markE_next P S w G o k ds j (by omega)]
    have hm := MElems.upto h k j (by omega)
    by_cases e : i = j
    · subst e
      exact HElem.here hm i (by omega) _ (hd.one _ (List.getElem_mem _))
    · exact HElem.stay hm hi (by omega) e (HElems.upto h hd k j (by omega) i hi (by omega)) (hd.two i j hi (by omega) e)
theorem HeldL.later {w w' : World} (hb : Below w.heap.size w w') : ∀ (d : EL) {k : Int}, HeldL w d k → (∀ p ∈ d, ∀ g o, spotOf p.2 = some (g, o) → 0 < lenOf p.2 → g < w.heap.size) → HeldL w' d k
  | [], _, _, _ => trivial
  | p :: t, k, h, hs => ⟨h.1.later (hs p List.mem_cons_self) hb, HeldL.later hb t h.2 (fun x hx => hs x (List.mem_cons_of_mem _ hx))⟩
theorem HElems.later {P S : Nat} {w w' : World} {G o : Nat} {ds : List EL} {k : Int} {n : Nat} (h : HElems P S w G o ds k n) (hG : G < w.heap.size) (hs : ∀ d ∈ ds, ∀ p ∈ d, ∀ g o, spotOf p.2 = some (g, o) → 0 < lenOf p.2 → g < w.heap.size) (hb : Below w.heap.size w w') : HElems P S w' G o ds k n := fun i hi hn =>
  ⟨fun r hr => (hb.cell (p := ⟨G, _, none⟩) hG).trans ((h i hi hn).hd r hr), (h i hi hn).ls.later hb _ (hs _ (List.getElem_mem _))⟩
end Go.Proofs.YtlojigfhbfemfaaDoor.deep
