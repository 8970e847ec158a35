/-
  Slices whose elements are of k cells each, and lists within lists: what they read as, from which block on they lie, and how they are filled.
-/
import Derived.Test.YtnkkkdhpopfahaaRows
import Derived.WalkKit
import Derived.ProofKit
import Derived.WalkLawsBesides
import Derived.RegionTactic
import Derived.ChangeAlike
import Derived.Deep.OwnRows
import Derived.Below
namespace Go.Proofs.Ytnkkkdhpopfahaa.deep
open Go.RowKit Go.Deep
set_option linter.unusedVariables false

/-- from the block lo on all is as it was -/
structure Keep (lo : Nat) (w w' : World) : Prop where
  size : w.heap.size ≤ w'.heap.size
  block : ∀ b, lo ≤ b → b < w.heap.size → w'.heap[b]? = w.heap[b]?
theorem Keep.of {w w' : World} (lo : Nat) (h : Below w.heap.size w w') : Keep lo w w' := ⟨h.size, fun b _ hb => h.block b hb⟩
theorem Keep.trans {lo : Nat} {a b c : World} (h : Keep lo a b) (k : Keep lo b c) : Keep lo a c :=
  ⟨Nat.le_trans h.size k.size, fun x hx hl => (k.block x hx (Nat.lt_of_lt_of_le hl h.size)).trans (h.block x hx hl)⟩
theorem Keep.cell {lo : Nat} {w w' : World} (h : Keep lo w w') {g i : Nat} (h0 : lo ≤ g) (h1 : g < w.heap.size) : w'.cell? ⟨g, i, none⟩ = w.cell? ⟨g, i, none⟩ := World.cell?_of_block (w := w) (h.block g h0 h1)
theorem below_tr {w a b : World} (h : Below w.heap.size w a) (k : Below a.heap.size a b) : Below w.heap.size w b := h.trans (k.mono h.size)

/-- what is read of an element's cells; the blocks that it names lie from lo on -/
abbrev Reader (α : Type) := Nat → World → List Value → α → Prop
def Stays {α : Type} (E : Reader α) : Prop := ∀ lo w w' cs x, E lo w cs x → Keep lo w w' → E lo w' cs x
def Lowers {α : Type} (E : Reader α) : Prop := ∀ lo lo' w cs x, E lo w cs x → lo' ≤ lo → E lo' w cs x

/-- a slice of elements of k cells each -/
def RowE {α : Type} (E : Reader α) (k : Nat) (lo : Nat) (w : World) (v : Value) (xs : List α) : Prop :=
  ∃ (a : Option Addr) (c : Nat), v = .slice a xs.length c ∧ xs.length ≤ maxLen ∧
    (0 < xs.length → ∃ g o, a = some ⟨g, o, none⟩ ∧ lo ≤ g ∧ g < w.heap.size ∧ ∀ i (hi : i < xs.length), ∃ cs : List Value, cs.length = k ∧ (∀ j, j < k → w.cell? ⟨g, o + i * k + j, none⟩ = cs[j]?) ∧ E lo w cs xs[i])
/-- the row of a slice -/
def spotOf : Value → Option (Nat × Nat) | .slice (some a) _ _ => some (a.block, a.off) | _ => none
def lenOf : Value → Nat | .slice _ n _ => n | _ => 0
/-- nothing of its row is frozen -/
def Free (w : World) (v : Value) : Prop := ∀ g o, spotOf v = some (g, o) → 0 < lenOf v → ∀ j, w.frozen? ⟨g, j, none⟩ = false
theorem RowE.form {α : Type} {E : Reader α} {k lo : Nat} {w : World} {v : Value} {xs : List α} (h : RowE E k lo w v xs) : ∃ a c, v = .slice a xs.length c ∧ xs.length ≤ maxLen := by
  obtain ⟨a, c, rfl, h1, _⟩ := h
  exact ⟨a, c, rfl, h1⟩
theorem RowE.at {α : Type} {E : Reader α} {k lo : Nat} {w : World} {v : Value} {xs : List α} (h : RowE E k lo w v xs) (hn : 0 < xs.length) :
    ∃ g o c, v = .slice (some ⟨g, o, none⟩) xs.length c ∧ xs.length ≤ maxLen ∧ lo ≤ g ∧ g < w.heap.size ∧ ∀ i (hi : i < xs.length), ∃ cs : List Value, cs.length = k ∧ (∀ j, j < k → w.cell? ⟨g, o + i * k + j, none⟩ = cs[j]?) ∧ E lo w cs xs[i] := by
  obtain ⟨a, c, rfl, h1, h3⟩ := h
  obtain ⟨g, o, rfl, h4⟩ := h3 hn
  exact ⟨g, o, c, rfl, h1, h4⟩
theorem rowE_stays {α : Type} {E : Reader α} (hE : Stays E) {k lo : Nat} {w w' : World} {v : Value} {xs : List α} (h : RowE E k lo w v xs) (hk : Keep lo w w') : RowE E k lo w' v xs := by
  obtain ⟨a, c, rfl, h1, h3⟩ := h
  refine ⟨a, c, rfl, h1, fun hn => ?_⟩
  obtain ⟨g, o, rfl, h4, h5, h6⟩ := h3 hn
  refine ⟨g, o, rfl, h4, Nat.lt_of_lt_of_le h5 hk.size, fun i hi => ?_⟩
  obtain ⟨cs, h7, h8, h9⟩ := h6 i hi
  exact ⟨cs, h7, fun j hj => (hk.cell h4 h5).trans (h8 j hj), hE _ _ _ _ _ h9 hk⟩
theorem rowE_lowers {α : Type} {E : Reader α} (hE : Lowers E) {k lo lo' : Nat} {w : World} {v : Value} {xs : List α} (h : RowE E k lo w v xs) (hl : lo' ≤ lo) : RowE E k lo' w v xs := by
  obtain ⟨a, c, rfl, h1, h3⟩ := h
  refine ⟨a, c, rfl, h1, fun hn => ?_⟩
  obtain ⟨g, o, rfl, h4, h5, h6⟩ := h3 hn
  refine ⟨g, o, rfl, Nat.le_trans hl h4, h5, fun i hi => ?_⟩
  obtain ⟨cs, h7, h8, h9⟩ := h6 i hi
  exact ⟨cs, h7, h8, hE _ _ _ _ _ h9 hl⟩

/-- elements that are plain cells -/
def Plain {α : Type} (f : α → List Value) : Reader α := fun _ _ cs x => cs = f x
theorem plain_stays {α : Type} (f : α → List Value) : Stays (Plain f) := fun _ _ _ _ _ h _ => h
theorem plain_lowers {α : Type} (f : α → List Value) : Lowers (Plain f) := fun _ _ _ _ _ h _ => h
theorem RowE.below {α : Type} {E : Reader α} (hE : Stays E) {k lo : Nat} {w w' : World} {v : Value} {xs : List α} (h : RowE E k lo w v xs) (hb : Below w.heap.size w w') : RowE E k lo w' v xs := rowE_stays hE h (Keep.of lo hb)

/-- values stored one behind the other -/
def putA (cur : Array Value) (b : Nat) : List Value → Array Value
  | [] => cur
  | v :: vs => putA (cur.setIfInBounds b v) (b + 1) vs
theorem putA_size : ∀ (cs : List Value) (cur : Array Value) (b : Nat), (putA cur b cs).size = cur.size
  | [], cur, b => rfl
  | v :: vs, cur, b => by rw [putA, putA_size vs]; simp
theorem putA_out : ∀ (cs : List Value) (cur : Array Value) (b q : Nat), (q < b ∨ b + cs.length ≤ q) → (putA cur b cs)[q]? = cur[q]?
  | [], cur, b, q, _ => rfl
  | v :: vs, cur, b, q, h => by
    rw [putA, putA_out vs _ _ q (by simp at h; omega), Array.getElem?_setIfInBounds_ne (by simp at h; omega)]
theorem putA_in : ∀ (cs : List Value) (cur : Array Value) (b j : Nat), j < cs.length → b + j < cur.size → (putA cur b cs)[b + j]? = cs[j]?
  | [], cur, b, j, h, _ => by simp at h
  | v :: vs, cur, b, 0, h, hs => by
    rw [putA, putA_out vs _ _ _ (by omega), Nat.add_zero, Array.getElem?_setIfInBounds_self_of_lt (by omega)]; rfl
  | v :: vs, cur, b, j + 1, h, hs => by
    rw [putA, show b + (j + 1) = b + 1 + j by omega, putA_in vs _ (b + 1) j (by simpa using h) (by simp; omega)]; rfl
def putW (w : World) (g b : Nat) : List Value → World
  | [] => w
  | v :: vs => putW (w.setCell ⟨g, b, none⟩ v) g (b + 1) vs
theorem putW_block : ∀ (cs : List Value) (w : World) (g b : Nat) (cur : Array Value) (t : TypeId), w.heap[g]? = some (.cells cur t (0, 0)) → (putW w g b cs).heap[g]? = some (.cells (putA cur b cs) t (0, 0))
  | [], w, g, b, cur, t, h => h
  | v :: vs, w, g, b, cur, t, h => putW_block vs _ g (b + 1) _ t (heap_setCell_same w g b cur t _ h)
theorem putW_below : ∀ (cs : List Value) {n : Nat} {u w : World} {g b : Nat}, Below n u w → n ≤ g → Below n u (putW w g b cs)
  | [], n, u, w, g, b, h, _ => h
  | v :: vs, n, u, w, g, b, h, hg => putW_below vs (h.setCell hg _) hg
theorem putW_other : ∀ (cs : List Value) (w : World) (g b g' : Nat), g' ≠ g → (putW w g b cs).heap[g']? = w.heap[g']?
  | [], w, g, b, g', _ => rfl
  | v :: vs, w, g, b, g', h => by rw [putW, putW_other vs _ _ _ _ h, Below.heap_setCell _ _ _ _ h]
theorem putW_size : ∀ (cs : List Value) (w : World) (g b : Nat), (putW w g b cs).heap.size = w.heap.size
  | [], w, g, b => rfl
  | v :: vs, w, g, b => by rw [putW, putW_size vs]; simp
theorem putW_keep (cs : List Value) (w : World) (g b lo : Nat) (h : g < lo) : Keep lo w (putW w g b cs) :=
  ⟨by rw [putW_size]; exact Nat.le_refl _, fun x hx _ => putW_other cs w g b x (by omega)⟩

/-- a row that a call has made, element by element the cells that stand in it -/
structure Made (w : World) (g t k c : Nat) (css : List (List Value)) : Prop where
  len : ∀ cs ∈ css, cs.length = k
  rest : ∃ cur, w.heap[g]? = some (.cells cur t (0, 0)) ∧ c * k ≤ cur.size ∧ ∀ i (hi : i < css.length) j, j < k → cur[i * k + j]? = css[i][j]?
  cap : css.length ≤ c
theorem Made.lt {w : World} {g t k c : Nat} {css : List (List Value)} (h : Made w g t k c css) : g < w.heap.size := by
  obtain ⟨cur, h1, _⟩ := h.rest
  exact (Array.getElem?_eq_some_iff.1 h1).1
theorem Made.at {w : World} {g t k c : Nat} {css : List (List Value)} (h : Made w g t k c css) (i : Nat) (hi : i < css.length) (j : Nat) (hj : j < k) : w.cell? ⟨g, i * k + j, none⟩ = css[i][j]? := by
  obtain ⟨cur, h1, _, h2⟩ := h.rest
  rw [cell_of_row w g (i * k + j) cur t (0, 0) h1]; exact h2 i hi j hj
theorem Made.free {w : World} {g t k c : Nat} {css : List (List Value)} (h : Made w g t k c css) (j : Nat) : w.frozen? ⟨g, j, none⟩ = false := by
  obtain ⟨cur, h1, _⟩ := h.rest
  simp [World.frozen?, h1]
theorem Made.later {w w' : World} {g t k c : Nat} {css : List (List Value)} (h : Made w g t k c css) (hb : Below w.heap.size w w') : Made w' g t k c css := by
  have hl := h.lt
  obtain ⟨h0, ⟨cur, h1, h2⟩, h3⟩ := h
  exact ⟨h0, ⟨cur, (hb.block g hl).trans h1, h2⟩, h3⟩
theorem Made.put {w : World} {g t k c : Nat} {css : List (List Value)} (h : Made w g t k c css) (i : Nat) (hi : i < css.length) {cs : List Value} (hc : cs.length = k) : Made (putW w g (i * k) cs) g t k c (css.set i cs) := by
  obtain ⟨h0, ⟨cur, h1, h2, h3⟩, h4⟩ := h
  refine ⟨fun x hx => ?_, ⟨putA cur (i * k) cs, putW_block cs w g (i * k) cur t h1, by rw [putA_size]; exact h2, fun i' hi' j hj => ?_⟩, by simpa using h4⟩
  · rcases List.mem_or_eq_of_mem_set hx with hx | rfl
    · exact h0 x hx
    · exact hc
  · have hi2 : i' < css.length := by simpa using hi'
    have hle : (i + 1) * k ≤ c * k := Nat.mul_le_mul_right _ (by omega)
    rw [Nat.add_mul, Nat.one_mul] at hle
    by_cases e : i = i'
    · subst e
      rw [putA_in cs cur (i * k) j (by omega) (by omega)]
      simp
    · rw [putA_out cs cur (i * k) (i' * k + j) ?_, h3 i' hi2 j hj]
      · rw [List.getElem_set_ne e]
      · rcases Nat.lt_or_gt_of_ne e with h | h
        · right
          have : (i + 1) * k ≤ i' * k := Nat.mul_le_mul_right _ h
          rw [Nat.add_mul, Nat.one_mul] at this
          omega
        · left
          have : (i' + 1) * k ≤ i * k := Nat.mul_le_mul_right _ h
          rw [Nat.add_mul, Nat.one_mul] at this
          omega
/-- a row that is made and whose elements read so -/
theorem Made.row {α : Type} {E : Reader α} {w : World} {g t k c lo n : Nat} {css : List (List Value)} {xs : List α} (h : Made w g t k c css) (hl : css.length = xs.length) (hn : n = xs.length) (hm : xs.length ≤ maxLen) (hlo : lo ≤ g) (hE : ∀ i (hi : i < xs.length), E lo w (css[i]'(by omega)) xs[i]) :
    RowE E k lo w (.slice (some ⟨g, 0, none⟩) n c) xs := by
  refine ⟨_, c, by rw [hn], hm, fun _ => ⟨g, 0, rfl, hlo, h.lt, fun i hi => ⟨css[i]'(by omega), h.len _ (List.getElem_mem _), fun j hj => ?_, hE i hi⟩⟩⟩
  rw [Nat.zero_add]; exact h.at i (by omega) j hj
/-- what stands in a row of n when the first of it are filled -/
def filled (css : List (List Value)) (n : Nat) (z : List Value) : List (List Value) := css ++ List.replicate (n - css.length) z
theorem filled_len {css : List (List Value)} {n : Nat} {z : List Value} (h : css.length ≤ n) : (filled css n z).length = n := by simp [filled]; omega
theorem filled_set {css : List (List Value)} {n : Nat} {z cs : List Value} (h : css.length < n) : (filled css n z).set css.length cs = filled (css ++ [cs]) n z := by
  rw [filled, filled, List.set_append_right _ _ (Nat.le_refl _), Nat.sub_self, List.append_assoc]
  congr 1
  rw [show n - css.length = (n - (css ++ [cs]).length) + 1 by simp; omega, List.replicate_succ, List.set_cons_zero]; rfl
theorem filled_all (css : List (List Value)) (z : List Value) : filled css css.length z = css := by simp [filled]
theorem filled_old {css : List (List Value)} {n i : Nat} {z : List Value} (h : css.length ≤ i) (hi : i < n) : (filled css n z)[i]'(by rw [filled_len (by omega)]; exact hi) = z := by
  simp only [filled]
  rw [List.getElem_append_right h, List.getElem_replicate]
theorem filled_step {α : Type} (f : α → List Value) (xs : List α) (j : Nat) (hj : j < xs.length) (n : Nat) (hn : n = xs.length) (z : List Value) : (filled ((xs.take j).map f) n z).set j (f xs[j]) = filled ((xs.take (j + 1)).map f) n z := by
  have hl : ((xs.take j).map f).length = j := by simp; omega
  have := filled_set (css := (xs.take j).map f) (n := n) (z := z) (cs := f xs[j]) (by omega)
  rw [hl] at this
  rw [this, List.take_add_one, List.getElem?_eq_getElem hj, List.map_append]; rfl
theorem made_plain {α : Type} {f : α → List Value} {w : World} {g t k n lo : Nat} {xs : List α} {z : List Value} (h : Made w g t k n (filled ((xs.take n).map f) n z)) (hn : n = xs.length) (hm : xs.length ≤ maxLen) (hlo : lo ≤ g) : RowE (Plain f) k lo w (.slice (some ⟨g, 0, none⟩) n n) xs := by
  subst hn
  have e : filled ((xs.take xs.length).map f) xs.length z = xs.map f := by
    rw [List.take_length]
    have := filled_all (xs.map f) z
    rw [List.length_map] at this
    exact this
  rw [e] at h
  exact h.row (by simp) rfl hm hlo (fun i hi => by simp [Plain])
theorem made_new {w w1 : World} {t k n : Nat} {z : List Value} (hz : z.length = k) (hk : 0 < k) (h : w1.ownsRow w.heap.size t k (.slice (some ⟨w.heap.size, 0, none⟩) n n) n (madeCells z.toArray (n * k)).toList) : Made w1 w.heap.size t k n (filled [] n z) := by
  have h' := h
  rcases h.2 with ⟨hv, _⟩ | ⟨g, cap, cur, hv, hb, hc, hn, hm, hs, ht⟩
  · cases hv
  · cases hv
    refine ⟨fun cs hcs => ?_, ⟨cur, hc, ?_, fun i hi j hj => ?_⟩, by simp [filled]⟩
    · simp only [filled, List.nil_append, List.mem_replicate] at hcs
      rw [hcs.2]; exact hz
    · exact Nat.le_of_eq hs.symm
    · have hi' : i < n := by simpa [filled] using hi
      have hlt : i * k + j < n * k := by
        have : (i + 1) * k ≤ n * k := Nat.mul_le_mul_right _ hi'
        rw [Nat.add_mul, Nat.one_mul] at this
        omega
      have h2 := World.ownsRow.cellAt h' (i * k + j) (by simpa using hlt)
      rw [cell_of_row w1 w.heap.size (i * k + j) cur t (0, 0) hc] at h2
      rw [h2]
      simp only [filled, List.nil_append, List.getElem_replicate]
      have hmod : (i * k + j) % k = j := by rw [Nat.mul_comm, Nat.mul_add_mod, Nat.mod_eq_of_lt hj]
      have hjz : j < z.length := by omega
      simp [madeCells, hlt, hz, hmod]
      rw [List.getElem?_eq_getElem hjz]; rfl
/-- a block that holds just these cells -/
def Blk (w : World) (B t : Nat) (cs : List Value) : Prop := w.heap[B]? = some (.cells cs.toArray t (0, 0))
theorem Blk.lt {w : World} {B t : Nat} {cs : List Value} (h : Blk w B t cs) : B < w.heap.size := (Array.getElem?_eq_some_iff.1 h).1
theorem Blk.cell {w : World} {B t : Nat} {cs : List Value} (h : Blk w B t cs) (j : Nat) : w.cell? ⟨B, j, none⟩ = cs[j]? := by
  rw [cell_of_row w B j cs.toArray t (0, 0) h]; simp
theorem Blk.free {w : World} {B t : Nat} {cs : List Value} (h : Blk w B t cs) (j : Nat) : w.frozen? ⟨B, j, none⟩ = false := by
  unfold Blk at h
  simp [World.frozen?, h]
theorem Blk.later {w w' : World} {B t : Nat} {cs : List Value} (h : Blk w B t cs) (hb : Below w.heap.size w w') : Blk w' B t cs := (hb.block B h.lt).trans h
theorem Blk.other {w : World} {B t : Nat} {cs : List Value} (h : Blk w B t cs) (vs : List Value) (g b : Nat) (hg : B ≠ g) : Blk (putW w g b vs) B t cs := (putW_other vs w g b B hg).trans h
def putL (cs : List Value) (b : Nat) : List Value → List Value
  | [] => cs
  | v :: vs => putL (cs.set b v) (b + 1) vs
theorem putA_list : ∀ (vs cs : List Value) (b : Nat), putA cs.toArray b vs = (putL cs b vs).toArray
  | [], cs, b => rfl
  | v :: vs, cs, b => by rw [putA, putL, ← putA_list vs]; simp
theorem Blk.put {w : World} {B t : Nat} {cs : List Value} (h : Blk w B t cs) (vs : List Value) (b : Nat) : Blk (putW w B b vs) B t (putL cs b vs) := by
  unfold Blk
  rw [putW_block vs w B b _ t h, putA_list]
theorem blk_new (w : World) (cs : List Value) (t : Nat) : Blk (w.alloc (.cells cs.toArray t)) w.heap.size t cs := (MapKept.heap_alloc w _).1
theorem below_one (w : World) (o : Obj) : Below w.heap.size w (w.alloc o) := (Below.refl _ _).alloc (Nat.le_refl _) _
theorem blk3 (w : World) (c1 c2 c3 : List Value) (t1 t2 t3 : Nat) : Blk (((w.alloc (.cells c1.toArray t1)).alloc (.cells c2.toArray t2)).alloc (.cells c3.toArray t3)) w.heap.size t1 c1 ∧ Blk (((w.alloc (.cells c1.toArray t1)).alloc (.cells c2.toArray t2)).alloc (.cells c3.toArray t3)) (w.heap.size + 1) t2 c2 ∧ Blk (((w.alloc (.cells c1.toArray t1)).alloc (.cells c2.toArray t2)).alloc (.cells c3.toArray t3)) (w.heap.size + 1 + 1) t3 c3 := by
  have h1 := (blk_new w c1 t1).later (below_one _ (.cells c2.toArray t2))
  have h2 := (blk_new (w.alloc (.cells c1.toArray t1)) c2 t2)
  have h3 := blk_new ((w.alloc (.cells c1.toArray t1)).alloc (.cells c2.toArray t2)) c3 t3
  have e1 : (w.alloc (.cells c1.toArray t1)).heap.size = w.heap.size + 1 := by simp
  have e2 : ((w.alloc (.cells c1.toArray t1)).alloc (.cells c2.toArray t2)).heap.size = w.heap.size + 1 + 1 := by simp
  rw [e1] at h2
  rw [e2] at h3
  exact ⟨h1.later (below_one _ _), h2.later (below_one _ _), h3⟩
theorem below3 (w : World) (o1 o2 o3 : Obj) : Below w.heap.size w (((w.alloc o1).alloc o2).alloc o3) := (((Below.refl _ _).alloc (Nat.le_refl _) _).alloc (by simp) _).alloc (by simp; omega) _
theorem size3 (w : World) (o1 o2 o3 : Obj) : (((w.alloc o1).alloc o2).alloc o3).heap.size = w.heap.size + 3 := by simp
theorem blk2 (w : World) (c1 c2 : List Value) (t1 t2 : Nat) : Blk ((w.alloc (.cells c1.toArray t1)).alloc (.cells c2.toArray t2)) w.heap.size t1 c1 ∧ Blk ((w.alloc (.cells c1.toArray t1)).alloc (.cells c2.toArray t2)) (w.heap.size + 1) t2 c2 := by
  have h1 := (blk_new w c1 t1).later (below_one _ (.cells c2.toArray t2))
  have h2 := (blk_new (w.alloc (.cells c1.toArray t1)) c2 t2)
  have e1 : (w.alloc (.cells c1.toArray t1)).heap.size = w.heap.size + 1 := by simp
  rw [e1] at h2
  exact ⟨h1, h2⟩
theorem below2 (w : World) (o1 o2 : Obj) : Below w.heap.size w ((w.alloc o1).alloc o2) := ((Below.refl _ _).alloc (Nat.le_refl _) _).alloc (by simp) _
end Go.Proofs.Ytnkkkdhpopfahaa.deep
