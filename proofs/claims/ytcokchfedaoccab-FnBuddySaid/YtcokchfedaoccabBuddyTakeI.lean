/-
  The walks of the program's BuddyTake and BuddyNew at every argument.
-/
import Derived.Test.YtcokchfedaoccabBuddyAns
import Derived.Test.YtcokchfedaoccabBuddyRightJ
import Derived.Test.YtcokchfedaoccabBuddyFirst
import Derived.Test.YtcokchfedaoccabBuddyLeast
import Derived.Test.YtcokchfedaoccabBuddyCut
import Derived.Test.YtcokchfedaoccabBuddyOut
namespace Go.Proofs.Ytcokchfedaoccab.btop
open Go.RowKit Go.Deep Go.Maps Go.Sort
open Go.Proofs.Ytcokchfedaoccab
open Go.Proofs.Ytcokchfedaoccab.brows
open Go.Proofs.Ytcokchfedaoccab.bspec
open Go.Proofs.Ytcokchfedaoccab.bimpl
open Go.Proofs.Ytcokchfedaoccab.bpool
open Go.Proofs.Ytcokchfedaoccab.bd (Blk)
set_option linter.unusedVariables false

/-- the block of the least order that fits, first of its order, is the best one -/
theorem best_of {l pre r : List Blk} {x : Blk} {k q : Nat} (hl : l = pre ++ x :: r) (hle : Least l k q) (hno : NoOrd (q : Int) pre) (hx : x.2 = q) : Best (l.map emb) k l.length (pre.length : Nat) := by
  have hm : ∀ j (y : Pr), (l.map emb)[j]? = some y → ∃ z, l[j]? = some z ∧ y = emb z := fun j y h => by
    rw [List.getElem?_map] at h
    cases hz : l[j]? with
    | none => rw [hz] at h; cases h
    | some z => rw [hz] at h; exact ⟨z, hz, (Option.some.inj h).symm⟩
  have hxl : l[pre.length]? = some x := by rw [hl]; simp
  refine Or.inr ⟨pre.length, emb x, by rw [hl]; simp, rfl, by rw [List.getElem?_map, hxl]; rfl, ?_, fun j y _ hy hky => ?_⟩
  · show (k : Int) ≤ ((x.2 : Nat) : Int)
    have := hle.1; omega
  · obtain ⟨z, hz, rfl⟩ := hm j y hy
    have hzl : z ∈ l := List.mem_of_getElem? hz
    have hkz : k ≤ z.2 := by simp only [emb] at hky; omega
    have h1 := hle.2.1 z hzl hkz
    refine ⟨by simp only [emb]; omega, fun hj => ?_⟩
    have hzp : z ∈ pre := by
      rw [hl, List.getElem?_append_left hj] at hz
      exact List.mem_of_getElem? hz
    have := hno z hzp
    simp only [emb]
    omega
theorem best_none {l : List Blk} {k q : Nat} (hle : Least l k q) (hno : NoOrd (q : Int) l) : Best (l.map emb) k l.length (-1) := by
  refine Or.inl ⟨rfl, fun j y _ hy => ?_⟩
  rw [List.getElem?_map] at hy
  cases hz : l[j]? with
  | none => rw [hz] at hy; cases hy
  | some z =>
    rw [hz] at hy
    have e : y = emb z := (Option.some.inj hy).symm
    subst e
    have hzl : z ∈ l := List.mem_of_getElem? hz
    rcases hle.2.2 with ⟨u, hu, hq⟩ | ⟨_, h⟩
    · exact absurd (by rw [hq]) (hno u hu)
    · have := h z hzl
      simp only [emb]; omega
theorem keep_two {w : World} {P : Nat} {a b : Value} (o : Obj) (h : w.cell? ⟨P, 0, none⟩ = some a ∧ w.cell? ⟨P, 1, none⟩ = some b) : (w.alloc o).cell? ⟨P, 0, none⟩ = some a ∧ (w.alloc o).cell? ⟨P, 1, none⟩ = some b :=
  ⟨(World.grownBy_alloc w o none).cell h.1 (by simp), (World.grownBy_alloc w o none).cell h.2 (by simp)⟩
theorem pbox_below {w w' : World} {P : Nat} {n : Int} {b : Nat} (h : PBox w P n b) (hb : Below w.heap.size w w') : PBox w' P n b := (hb.block P h.lt).trans h
theorem below_tr {w a b : World} (h : Below w.heap.size w a) (k : Below a.heap.size a b) : Below w.heap.size w b := h.trans (k.mono h.size)
theorem below_one (w : World) (o : Obj) : Below w.heap.size w (w.alloc o) := (Below.refl _ _).alloc (Nat.le_refl _) _
theorem pbox_one (w : World) (n : Int) (b : Nat) : PBox (w.alloc (.cells #[.int .i64 n, .map (some b)] 60)) w.heap.size n b := (MapKept.heap_alloc w _).1

/-- what stands while the least order is asked for -/
abbrev SP (P n b : Nat) (V W : World) : Prop := W.cell? ⟨P, 0, none⟩ = some (.int .i64 n) ∧ W.cell? ⟨P, 1, none⟩ = some (.map (some b)) ∧ Below V.heap.size V W
theorem sp_later {P n b : Nat} {V W W' : World} (hb : Below W.heap.size W W') (h : W.cell? ⟨P, 0, none⟩ = some (.int .i64 n) ∧ W.cell? ⟨P, 1, none⟩ = some (.map (some b)) ∧ Below V.heap.size V W) :
    W'.cell? ⟨P, 0, none⟩ = some (.int .i64 n) ∧ W'.cell? ⟨P, 1, none⟩ = some (.map (some b)) ∧ Below V.heap.size V W' :=
  ⟨(hb.cell (p := ⟨P, 0, none⟩) (cell_lt h.1)).trans h.1, (hb.cell (p := ⟨P, 1, none⟩) (cell_lt h.2.1)).trans h.2.1, below_tr h.2.2 hb⟩
theorem sp_alloc {P n b : Nat} {V W : World} (o : Obj) (h : W.cell? ⟨P, 0, none⟩ = some (.int .i64 n) ∧ W.cell? ⟨P, 1, none⟩ = some (.map (some b)) ∧ Below V.heap.size V W) :
    (W.alloc o).cell? ⟨P, 0, none⟩ = some (.int .i64 n) ∧ (W.alloc o).cell? ⟨P, 1, none⟩ = some (.map (some b)) ∧ Below V.heap.size V (W.alloc o) := sp_later (below_one W o) h
theorem sp_set {P n b X i j : Nat} {V W : World} {x y : Value} (_ : True) (hP : P < V.heap.size) (hX : V.heap.size ≤ X) (h : W.cell? ⟨P, 0, none⟩ = some (.int .i64 n) ∧ W.cell? ⟨P, 1, none⟩ = some (.map (some b)) ∧ Below V.heap.size V W) :
    ((W.setCell ⟨X, i, none⟩ x).setCell ⟨X, j, none⟩ y).cell? ⟨P, 0, none⟩ = some (.int .i64 n) ∧ ((W.setCell ⟨X, i, none⟩ x).setCell ⟨X, j, none⟩ y).cell? ⟨P, 1, none⟩ = some (.map (some b)) ∧ Below V.heap.size V ((W.setCell ⟨X, i, none⟩ x).setCell ⟨X, j, none⟩ y) := by
  have hne : P ≠ X := by omega
  refine ⟨?_, ?_, (h.2.2.setCell hX _).setCell hX _⟩
  · rw [cell_far (by simpa using hne), cell_far (by simpa using hne)]; exact h.1
  · rw [cell_far (by simpa using hne), cell_far (by simpa using hne)]; exact h.2.1
theorem one_blx {W w4 : World} (hb : Below (W.alloc (.cells #[.int .i64 0, .int .i64 0] 68)).heap.size (W.alloc (.cells #[.int .i64 0, .int .i64 0] 68)) w4) : Blx w4 W.heap.size 0 0 :=
  (hb.block _ (by simp)).trans (blx_new W 0 0)
theorem carry_blx {W w5 : World} {X : Nat} {a b : Int} (hb : Below W.heap.size W w5) (h : Blx W X a b) : Blx w5 X a b := (hb.block _ h.lt).trans h
theorem carry_cell {W W' : World} (hb : Below W.heap.size W W') : ∀ B i, B < W.heap.size → W'.cell? ⟨B, i, none⟩ = W.cell? ⟨B, i, none⟩ := fun B i h => hb.cell (p := ⟨B, i, none⟩) h
theorem carry_frozen {W W' : World} (hb : Below W.heap.size W W') : ∀ B i, B < W.heap.size → W'.frozen? ⟨B, i, none⟩ = W.frozen? ⟨B, i, none⟩ := fun B i h => hb.frozen (p := ⟨B, i, none⟩) h
theorem three_later {w w' : World} {P X : Nat} {a b c : Value} (hb : Below w.heap.size w w') (h0 : w.cell? ⟨P, 0, none⟩ = some a) (h1 : w.cell? ⟨P, 1, none⟩ = some b) (h2 : w.cell? ⟨X, 0, none⟩ = some c) :
    w'.cell? ⟨P, 0, none⟩ = some a ∧ w'.cell? ⟨P, 1, none⟩ = some b ∧ w'.cell? ⟨X, 0, none⟩ = some c :=
  ⟨(hb.cell (p := ⟨P, 0, none⟩) (cell_lt h0)).trans h0, (hb.cell (p := ⟨P, 1, none⟩) (cell_lt h1)).trans h1, (hb.cell (p := ⟨X, 0, none⟩) (cell_lt h2)).trans h2⟩
theorem three_far {w : World} {P X R : Nat} {a b c y0 y1 y2 y3 : Value} (hP : P ≠ R) (hX : X ≠ R) (h : w.cell? ⟨P, 0, none⟩ = some a ∧ w.cell? ⟨P, 1, none⟩ = some b ∧ w.cell? ⟨X, 0, none⟩ = some c) :
    ((((w.setCell ⟨R, 0, none⟩ y0).setCell ⟨R, 1, none⟩ y1).setCell ⟨R, 2, none⟩ y2).setCell ⟨R, 3, none⟩ y3).cell? ⟨P, 0, none⟩ = some a ∧ ((((w.setCell ⟨R, 0, none⟩ y0).setCell ⟨R, 1, none⟩ y1).setCell ⟨R, 2, none⟩ y2).setCell ⟨R, 3, none⟩ y3).cell? ⟨P, 1, none⟩ = some b ∧ ((((w.setCell ⟨R, 0, none⟩ y0).setCell ⟨R, 1, none⟩ y1).setCell ⟨R, 2, none⟩ y2).setCell ⟨R, 3, none⟩ y3).cell? ⟨X, 0, none⟩ = some c := by
  refine ⟨?_, ?_, ?_⟩
  · rw [cell_far (by simpa using hP), cell_far (by simpa using hP), cell_far (by simpa using hP), cell_far (by simpa using hP)]; exact h.1
  · rw [cell_far (by simpa using hP), cell_far (by simpa using hP), cell_far (by simpa using hP), cell_far (by simpa using hP)]; exact h.2.1
  · rw [cell_far (by simpa using hX), cell_far (by simpa using hX), cell_far (by simpa using hX), cell_far (by simpa using hX)]; exact h.2.2
/-- what first tells, at one stroke -/
def Found1 (l : List Blk) (q : Nat) (p1 q1 : Int) (m1 : Bool) : Prop :=
  (m1 = false ∧ NoOrd (q : Int) l) ∨ ∃ (pre : List Blk) (x : Blk) (r : List Blk), m1 = true ∧ p1 = (x.1 : Int) ∧ q1 = (x.2 : Int) ∧ l = pre ++ x :: r ∧ NoOrd (q : Int) pre ∧ x.2 = q
theorem first_told {l : List Blk} {q : Nat} {w w' : World} {e : Ending} (h : FirstPost l (q : Int) w e w') : ∃ (p1 q1 : Int) (m1 : Bool), e = .returned (.tuple #[.agg #[.int .i64 p1, .int .i64 q1], .bool m1]) ∧ Found1 l q p1 q1 m1 ∧ Below w.heap.size w w' := by
  rcases h with ⟨h1, rfl, hb⟩ | ⟨pre, x, r, h1, h2, h3, rfl, hb⟩
  · exact ⟨0, 0, false, rfl, Or.inl ⟨rfl, h1⟩, hb⟩
  · exact ⟨x.1, x.2, true, rfl, Or.inr ⟨pre, x, r, rfl, rfl, rfl, h1, h2, by omega⟩, hb⟩

set_option maxRecDepth 100000 in
set_option maxHeartbeats 4000000 in
theorem impl_take (m o : Int) (v : Value) (xs : List Pr) (w : World) (hrd : Rd w v xs) (hlm : xs.length ≤ 1000000000) :
    Calls Try.prog 11 #[.agg #[.int .i64 m, v], .int .i64 o] w (Owns (TakeAns m xs o) w) := by
  have HRD : Hid (Rd w v xs) := hrd
  have HRT : Hid (∀ W, Below w.heap.size w W → _) := fun W hW => impl_right m v xs W (HRD.out.below hW) hlm
  have HOR : Hid (∀ W, _) := fun W => impl_order o W
  obtain ⟨a, c, hv, _⟩ := hrd.form
  clear hrd
  have HB0 : Hid (∀ o1 o2 : Obj, Below w.heap.size w ((w.alloc o1).alloc o2)) := fun o1 o2 => ((Below.refl _ _).alloc (Nat.le_refl _) _).alloc (by simp) _
  have HR0 : Hid (Res ((w.alloc (.cells #[.int .i64 m, v] 29)).alloc (.cells #[.int .i64 0, .slice none 0 0, .int .i64 0, .int .i64 0] 37)) (w.heap.size + 1) (.int .i64 0) (.slice none 0 0) (.int .i64 0) (.int .i64 0)) := res_new w _
  have HX0 : Hid (Box ((w.alloc (.cells #[.int .i64 m, v] 29)).alloc (.cells #[.int .i64 0, .slice none 0 0, .int .i64 0, .int .i64 0] 37)) w.heap.size m v) := box_new w m v _
  generalize hL : xs.length = L at hv
  subst hv
  cases hr : rightB m xs with
  | false =>
    rw [hr] at HRT
    have HA : Hid (TakeAns m xs o (illA 1)) := Or.inl ⟨Or.inl (fun h => by rw [rightB_yes h] at hr; cases hr), rfl⟩
    go_enter Try.func11, Try.ntmps11
    go_wp2_with fail
    refine Calls.mono (HRT.out _ (HB0.out _ _)) ?_
    rintro e w1 ⟨rfl, hb1⟩
    have HB1 : Hid (Below w.heap.size w w1) := below_tr (HB0.out _ _) hb1
    have HR1 : Hid (Res w1 (w.heap.size + 1) (.int .i64 0) (.slice none 0 0) (.int .i64 0) (.int .i64 0)) := HR0.out.below hb1 HR0.out.lt
    obtain ⟨⟨r0, r1, r2, r3⟩, q0, q1, q2, q3⟩ := HR1.out.cells
    clear hb1 HR0 HX0
    go_wp2_with fail
    exact bodyPost_ret (v := illV 1) (by simp [results, Try.results11, go_sem, illV, r0, r1, r2, r3]) rfl (owns_ill HA.out (four_end HB1.out (by omega)))
  | true =>
    rw [hr] at HRT
    cases ho : ordB o with
    | false =>
      rw [ho] at HOR
      have HA : Hid (TakeAns m xs o (illA 1)) := Or.inl ⟨Or.inr ho, rfl⟩
      go_enter Try.func11, Try.ntmps11
      go_wp2_with fail
      refine Calls.mono (HRT.out _ (HB0.out _ _)) ?_
      rintro e w1 ⟨rfl, hb1⟩
      have HB1 : Hid (Below w.heap.size w w1) := below_tr (HB0.out _ _) hb1
      have HR1 : Hid (Res w1 (w.heap.size + 1) (.int .i64 0) (.slice none 0 0) (.int .i64 0) (.int .i64 0)) := HR0.out.below hb1 HR0.out.lt
      obtain ⟨⟨r0, r1, r2, r3⟩, q0, q1, q2, q3⟩ := HR1.out.cells
      clear hb1 HR0 HX0
      go_wp2_with (first | (go_at_call 32; refine Calls.mono (HOR.out _) ?_; rintro e w2 ⟨rfl, rfl⟩))
      exact bodyPost_ret (v := illV 1) (by simp [results, Try.results11, go_sem, illV, r0, r1, r2, r3]) rfl (owns_ill HA.out (four_end HB1.out (by omega)))
    | true =>
      rw [ho] at HOR
      obtain ⟨k, hk, rfl⟩ := ord_nat ho
      obtain ⟨n, l, rfl, rfl, hrt⟩ := rightB_iff.1 hr
      have HRI : Hid (bd.Right n l) := hrt
      have hn5 := hrt.ord
      have H5 : Hid (∀ y ∈ l, y.1 < 64 ∧ y.2 ≤ 5) := fun y hy => ⟨by have := (hrt.inn y hy).lt; have := bd.pow_le32 hn5; omega, by have := (hrt.inn y hy).ord; omega⟩
      have HPO : Hid (∀ W, Below w.heap.size w W → Calls Try.prog 33 #[.agg #[.int .i64 n, .slice a L c]] W (PoolPost n l W)) := fun W hW => impl_poolOf n _ l hrt W (HRD.out.below hW)
      clear hr ho hrt
      go_enter Try.func11, Try.ntmps11
      go_wp2_with fail
      refine Calls.mono (HRT.out _ (HB0.out _ _)) ?_
      rintro e w1 ⟨rfl, hb1⟩
      have HB1 : Hid (Below w.heap.size w w1) := below_tr (HB0.out _ _) hb1
      have HR1 : Hid (Res w1 (w.heap.size + 1) (.int .i64 0) (.slice none 0 0) (.int .i64 0) (.int .i64 0)) := HR0.out.below hb1 HR0.out.lt
      have HX1 : Hid (Box w1 w.heap.size n (.slice a L c)) := (hb1.block _ HX0.out.lt).trans HX0.out
      obtain ⟨b0, b1, _, _⟩ := HX1.out.cells
      clear hb1 HR0 HX0
      go_wp2_with (first | (go_at_call 32; refine Calls.mono (HOR.out _) ?_; rintro e w2 ⟨rfl, rfl⟩))
      refine Calls.mono (HPO.out _ HB1.out) ?_
      rintro e w2 ⟨b, rfl, hbw, hp2, hb2⟩
      have HB2 : Hid (Below w.heap.size w w2) := below_tr HB1.out hb2
      have HR2 : Hid (Res w2 (w.heap.size + 1) (.int .i64 0) (.slice none 0 0) (.int .i64 0) (.int .i64 0)) := HR1.out.below hb2 HR1.out.lt
      have HP2 : Hid (Pool w2 b 32 l) := hp2
      have hs2 := HR2.out.lt
      have hbs : w.heap.size ≤ b := Nat.le_trans HB1.out.size hbw
      have hbl := hp2.lt
      have hbR : b ≠ w.heap.size + 1 := by have := HR1.out.lt; omega
      clear hb2 hp2 HX1 b0 b1 HR1 hbw
      have HPB : Hid (PBox (w2.alloc (.cells #[.int .i64 n, .map (some b)] 60)) w2.heap.size n b) := pbox_one w2 n b
      have HP3 : Hid (Pool (w2.alloc (.cells #[.int .i64 n, .map (some b)] 60)) b 32 l) := HP2.out.kept (World.grownBy_alloc _ _ none) (by simp)
      have HR3 : Hid (Res (w2.alloc (.cells #[.int .i64 n, .map (some b)] 60)) (w.heap.size + 1) (.int .i64 0) (.slice none 0 0) (.int .i64 0) (.int .i64 0)) := HR2.out.below (below_one _ _) HR2.out.lt
      have HB3 : Hid (Below w.heap.size w (w2.alloc (.cells #[.int .i64 n, .map (some b)] 60))) := below_tr HB2.out (below_one _ _)
      go_wp2_with fail
      obtain ⟨V, hV⟩ : ∃ V, V = w2.alloc (.cells #[.int .i64 n, .map (some b)] 60) := ⟨_, rfl⟩
      rw [← hV] at HPB HP3 HR3 HB3
      rw [← hV]
      obtain ⟨p0, p1⟩ := HPB.out.cells
      have HLE : Hid (∀ W, Pool W b 32 l → Calls Try.prog 34 #[.agg #[.int .i64 n, .map (some b)], .int .i64 k] W fun e w' => ∃ r : Nat, e = .returned (.int .i64 r) ∧ Least l k r ∧ r ≤ 13 ∧ Below W.heap.size W w') := fun W hW => impl_least n b 32 l H5.out k hk W hW
      have HFI : Hid (∀ (q : Nat) W, Pool W b 32 l → Calls Try.prog 39 #[.agg #[.int .i64 n, .map (some b)], .int .i64 q] W (FirstPost l q W)) := fun q W hW => impl_first n b 32 l HRI.out q W hW
      have HFX : Hid (∀ (q : Nat) (w : World) e w', FirstPost l q w e w' → ∃ (p1 q1 : Int) (m1 : Bool), e = .returned (.tuple #[.agg #[.int .i64 p1, .int .i64 q1], .bool m1]) ∧ Found1 l q p1 q1 m1 ∧ Below w.heap.size w w') := fun q w e w' h => first_told h
      clear hV HRT HPO HOR HB0 HP2 HR2 HB2
      have HPS : Hid (∀ W, SP w2.heap.size n b V W → Pool W b 32 l) := fun W hW => HP3.out.below hW.2.2 HP3.out.lt
      have hPV := HPB.out.lt
      go_cut [6, 7] from 8 (fun t6 t7 W => ∃ (X q : Nat) (fa fo : Int) (fm : Bool), t6 = .pointer (some ⟨X, 0, none⟩) ∧ t7 = .bool fm ∧ V.heap.size ≤ X ∧ Hid (Least l k q) ∧ Hid (Found1 l q fa fo fm) ∧ Hid (Blx W X fa fo) ∧ Hid (Below V.heap.size V W))
      case first => as_aux_lemma =>
        go_region_held3 (fun W => W.cell? ⟨w2.heap.size, 0, none⟩ = some (.int .i64 n) ∧ W.cell? ⟨w2.heap.size, 1, none⟩ = some (.map (some b)) ∧ Below V.heap.size V W)
          (first | assumption | exact ⟨p0, p1, Below.refl _ _⟩ | exact ⟨p0, p1, Below.drew (Below.refl _ _)⟩ | exact sp_later hb (by assumption) | exact sp_later hb5 (by assumption) | exact sp_alloc _ (by assumption) | exact sp_alloc _ Z5 | exact sp_set trivial hPV (Nat.le_refl _) Z5 | exact sp_set trivial hPV hs4 Z5 | exact sp_set trivial hPV hs5 Z5)
          (first | (go_at_call 34; refine Calls.mono (HLE.out _ (HPS.out _ (by assumption))) ?_; rintro e w4 ⟨q, rfl, hle, _, hb⟩; have HLQ : Hid (Least l k q) := hle; have hs4 : V.heap.size ≤ w4.heap.size := (sp_later (P := w2.heap.size) (n := n) (b := b) (V := V) hb (by assumption)).2.2.size; first | (have y : Hid (Blx w4 V.heap.size 0 0) := one_blx (W := V.drew) hb) | (have y := trivial); clear hle) | (go_at_call 39; refine Calls.mono (HFI.out _ _ (HPS.out _ (by assumption))) ?_; intro e w5 hf; obtain ⟨fa, fo, fm, rfl, hfo, hb5⟩ := HFX.out _ _ _ _ hf; have Z5 := sp_later (P := w2.heap.size) (n := n) (b := b) (V := V) hb5 (by assumption); have HFO : Hid (Found1 l q fa fo fm) := hfo; have hs5 : V.heap.size ≤ w5.heap.size := Z5.2.2.size; first | (have HZ : Hid (Blx w5 w4.heap.size 0 0) := one_blx (W := w4) hb5; obtain ⟨z0, z1, zf0, zf1⟩ := HZ.out.cells) | (have HZ : Hid (Blx w5 V.heap.size 0 0) := carry_blx hb5 y.out; obtain ⟨z0, z1, zf0, zf1⟩ := HZ.out.cells) | skip; clear hf hfo))
        all_goals (go_wp2_with fail; go_meet; (case rel => first | exact ⟨w5.heap.size, q, fa, fo, fm, rfl, rfl, hs5, HLQ.out, HFO.out, blx_new w5 fa fo, (sp_alloc _ Z5).2.2⟩ | exact ⟨w4.heap.size, q, fa, fo, fm, rfl, rfl, hs4, HLQ.out, HFO.out, blx_set HZ.out, (sp_set trivial hPV hs4 Z5).2.2⟩ | exact ⟨V.heap.size, q, fa, fo, fm, rfl, rfl, Nat.le_refl _, HLQ.out, HFO.out, blx_set HZ.out, (sp_set trivial hPV (Nat.le_refl _) Z5).2.2⟩))
      case rest =>
        obtain ⟨X, q, fa, fo, fm, rfl, rfl, hX, HLQ, HFO, HXB, HBC⟩ := hcut
        have HBW : Hid (Below w.heap.size w wc) := below_tr HB3.out HBC.out
        have HRC : Hid (Res wc (w.heap.size + 1) (.int .i64 0) (.slice none 0 0) (.int .i64 0) (.int .i64 0)) := HR3.out.below HBC.out HR3.out.lt
        obtain ⟨⟨r0, r1, r2, r3⟩, q0, q1, q2, q3⟩ := HRC.out.cells
        have HPC : Hid (Pool wc b 32 l) := HP3.out.below HBC.out HP3.out.lt
        have HPX : Hid (PBox wc w2.heap.size n b) := pbox_below HPB.out HBC.out
        clear HLE HFI HFX HPS HP3 HR3 HB3 p0 p1
        rcases HFO.out with ⟨rfl, hno⟩ | ⟨pre, x, r, rfl, rfl, rfl, hl, hno, hxq⟩
        · have HA : Hid (TakeAns n (l.map emb) k (illA 9)) := Or.inr ⟨n, k, l, rfl, rfl, hk, rfl, HRI.out, Or.inl ⟨best_none HLQ.out hno, rfl⟩⟩
          clear hno HFO
          go_wp2_with fail
          exact bodyPost_ret (v := illV 9) (by simp [results, Try.results11, go_sem, illV, r0, r1, r2, r3]) rfl (owns_ill HA.out (four_end HBW.out (by omega)))
        · have HBE : Hid (Best (l.map emb) k l.length (pre.length : Nat)) := best_of hl HLQ.out hno hxq
          have HXI : Hid (l[pre.length]? = some x) := by rw [Hid, hl]; simp
          have hxl : x ∈ l := by rw [hl]; simp
          have hkx : k ≤ x.2 := by have := HLQ.out.1; omega
          have HCUT : Hid (∀ W, Pool W b 32 l → Calls Try.prog 40 #[.agg #[.int .i64 n, .map (some b)], .agg #[.int .i64 x.1, .int .i64 x.2], .int .i64 k] W (CutPost n b 32 x.1 k l W)) := fun W hW => impl_cut n b 32 l HRI.out x.1 x.2 k hxl hkx (by omega) W hW
          obtain ⟨x0, x1, gx0, gx1⟩ := HXB.out.cells
          obtain ⟨b0, b1⟩ := HPX.out.cells
          clear hno HFO hl hxl hkx hxq
          go_wp2_with fail
          refine Calls.mono (HCUT.out _ HPC.out) ?_
          rintro e w6 ⟨l', rfl, ht, hp6, hg6⟩
          have HTK : Hid (bd.Taken n l (x.1, k) l') := ht
          have HP6 : Hid (Pool w6 b 38 l') := hp6
          have hXl := HXB.out.lt
          have HX6 : Hid (Blx w6 X x.1 x.2) := Blx.grown HXB.out hg6 (by simp; omega)
          have HB6 : Hid (PBox w6 w2.heap.size n b) := PBox.grown HPX.out hg6 (by simp; omega)
          have HR6 : Hid (Res w6 (w.heap.size + 1) (.int .i64 0) (.slice none 0 0) (.int .i64 0) (.int .i64 0)) := HRC.out.grown hg6 (by omega)
          have HW6 : Hid (Below w.heap.size w w6) := HBW.out.grown hg6 HBW.out.size (fun j hj => by cases hj; exact hbs)
          have hs6 := hg6.size
          clear ht hp6 hg6 HCUT x0 x1 gx0 gx1 b0 b1 r0 r1 r2 r3 q0 q1 q2 q3
          go_wp2_with fail
          have HBU : Hid (∀ W, Pool W b 38 l' → Calls Try.prog 41 #[.agg #[.int .i64 n, .map (some b)]] W (BuddyPost n l' W)) := fun W hW => impl_buddy n b 38 l' HTK.out.1.right W hW
          obtain ⟨x0, x1, gx0, gx1⟩ := HX6.out.cells
          obtain ⟨b0, b1⟩ := HB6.out.cells
          have hXR : X ≠ w.heap.size + 1 := by omega
          have hPR : w2.heap.size ≠ w.heap.size + 1 := by omega
          go_region_held3 (fun W => W.cell? ⟨w2.heap.size, 0, none⟩ = some (.int .i64 n) ∧ W.cell? ⟨w2.heap.size, 1, none⟩ = some (.map (some b)) ∧ W.cell? ⟨X, 0, none⟩ = some (.int .i64 x.1))
            (first | assumption | exact ⟨b0, b1, x0⟩ | exact three_later HB7.out b0 b1 x0 | exact three_far hPR hXR (three_later HB7.out b0 b1 x0))
            (first | (go_at_call 41; refine Calls.mono (HBU.out _ (HP6.out.block rfl)) ?_; rintro e w7 ⟨v7, rfl, hr7, hb7⟩; have HB7 : Hid (Below w6.heap.size w6 w7) := Below.trans (Below.drew (Below.refl w6.heap.size w6)) hb7; have HROW : Hid (Row w7 w6.heap.size v7 (l'.map emb)) := hr7; have HR7 : Hid (Res w7 (w.heap.size + 1) (.int .i64 0) (.slice none 0 0) (.int .i64 0) (.int .i64 0)) := HR6.out.below HB7.out HR6.out.lt; obtain ⟨⟨r0, r1, r2, r3⟩, q0, q1, q2, q3⟩ := HR7.out.cells; obtain ⟨va, vc, hv7, _⟩ := hr7.rd.form; generalize (l'.map emb).length = L7 at hv7; subst hv7; clear hr7 hb7))
          have HA : Hid (TakeAns n (l.map emb) k ((n : Int), l'.map emb, (x.1 : Int), 0)) := Or.inr ⟨n, k, l, rfl, rfl, hk, rfl, HRI.out, Or.inr ⟨pre.length, x, l', HBE.out, HXI.out, HTK.out, rfl⟩⟩
          have HEND : Hid (∀ y0 y1 y2 y3, Row ((((w7.setCell ⟨w.heap.size + 1, 0, none⟩ y0).setCell ⟨w.heap.size + 1, 1, none⟩ y1).setCell ⟨w.heap.size + 1, 2, none⟩ y2).setCell ⟨w.heap.size + 1, 3, none⟩ y3) w.heap.size (.slice va L7 vc) (l'.map emb)) := fun y0 y1 y2 y3 =>
            Row.down (Row.move HROW.out fun g hg _ _ => by rw [Below.heap_setCell _ _ _ _ (by show g ≠ w.heap.size + 1; omega), Below.heap_setCell _ _ _ _ (by show g ≠ w.heap.size + 1; omega), Below.heap_setCell _ _ _ _ (by show g ≠ w.heap.size + 1; omega), Below.heap_setCell _ _ _ _ (by show g ≠ w.heap.size + 1; omega)]) (by omega)
          go_wp2_with fail
          exact bodyPost_ret (v := .agg #[.int .i64 n, .slice va L7 vc, .int .i64 x.1, .int .i64 0]) (by simp [results, Try.results11, go_sem, r0, r1, r2, r3]) rfl ⟨_, _, HA.out, rfl, HEND.out _ _ _ _, four_end (below_tr HW6.out HB7.out) (by omega)⟩
end Go.Proofs.Ytcokchfedaoccab.btop
