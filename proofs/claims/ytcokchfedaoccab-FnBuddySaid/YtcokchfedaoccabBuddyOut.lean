/-
  The walk of the program's buddy: the map's blocks as a rising row.
-/
import Derived.Test.YtcokchfedaoccabBuddyFirst
import Derived.Test.YtcokchfedaoccabBuddyPages
namespace Go.Proofs.Ytcokchfedaoccab.bpool
open Go.RowKit Go.Deep Go.Maps Go.Sort
open Go.Proofs.Ytcokchfedaoccab
open Go.Proofs.Ytcokchfedaoccab.brows
open Go.Proofs.Ytcokchfedaoccab.bspec
open Go.Proofs.Ytcokchfedaoccab.bimpl
open Go.Proofs.Ytcokchfedaoccab.bd (Blk)
set_option linter.unusedVariables false

/-- what buddy leaves -/
def BuddyPost (n : Nat) (l : List Blk) (w : World) (e : Ending) (w' : World) : Prop :=
  ∃ v, e = .returned (.agg #[.int .i64 n, v]) ∧ Row w' w.heap.size v (l.map emb) ∧ Below w.heap.size w w'

/-- nothing below base has turned but blocks A and C -/
structure Kept (A C base : Nat) (w w' : World) : Prop where
  os : w'.os = w.os
  tape : w'.tape = w.tape
  output : w'.output = w.output
  size : w.heap.size ≤ w'.heap.size
  block : ∀ k, k < base → k ≠ A → k ≠ C → w'.heap[k]? = w.heap[k]?
theorem Kept.refl (A C base : Nat) (w : World) : Kept A C base w w := ⟨rfl, rfl, rfl, Nat.le_refl _, fun _ _ _ _ => rfl⟩
theorem Kept.grown {A C base : Nat} {w w1 w' : World} {row : Option Nat} (h : Kept A C base w w1) (hb : base ≤ w.heap.size) (hg : w1.grownBy w' row) (hr : ∀ k, row = some k → k = A ∨ k = C ∨ base ≤ k) : Kept A C base w w' :=
  ⟨hg.os.trans h.os, hg.tape.trans h.tape, hg.output.trans h.output, Nat.le_trans h.size hg.size, fun k hk h1 h2 => (hg.block k (Nat.lt_of_lt_of_le hk (Nat.le_trans hb h.size)) (fun e => by
    rcases hr k e.symm with e | e | e
    · exact h1 e
    · exact h2 e
    · omega)).trans (h.block k hk h1 h2)⟩
theorem Kept.set {A C base : Nat} {w w1 : World} (h : Kept A C base w w1) {X i : Nat} {u : Value} (hX : X = A ∨ X = C ∨ base ≤ X) : Kept A C base w (w1.setCell ⟨X, i, none⟩ u) :=
  ⟨h.os, h.tape, h.output, by simp; exact h.size, fun k hk h1 h2 => (Below.heap_setCell w1 _ u k (by show k ≠ X; omega)).trans (h.block k hk h1 h2)⟩
theorem Kept.below {A C base B : Nat} {w w' : World} (h : Kept A C base w w') (hB : B ≤ base) (hA : B ≤ A) (hC : B ≤ C) : Below B w w' := ⟨h.os, h.tape, h.output, h.size, fun k hk => h.block k (by omega) (by omega) (by omega)⟩
theorem Kept.boxes {A C base n b N B R : Nat} {l : List Blk} {w w' : World} (h : Kept A C base w w') (hx : Boxes n b N A B R l w) (hb : base = w.heap.size) (hbC : b ≠ C) (hBC : B ≠ C) : Boxes n b N A B R l w' := by
  have hp := hx.pool.lt
  have hB := cell_lt hx.b0
  have e1 := h.block b (by omega) hx.hbA hbC
  have e2 := h.block B (by simp only at hB; omega) hx.hBA hBC
  exact ⟨hx.pool.block e1, (World.cell?_of_block (a := ⟨B, 0, none⟩) e2).trans hx.b0, (World.cell?_of_block (a := ⟨B, 1, none⟩) e2).trans hx.b1, hx.hbA, hx.hBA, Nat.lt_of_lt_of_le hx.hA h.size⟩
theorem Row.move {w w' : World} {base : Nat} {v : Value} {xs : List Pr} (h : Row w base v xs) (hk : ∀ g, base ≤ g → g < w.heap.size → v.ownBlock = some g → w'.heap[g]? = w.heap[g]?) : Row w' base v xs := by
  obtain ⟨hl, hr⟩ := h
  refine ⟨hl, ?_⟩
  rcases hr with h0 | ⟨g, cap, cur, hv, hbg, hc, hrest⟩
  · exact Or.inl h0
  · exact Or.inr ⟨g, cap, cur, hv, hbg, (hk g hbg (Array.getElem?_eq_some_iff.1 hc).1 (by rw [hv]; rfl)).trans hc, hrest⟩
theorem Row.nil (w : World) (base : Nat) : Row w base (.slice none 0 0) [] := ⟨by simp [cellsB], Or.inl ⟨rfl, rfl⟩⟩
theorem Row.down {w : World} {b b' : Nat} {v : Value} {xs : List Pr} (h : Row w b' v xs) (hb : b ≤ b') : Row w b v xs := own_mono h hb
theorem own_lt {w : World} {base : Nat} {v : Value} {xs : List Pr} (h : Row w base v xs) {g : Nat} (hg : v.ownBlock = some g) : g < w.heap.size := by
  rcases h.2 with ⟨rfl, _⟩ | ⟨g', cap, cur, rfl, hbg, hc, _⟩
  · simp [Value.ownBlock] at hg
  · simp [Value.ownBlock] at hg; subst hg
    exact (Array.getElem?_eq_some_iff.1 hc).1
theorem row_snoc {w : World} {base : Nat} {v : Value} {pre : List Blk} {x : Blk} (h : w.ownsRow base 68 2 v (pre.length + 1) (cellsB (pre.map emb) ++ [.int .i64 (x.1 : Int), .int .i64 (x.2 : Int)])) : Row w base v ((pre ++ [x]).map emb) := by
  have e1 : ((pre ++ [x]).map emb).length = pre.length + 1 := by simp
  have e2 : cellsB ((pre ++ [x]).map emb) = cellsB (pre.map emb) ++ [.int .i64 (x.1 : Int), .int .i64 (x.2 : Int)] := by rw [List.map_append, cellsB_app]; rfl
  rw [Row, e1, e2]; exact h

theorem walk_last {n b N R : Nat} {l : List Blk} {W : World} (hp : Pool W b N l) (S : Nat) (hS : W.heap.size = S) (V : World) (hV : V = (W.alloc (.cells #[.int .i64 n, .map (some b)] 60)).alloc (.cells #[.int .i64 0] 2)) :
    V.heap.size = S + 2 ∧ Below S W V ∧ Boxes n b N (S + 1) S R l V ∧ At V (S + 1) (0 : Nat) := by
  subst hS
  have hb := hp.lt
  have hVs : V.heap.size = W.heap.size + 2 := by rw [hV]; simp
  have hbv : Below W.heap.size W V := by rw [hV]; exact ((Below.refl _ _).alloc (Nat.le_refl _) _).alloc (by simp) _
  have hat : At V (W.heap.size + 1) (0 : Nat) := by
    have := (MapKept.heap_alloc (W.alloc (.cells #[.int .i64 n, .map (some b)] 60)) (.cells #[.int .i64 0] 2)).1
    rw [hV]; simpa [At] using this
  have e3 : Below (W.heap.size + 1) (W.alloc (.cells #[.int .i64 n, .map (some b)] 60)) V := by rw [hV]; exact (Below.refl _ _).alloc (by simp) _
  refine ⟨hVs, hbv, ⟨hp.below hbv hb, ?_, ?_, by omega, by omega, by omega⟩, hat⟩
  · exact (e3.cell (p := ⟨W.heap.size, 0, none⟩) (by simp)).trans (new_last _ _ _ _ rfl _ rfl)
  · exact (e3.cell (p := ⟨W.heap.size, 1, none⟩) (by simp)).trans (new_last _ _ _ _ rfl _ rfl)
theorem box_news (w : World) (o1 : Obj) (a b : Int) (u v : Value) : Box (((w.alloc o1).alloc (.cells #[.int .i64 a, u] 29)).alloc (.cells #[.int .i64 b, v] 29)) (w.heap.size + 1) a u ∧ Box (((w.alloc o1).alloc (.cells #[.int .i64 a, u] 29)).alloc (.cells #[.int .i64 b, v] 29)) (w.heap.size + 1 + 1) b v := by
  have h1 : (w.alloc o1).heap.size = w.heap.size + 1 := by simp
  have h2 : ((w.alloc o1).alloc (.cells #[.int .i64 a, u] 29)).heap.size = w.heap.size + 1 + 1 := by simp
  have e1 := (MapKept.heap_alloc (w.alloc o1) (.cells #[.int .i64 a, u] 29)).1
  have e2 := (MapKept.heap_alloc ((w.alloc o1).alloc (.cells #[.int .i64 a, u] 29)) (.cells #[.int .i64 b, v] 29)).1
  rw [h1] at e1
  rw [h2] at e2
  exact ⟨((World.grownBy_alloc _ _ none).block _ (by omega) (by simp)).trans e1, e2⟩

set_option maxRecDepth 100000 in
set_option maxHeartbeats 4000000 in
theorem impl_buddy (n b N : Nat) (l : List Blk) (hr : bd.Right n l) (w : World) (hp : Pool w b N l) :
    Calls Try.prog 41 #[.agg #[.int .i64 n, .map (some b)]] w (BuddyPost n l w) := by
  have HR : Hid (bd.Right n l) := hr
  have HP : Hid (Pool w b N l) := hp
  have hb := hp.lt
  have hl32 := hr.len_le
  have HWK : Hid (∀ W, _) := fun W => impl_walk (n : Int) b W
  obtain ⟨i0, hi, hz0, hz1, hz2⟩ := info_parts info_blk
  clear hp hr
  go_enter Try.func41, Try.ntmps41
  go_wp2_with fail
  refine Calls.mono (HWK.out _) ?_
  rintro e w1 ⟨rfl, rfl⟩
  go_wp2_with fail
  obtain ⟨U, hU⟩ : ∃ U, U = ((w.alloc (.cells #[.int .i64 n, .map (some b)] 60)).alloc (.cells #[.int .i64 0, .slice none 0 0] 29)).alloc (.cells #[.int .i64 n, .slice none 0 0] 29) := ⟨_, rfl⟩
  have hUs : U.heap.size = w.heap.size + 1 + 1 + 1 := by rw [hU]; simp
  have hbU : Below w.heap.size w U := by rw [hU]; exact (((Below.refl _ _).alloc (Nat.le_refl _) _).alloc (by simp) _).alloc (by simp; omega) _
  have hbx := box_news w (.cells #[.int .i64 n, .map (some b)] 60) 0 n (.slice none 0 0) (.slice none 0 0)
  rw [← hU] at hbx
  rw [← hU]
  obtain ⟨V, hV⟩ : ∃ V, V = (U.alloc (.cells #[.int .i64 n, .map (some b)] 60)).alloc (.cells #[.int .i64 0] 2) := ⟨_, rfl⟩
  rw [← hV]
  obtain ⟨hVs, hbV, hbs, hat⟩ := walk_last (n := n) (R := w.heap.size + 1) (HP.out.below hbU hb) _ hUs V hV
  have HBV : Hid (Below w.heap.size w V) := hbU.trans (hbV.mono (by omega))
  have HBX : Hid (Boxes n b N (w.heap.size + 1 + 1 + 1 + 1) (w.heap.size + 1 + 1 + 1) (w.heap.size + 1) l V) := hbs
  have HAV : Hid (At V (w.heap.size + 1 + 1 + 1 + 1) (0 : Nat)) := hat
  have HRS : Hid (Box V (w.heap.size + 1) 0 (.slice none 0 0)) := (hbV.block _ (by omega)).trans hbx.1
  have HCS : Hid (Box V (w.heap.size + 1 + 1) n (.slice none 0 0)) := (hbV.block _ (by omega)).trans hbx.2
  have hVl : w.heap.size + 1 + 1 + 1 + 1 < V.heap.size := by omega
  clear hU hV hbx hbs hat hbV hbU hVs hUs
  refine Calls.mono (HBX.out.next HR.out HAV.out (Nat.zero_le _) (curs_zero l)) ?_
  rintro e w1 hnx
  obtain ⟨p, q, m, rfl, hnx2⟩ := hnx.one
  have HNX : Hid (Nxt n (w.heap.size + 1 + 1 + 1 + 1) l l p q m V w1) := hnx2
  clear hnx hnx2
  go_wp2_with fail
  have hn32 := bd.pow_le32 HR.out.ord
  generalize hA : w.heap.size + 1 + 1 + 1 + 1 = A at *
  generalize hB : w.heap.size + 1 + 1 + 1 = B at *
  generalize hC : w.heap.size + 1 + 1 = C at *
  generalize hQ : w.heap.size + 1 = R at *
  have HV1 : Hid (V.grownBy w1 (some A)) := HNX.out.grown
  have hw1 := HV1.out.size
  go_loopw [5, 6] (fun t5 t6 wr => ∃ (X : Nat) (v : Value), t5 = .pointer (some ⟨X, 0, none⟩) ∧ V.heap.size ≤ X ∧ (∀ g, v.ownBlock = some g → g ≠ X) ∧ Hid (Cur (fun pre => Row wr V.heap.size v (pre.map emb)) n A X l t6 wr) ∧ Hid (Box wr C n v) ∧ Hid (Kept A C V.heap.size V wr)) (fun _ t6 wr => left A t6 wr)
  case atStart =>
    refine ⟨w1.heap.size, .slice none 0 0, rfl, hw1, fun g hg => by simp [Value.ownBlock] at hg, ?_, ?_, ?_⟩
    · exact Cur.of (pre := []) rfl (Row.nil _ _) HNX.out (blx_new w1 p q) (fun a ha => ha.grown (World.grownBy_alloc _ _ none) (by simp))
    · exact ((World.grownBy_alloc w1 _ none).block _ (by omega) (by simp)).trans ((HV1.out.block _ (by omega) (by simp; omega)).trans HCS.out)
    · exact ((Kept.refl A C V.heap.size V).grown (Nat.le_refl _) HV1.out (fun k hk => by cases hk; exact Or.inl rfl)).grown (Nat.le_refl _) (World.grownBy_alloc _ _ none) (fun k hk => by cases hk)
  case round =>
    obtain ⟨X, v, rfl, hX, hgX, HCUR, HBC, HK⟩ := hrel
    have HGX : Hid (∀ g, v.ownBlock = some g → g ≠ X) := hgX
    clear hgX
    have hws := HK.out.size
    have HRR : Hid (Box wr R 0 (.slice none 0 0)) := (HK.out.block R (by omega) (by omega) (by omega)).trans HRS.out
    have HBW : Hid (Below w.heap.size w wr) := HBV.out.trans (HK.out.below (by omega) (by omega) (by omega))
    rcases HCUR.out with ⟨rfl, hrow, p1, q1, hxb⟩ | ⟨pre, x, r, a, rfl, hl, hrow, hxb, hat, hxa, han, hcu⟩
    · obtain ⟨r0, r1, g0, g1⟩ := HRR.out.cells
      have HROW : Hid (Row wr V.heap.size v (l.map emb)) := hrow
      obtain ⟨va, vc, hv, _⟩ := hrow.rd.form
      rw [List.length_map] at hv
      obtain ⟨c0, c1, _, _⟩ := HBC.out.cells
      subst hv
      have HEND : Hid (∀ x y, Row ((wr.setCell ⟨R, 0, none⟩ x).setCell ⟨R, 1, none⟩ y) w.heap.size (.slice va l.length vc) (l.map emb)) := fun x y =>
        Row.down (Row.move HROW.out fun g hg _ _ => by rw [Below.heap_setCell _ _ _ _ (by show g ≠ R; omega), Below.heap_setCell _ _ _ _ (by show g ≠ R; omega)]) (by omega)
      clear hrow hxb HCUR HNX HROW
      go_wp2_with fail
      exact bodyPost_ret (v := .agg #[.int .i64 n, .slice va l.length vc]) (by simp [results, Try.results41, go_sem, r0, r1]) rfl ⟨_, rfl, HEND.out _ _, (HBW.out.setCell (by simp; omega) _).setCell (by simp; omega) _⟩
    · have HROW : Hid (Row wr V.heap.size v (pre.map emb)) := hrow
      have HL : Hid (l = pre ++ x :: r) := hl
      have HAT : Hid (At wr A a) := hat
      have HCU : Hid (Curs l a r) := hcu
      have HAN : Hid (a ≤ 2 ^ n) := han
      have HXB : Hid (Blx wr X x.1 x.2) := hxb
      obtain ⟨x0, x1, gx0, gx1⟩ := hxb.cells
      have hXl := hxb.lt
      have hpl : pre.length < 32 := by have := congrArg List.length hl; simp at this; omega
      obtain ⟨va, vc, hv, _⟩ := hrow.rd.form
      rw [List.length_map] at hv
      subst hv
      obtain ⟨c0, c1, gc0, gc1⟩ := HBC.out.cells
      have hCl := HBC.out.lt
      have HOWN : Hid (wr.ownsRow V.heap.size 68 2 (.slice va pre.length vc) pre.length (cellsB (pre.map emb))) := by have := HROW.out; rw [Row, List.length_map] at this; exact this
      clear hrow hl hat hcu hxb HCUR HNX han
      go_wp2_with (at_builtin; refine wpList_append_own _ rfl _ _ 27 rfl V.heap.size 68 i0 (.agg #[.int .i64 0, .int .i64 0]) 2 16 Try.underlying27 hi hz0 hz1 hz2 rfl (by decide) _ pre.length _ rfl (World.ownsRow.alloc HOWN.out _) ⟨wr.heap.size, 0, none⟩ 1 1 [.int .i64 x.1, .int .i64 x.2] rfl rfl ?c1 ?c2 ?c3 ?c4 ?c5 ?_)
      case c1 =>
        intro j u hu
        match j, hu with
        | 0, hu => simp at hu; subst hu; simp [Addr.add]
        | 1, hu => simp at hu; subst hu; simp [Addr.add]
      case c2 => intro u hu; simp at hu; rcases hu with rfl | rfl <;> rfl
      case c3 => unfold maxLen; omega
      case c4 => omega
      case c5 => simp; omega
      intro v2 w2 own2 gr2 _
      have hrow2 : Row w2 V.heap.size v2 ((pre ++ [x]).map emb) := row_snoc own2
      have HROW2 : Hid (Row w2 V.heap.size v2 ((pre ++ [x]).map emb)) := hrow2
      have HK2 : Hid (Kept A C V.heap.size V w2) := (HK.out.grown (Nat.le_refl _) (World.grownBy_alloc _ _ none) (fun k hk => by cases hk)).grown (Nat.le_refl _) gr2 (fun k hk => Or.inr (Or.inr (own_block HOWN.out k hk)))
      have hne : ∀ Y, Y < V.heap.size → some Y ≠ (Value.slice va pre.length vc).ownBlock := fun Y hY e => by have := own_block HOWN.out Y e.symm; omega
      have HBC2 : Hid (Box w2 C n (.slice va pre.length vc)) := (gr2.block C (by simp; omega) (hne C (by omega))).trans (((World.grownBy_alloc wr _ none).block C hCl (by simp)).trans HBC.out)
      have HX2 : Hid (Blx w2 X x.1 x.2) := (gr2.block X (by simp; omega) (fun e => HGX.out X e.symm rfl)).trans (((World.grownBy_alloc wr _ none).block X hXl (by simp)).trans HXB.out)
      have HA2 : Hid (At w2 A a) := (gr2.block A (by simp; omega) (hne A (by omega))).trans (((World.grownBy_alloc wr _ none).block A (by omega) (by simp)).trans HAT.out)
      have hlt2 : ∀ g, v2.ownBlock = some g → g < w2.heap.size := fun g hg => own_lt hrow2 hg
      have hge2 : ∀ g, v2.ownBlock = some g → V.heap.size ≤ g := own_block hrow2
      have HLT2 : Hid (∀ g, v2.ownBlock = some g → g < w2.heap.size) := hlt2
      have HGE2 : Hid (∀ g, v2.ownBlock = some g → V.heap.size ≤ g) := hge2
      have hs2 := HK2.out.size
      obtain ⟨d0, d1, gd0, gd1⟩ := HBC2.out.cells
      obtain ⟨y0, y1, gy0, gy1⟩ := HX2.out.cells
      have hXl2 := HX2.out.lt
      have hXC : ¬ X = C := by omega
      obtain ⟨va2, vc2, hv2, _⟩ := hrow2.rd.form
      generalize ((pre ++ [x]).map emb).length = L2 at hv2
      clear own2 gr2 hrow2 x0 x1 gx0 gx1 c0 c1 gc0 gc1 HXB HBC HK HOWN HROW hlt2 hge2 HRR
      subst hv2
      go_wp2_with fail
      obtain ⟨W, hW⟩ : ∃ W, W = (w2.setCell ⟨C, 1, none⟩ (.slice va2 L2 vc2)).alloc (.cells #[.int .i64 x.1, .int .i64 x.2] 68) := ⟨_, rfl⟩
      have HWX : Hid (Blx W w2.heap.size x.1 x.2) := by
        have := blx_new (w2.setCell ⟨C, 1, none⟩ (.slice va2 L2 vc2)) x.1 x.2
        rw [hW]; simpa [Hid] using this
      have hWb : ∀ k, k < w2.heap.size → k ≠ C → W.heap[k]? = w2.heap[k]? := fun k hk hc => by
        rw [hW]; exact ((World.grownBy_alloc _ _ none).block k (by simpa using hk) (by simp)).trans (Below.heap_setCell w2 _ _ k hc)
      have HWK2 : Hid (Kept A C V.heap.size V W) := by rw [hW]; exact (HK2.out.set (Or.inr (Or.inl rfl))).grown (Nat.le_refl _) (World.grownBy_alloc _ _ none) (fun k hk => by cases hk)
      have HWC : Hid (Box W C n (.slice va2 L2 vc2)) := by
        rw [hW]; exact ((World.grownBy_alloc _ _ none).block C (by simp; omega) (by simp)).trans HBC2.out.store
      have HWA : Hid (At W A a) := (hWb A (by omega) (by omega)).trans HA2.out
      have HWR : Hid (Row W V.heap.size (.slice va2 L2 vc2) ((pre ++ [x]).map emb)) := Row.move HROW2.out fun g hg hgl _ => hWb g hgl (by omega)
      have HWB : Hid (Boxes n b N A B R l W) := HWK2.out.boxes HBX.out rfl (by omega) (by omega)
      have hWs : w2.heap.size < W.heap.size := HWX.out.lt
      rw [← hW]
      clear hW hWb HROW2 HBC2 HX2 HA2 d0 d1 gd0 gd1 y0 y1 gy0 gy1 HK2
      refine Calls.mono (HWB.out.next HR.out HWA.out HAN.out HCU.out) ?_
      rintro e w3 hnx
      obtain ⟨p2, q2, m2, rfl, hnx2⟩ := hnx.one
      have HN2 : Hid (Nxt n A l r p2 q2 m2 W w3) := hnx2
      have hg3 := hnx2.grown
      have hs3 := hg3.size
      have HX3 : Hid (Blx w3 w2.heap.size x.1 x.2) := Blx.grown HWX.out hg3 (by simp; omega)
      have HC3 : Hid (Box w3 C n (.slice va2 L2 vc2)) := (hg3.block C (by omega) (by simp; omega)).trans HWC.out
      have HR3 : Hid (Row w3 V.heap.size (.slice va2 L2 vc2) ((pre ++ [x]).map emb)) := Row.move HWR.out fun g hg hgl _ => hg3.block g hgl (by simp; omega)
      have HK3 : Hid (Kept A C V.heap.size V w3) := HWK2.out.grown (Nat.le_refl _) hg3 (fun k hk => by cases hk; exact Or.inl rfl)
      obtain ⟨y0, y1, gy0, gy1⟩ := HX3.out.cells
      clear hnx hnx2 hg3 HWX HWC HWR HWK2
      go_wp2_with fail
      go_roundw
      case rel =>
        refine ⟨w2.heap.size, .slice va2 L2 vc2, rfl, by omega, fun g hg => by have := HLT2.out g hg; omega, ?_, ?_, ?_⟩
        · exact Cur.of (pre := pre ++ [x]) (by rw [HL.out]; simp) (Row.move HR3.out fun g hg hgl e => by rw [Below.heap_setCell _ _ _ _ (by show g ≠ w2.heap.size; have := HLT2.out g e; omega), Below.heap_setCell _ _ _ _ (by show g ≠ w2.heap.size; have := HLT2.out g e; omega)]) HN2.out (blx_set HX3.out) (fun a ha => At.far (At.far ha (by omega)) (by omega))
        · exact (HC3.out.apart (by omega) _).apart (by omega) _
        · exact (HK3.out.set (Or.inr (Or.inr (by omega)))).set (Or.inr (Or.inr (by omega)))
      case measure =>
        exact left_less HAT.out HAN.out hn32 HCU.out HN2.out (fun a ha => At.far (At.far ha (by omega)) (by omega))
end Go.Proofs.Ytcokchfedaoccab.bpool
