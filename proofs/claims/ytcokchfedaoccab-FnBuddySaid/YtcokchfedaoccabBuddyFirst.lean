/-
  The walk of the program's first: the first free block of an order.
-/
import Derived.Test.YtcokchfedaoccabBuddyNext
namespace Go.Proofs.Ytcokchfedaoccab.bpool
open Go.RowKit Go.Deep Go.Maps Go.Sort
open Go.Proofs.Ytcokchfedaoccab
open Go.Proofs.Ytcokchfedaoccab.brows
open Go.Proofs.Ytcokchfedaoccab.bspec
open Go.Proofs.Ytcokchfedaoccab.bimpl
open Go.Proofs.Ytcokchfedaoccab.bd (Blk)
set_option linter.unusedVariables false

def NoOrd (o : Int) (l : List Blk) : Prop := ∀ y ∈ l, ((y.2 : Nat) : Int) ≠ o
/-- what first tells -/
def FirstPost (l : List Blk) (o : Int) (w : World) (e : Ending) (w' : World) : Prop :=
  (NoOrd o l ∧ e = .returned (.tuple #[.agg #[.int .i64 0, .int .i64 0], .bool false]) ∧ Below w.heap.size w w') ∨
  ∃ (pre : List Blk) (x : Blk) (r : List Blk), l = pre ++ x :: r ∧ NoOrd o pre ∧ ((x.2 : Nat) : Int) = o ∧ e = .returned (.tuple #[.agg #[.int .i64 x.1, .int .i64 x.2], .bool true]) ∧ Below w.heap.size w w'

/-- what stands behind the call of walk: the boxes -/
structure Boxes (n b N A B R : Nat) (l : List Blk) (W : World) : Prop where
  pool : Pool W b N l
  b0 : W.cell? ⟨B, 0, none⟩ = some (.int .i64 n)
  b1 : W.cell? ⟨B, 1, none⟩ = some (.map (some b))
  hbA : b ≠ A
  hBA : B ≠ A
  hA : A < W.heap.size
theorem Boxes.grown {n b N A B R : Nat} {l : List Blk} {W W' : World} (h : Boxes n b N A B R l W) (hg : W.grownBy W' (some A)) : Boxes n b N A B R l W' :=
  ⟨h.pool.kept hg (by have := h.hbA; simp; omega), grown_cell hg h.b0 h.hBA, grown_cell hg h.b1 h.hBA, h.hbA, h.hBA, Nat.lt_of_lt_of_le h.hA hg.size⟩
theorem Boxes.next {n b N A B R : Nat} {l : List Blk} {W : World} (h : Boxes n b N A B R l W) (hr : bd.Right n l) {a : Nat} (ha : At W A a) (hal : a ≤ 2 ^ n) {rest : List Blk} (hc : Curs l a rest) :
    Calls Try.prog 64 #[.pointer (some ⟨A, 0, none⟩), .pointer (some ⟨B, 0, none⟩)] W (NextPost n A l rest W) :=
  impl_next n b N A B l rest hr a W ha hal hc h.pool h.hbA h.hBA h.b0 h.b1

theorem walk_boxes {n b N : Nat} {l : List Blk} {w : World} (hp : Pool w b N l) (S : Nat) (hS : S = w.heap.size) (V : World) (hV : V = (((w.alloc (.cells #[.int .i64 n, .map (some b)] 60)).alloc (.cells #[.int .i64 0, .int .i64 0] 68)).alloc (.cells #[.int .i64 n, .map (some b)] 60)).alloc (.cells #[.int .i64 0] 2)) :
    V.heap.size = S + 4 ∧ Below S w V ∧ Boxes n b N (S + 1 + 1 + 1) (S + 1 + 1) (S + 1) l V ∧ At V (S + 1 + 1 + 1) (0 : Nat) ∧ Blx V (S + 1) 0 0 := by
  subst hS
  have hb := hp.lt
  have hVs : V.heap.size = w.heap.size + 4 := by rw [hV]; simp
  have h1 : (w.alloc (.cells #[.int .i64 n, .map (some b)] 60)).heap.size = w.heap.size + 1 := by simp
  have h2 : ((w.alloc (.cells #[.int .i64 n, .map (some b)] 60)).alloc (.cells #[.int .i64 0, .int .i64 0] 68)).heap.size = w.heap.size + 1 + 1 := by simp
  have hbv : Below w.heap.size w V := by rw [hV]; exact ((((Below.refl _ _).alloc (Nat.le_refl _) _).alloc (by simp) _).alloc (by simp; omega) _).alloc (by simp; omega) _
  have hat : At V (w.heap.size + 1 + 1 + 1) (0 : Nat) := by
    have := (MapKept.heap_alloc (((w.alloc (.cells #[.int .i64 n, .map (some b)] 60)).alloc (.cells #[.int .i64 0, .int .i64 0] 68)).alloc (.cells #[.int .i64 n, .map (some b)] 60)) (.cells #[.int .i64 0] 2)).1
    rw [hV]; simpa [At] using this
  have hrs : Blx V (w.heap.size + 1) 0 0 := by
    have e1 : Below (w.heap.size + 1 + 1) ((w.alloc (.cells #[.int .i64 n, .map (some b)] 60)).alloc (.cells #[.int .i64 0, .int .i64 0] 68)) V := by rw [hV]; exact ((Below.refl _ _).alloc (by simp) _).alloc (by simp) _
    have e2 := blx_new (w.alloc (.cells #[.int .i64 n, .map (some b)] 60)) 0 0
    rw [h1] at e2
    exact (e1.block _ (by omega)).trans e2
  have e3 : Below (w.heap.size + 1 + 1 + 1) (((w.alloc (.cells #[.int .i64 n, .map (some b)] 60)).alloc (.cells #[.int .i64 0, .int .i64 0] 68)).alloc (.cells #[.int .i64 n, .map (some b)] 60)) V := by rw [hV]; exact (Below.refl _ _).alloc (by simp) _
  refine ⟨hVs, hbv, ⟨hp.below hbv hb, ?_, ?_, by omega, by omega, by omega⟩, hat, hrs⟩
  · exact (e3.cell (p := ⟨w.heap.size + 1 + 1, 0, none⟩) (by simp)).trans (new_last _ _ _ _ h2 _ rfl)
  · exact (e3.cell (p := ⟨w.heap.size + 1 + 1, 1, none⟩) (by simp)).trans (new_last _ _ _ _ h2 _ rfl)

set_option maxHeartbeats 4000000 in
theorem impl_first (n b N : Nat) (l : List Blk) (hr : bd.Right n l) (o : Int) (w : World) (hp : Pool w b N l) :
    Calls Try.prog 39 #[.agg #[.int .i64 n, .map (some b)], .int .i64 o] w (FirstPost l o w) := by
  have HR : Hid (bd.Right n l) := hr
  have HP : Hid (Pool w b N l) := hp
  have hb := hp.lt
  have HWK : Hid (∀ W, _) := fun W => impl_walk (n : Int) b W
  clear hp hr
  go_enter Try.func39, Try.ntmps39
  go_wp2_with fail
  refine Calls.mono (HWK.out _) ?_
  rintro e w1 ⟨rfl, rfl⟩
  go_wp2_with fail
  obtain ⟨V, hV⟩ : ∃ V, V = (((w.alloc (.cells #[.int .i64 n, .map (some b)] 60)).alloc (.cells #[.int .i64 0, .int .i64 0] 68)).alloc (.cells #[.int .i64 n, .map (some b)] 60)).alloc (.cells #[.int .i64 0] 2) := ⟨_, rfl⟩
  obtain ⟨hVs, hbv, hbx, hat, hrs⟩ := walk_boxes (n := n) (N := N) HP.out w.heap.size rfl V hV
  have HBV : Hid (Below w.heap.size w V) := hbv
  have HBX : Hid (Boxes n b N (w.heap.size + 1 + 1 + 1) (w.heap.size + 1 + 1) (w.heap.size + 1) l V) := hbx
  have HAV : Hid (At V (w.heap.size + 1 + 1 + 1) (0 : Nat)) := hat
  have HRS : Hid (Blx V (w.heap.size + 1) 0 0) := hrs
  rw [← hV]
  clear hV hbv hbx hat hrs
  refine Calls.mono (HBX.out.next HR.out HAV.out (Nat.zero_le _) (curs_zero l)) ?_
  rintro e w1 hnx
  obtain ⟨p, q, m, rfl, hnx2⟩ := hnx.one
  have HNX : Hid (Nxt n (w.heap.size + 1 + 1 + 1) l l p q m V w1) := hnx2
  clear hnx hnx2
  go_wp2_with fail
  have hn32 := bd.pow_le32 HR.out.ord
  generalize hA : w.heap.size + 1 + 1 + 1 = A at *
  generalize hB : w.heap.size + 1 + 1 = B at *
  generalize hQ : w.heap.size + 1 = R at *
  have HV1 : Hid (V.grownBy w1 (some A)) := HNX.out.grown
  have hw1 := HV1.out.size
  go_loopw [7, 8] (fun t7 t8 wr => ∃ X : Nat, t7 = .pointer (some ⟨X, 0, none⟩) ∧ V.heap.size ≤ X ∧ Hid (Cur (NoOrd o) n A X l t8 wr) ∧ Hid (V.grownBy wr (some A))) (fun _ t8 wr => left A t8 wr)
  case atStart =>
    refine ⟨w1.heap.size, rfl, hw1, ?_, grown_trans HV1.out (World.grownBy_alloc _ _ _)⟩
    exact Cur.of (pre := []) rfl (fun y hy => absurd hy (by simp)) HNX.out (blx_new w1 p q) (fun a ha => ha.grown (World.grownBy_alloc _ _ none) (by simp))
  case round =>
    obtain ⟨X, rfl, hX, HCUR, HGR⟩ := hrel
    have hws := HGR.out.size
    have HRR : Hid (Blx wr R 0 0) := Blx.grown HRS.out HGR.out (by simp; omega)
    obtain ⟨r0, r1, g0, g1⟩ := HRR.out.cells
    have HBW : Hid (Below w.heap.size w wr) := HBV.out.grown HGR.out (by omega) (fun k hk => by cases hk; omega)
    rcases HCUR.out with ⟨rfl, hno, p1, q1, hxb⟩ | ⟨pre, x, r, a, rfl, hl, hG, hxb, hat, hxa, han, hcu⟩
    · have HNO : Hid (NoOrd o l) := hno
      clear hno hxb HCUR HNX
      go_wp2_with fail
      refine bodyPost_ret (v := .tuple #[.agg #[.int .i64 0, .int .i64 0], .bool false]) (by simp [results, Try.results39, go_sem, r0, r1]) rfl (Or.inl ⟨HNO.out, rfl, (HBW.out.setCell (by simp; omega) _).setCell (by simp; omega) _⟩)
    · have HG : Hid (NoOrd o pre) := hG
      have HL : Hid (l = pre ++ x :: r) := hl
      have HAT : Hid (At wr A a) := hat
      have HCU : Hid (Curs l a r) := hcu
      have HAN : Hid (a ≤ 2 ^ n) := han
      obtain ⟨x0, x1, gx0, gx1⟩ := hxb.cells
      have hXl := hxb.lt
      clear hG hl hat hcu hxb HCUR HNX han
      by_cases ho : ((x.2 : Nat) : Int) = o
      · have HO : Hid (((x.2 : Nat) : Int) = o) := ho
        have hd : (((x.2 : Nat) : Int) == o) = true := by simpa using ho
        go_wp2_with fail
        exact bodyPost_ret (v := .tuple #[.agg #[.int .i64 x.1, .int .i64 o], .bool true]) (by simp [results, Try.results39, go_sem, r0, r1]) rfl (Or.inr ⟨pre, x, r, HL.out, HG.out, HO.out, by rw [HO.out], (HBW.out.setCell (by simp; omega) _).setCell (by simp; omega) _⟩)
      · have hd : (((x.2 : Nat) : Int) == o) = false := by simpa using ho
        have HG2 : Hid (NoOrd o (pre ++ [x])) := fun y hy => by
          rcases List.mem_append.1 hy with hy | hy
          · exact HG.out y hy
          · rw [List.mem_singleton.1 hy]; exact ho
        have HWB : Hid (∀ obj : Obj, Boxes n b N A B R l (wr.alloc obj)) := fun obj => (HBX.out.grown HGR.out).grown (World.grownBy_alloc _ _ _)
        have HWA : Hid (∀ obj : Obj, At (wr.alloc obj) A a) := fun obj => HAT.out.grown (World.grownBy_alloc _ _ none) (by simp)
        go_wp2_with fail
        obtain ⟨W, hW⟩ : ∃ W, W = wr.alloc (.cells #[.int .i64 x.1, .int .i64 x.2] 68) := ⟨_, rfl⟩
        have HWX : Hid (Blx W wr.heap.size x.1 x.2) := by rw [hW]; exact blx_new wr x.1 x.2
        have HWG : Hid (V.grownBy W (some A)) := by rw [hW]; exact grown_trans HGR.out (World.grownBy_alloc _ _ _)
        have HWB2 : Hid (Boxes n b N A B R l W) := by rw [hW]; exact HWB.out _
        have HWA2 : Hid (At W A a) := by rw [hW]; exact HWA.out _
        rw [← hW]
        clear hW HWB HWA
        refine Calls.mono (HWB2.out.next HR.out HWA2.out HAN.out HCU.out) ?_
        rintro e w2 hnx
        obtain ⟨p2, q2, m2, rfl, hnx2⟩ := hnx.one
        have HN2 : Hid (Nxt n A l r p2 q2 m2 W w2) := hnx2
        have HX2 : Hid (Blx w2 wr.heap.size x.1 x.2) := Blx.grown HWX.out HN2.out.grown (by simp; omega)
        obtain ⟨y0, y1, gy0, gy1⟩ := HX2.out.cells
        clear hnx hnx2
        go_wp2_with fail
        go_roundw
        case rel =>
          refine ⟨wr.heap.size, rfl, by omega, ?_, ?_⟩
          · exact Cur.of (pre := pre ++ [x]) (by rw [HL.out]; simp) HG2.out HN2.out (blx_set HX2.out) (fun a ha => At.far (At.far ha (by omega)) (by omega))
          · exact grown_new (grown_new (grown_trans HWG.out HN2.out.grown) (by omega)) (by omega)
        case measure =>
          exact left_less HAT.out HAN.out hn32 HCU.out HN2.out (fun a ha => At.far (At.far ha (by omega)) (by omega))
end Go.Proofs.Ytcokchfedaoccab.bpool
