/-
  The program reads a call: readCall. Conditions: at most 8000 bytes; the program's tables read as its text lays them.
-/
import Derived.Test.YtacfhchmoiphfaaDoorScrTakeI
import Derived.Lib.OthersKept
import Derived.Deep.RegionHeld3
namespace Go.Proofs.YtacfhchmoiphfaaDoor.scr
open Go.RowKit Go.Deep Go.Sort
open Go.Proofs.YtacfhchmoiphfaaDoor
open Go.Proofs.YtacfhchmoiphfaaDoor.deep (Blk putW putL)
open Go.Proofs.YtacfhchmoiphfaaDoor.call (CallD ccall)
open Go.Proofs.YtacfhchmoiphfaaDoor.lread (outL)
set_option linter.unusedVariables false
set_option maxRecDepth 100000

/-- what is told of a text -/
def Got (s : ByteArray) (c : CallD) (k : Bool) : Prop := (k = true ∧ callT c = s ∧ s.size ≠ 0) ∨ (k = false ∧ ∀ d, callT d = s → s.size = 0)
def CallPost (s : ByteArray) (w : World) (e : Ending) (w' : World) : Prop := ∃ c k, e = .returned (.tuple #[.agg (ccall c).toArray, .bool k]) ∧ Got s c k ∧ Below w.heap.size w w'
theorem got_no {s : ByteArray} (c : CallD) (h : ∀ n, ¬ Tests n (cutS s 32)) : Got s c false := .inr ⟨rfl, fun d hd => by
  rcases Nat.eq_zero_or_pos s.size with e | e
  · exact e
  · exact absurd (tests_no hd (by omega)).1 (h _)⟩
theorem got_yes {s : ByteArray} {n : Int} (h : Tests n (cutS s 32)) : Got s (buildC n (cutS s 32)) true := .inl ⟨rfl, tests_yes h⟩
theorem tests_word {n m : Int} {l : List ByteArray} (h : WordOf (l.getD 1 e0) n) (k : Tests m l) : m = n ∧ 1 ≤ n ∧ n ≤ 12 := by
  rcases h with ⟨h1, h2, h3⟩ | ⟨h1, h2⟩
  · have := name_same ⟨k.n1, k.n12⟩ ⟨h1, h2⟩ (by rw [h3, k.name])
    exact ⟨this, h1, h2⟩
  · exact absurd k.name.symm (h2 m k.n1 k.n12)
theorem word_takes {n : Int} {l : List ByteArray} (h : WordOf (l.getD 1 e0) n) : 0 ≤ n ∧ n ≤ 12 := by
  rcases h with ⟨h1, h2, _⟩ | ⟨h1, _⟩ <;> omega
theorem only_iter (K : Nat) (w : World) (s : ByteArray) (p : Nat) : Only K w (w.iterAt K s p) := ⟨by rw [Lib.iterAt_size]; exact Nat.le_refl _, fun g hg _ => Lib.iterAt_other w K g s p hg, fun n u h hn => Lib.below_iterAt h hn s p⟩
theorem letters_ascii {n : Int} {i : Nat} (h : i < (takesB n).size) : ((takesB n)[i]'h).toNat < 128 := by
  have := takes_in n i h
  rw [getElem!_pos _ i h] at this
  unfold Letter at this
  omega

set_option maxHeartbeats 8000000 in
theorem impl_rcall (s : ByteArray) (h8 : s.size ≤ 8000) (w : World) (hS : Say w) : Calls Tryd.prog 24 #[.string s] w (CallPost s w) := by
  have HNO0 : (∀ n, ¬ Tests n (cutS s 32)) → ∀ c, Got s c false := fun h c => got_no c h
  have HYES0 : ∀ n, Tests n (cutS s 32) → Got s (buildC n (cutS s 32)) true := fun n h => got_yes h
  have hlen := cutS_len s 32
  have hpos := cutS_pos s 32
  have HSZ0 : ∀ x ∈ cutS s 32, x.size ≤ 8000 := fun x hx => Nat.le_trans (cutS_size s 32 x hx) h8
  have hsl : (Lib.splitB ⟨#[32]⟩ 0 (Lib.countB s ⟨#[32]⟩) s) = cutS s 32 := split_is_cut s 32
  have hcl : Lib.countB s ⟨#[32]⟩ + 1 = (cutS s 32).length := by rw [← hsl, Lib.splitB_all ⟨#[32]⟩ (by decide) 0 _ s rfl]
  have HSP0 : ∀ W, Say W → Calls Tryd.prog 50 #[.string s, .string ⟨#[32]⟩] W fun e w' => e = .returned (.slice (some ⟨W.heap.size, 0, none⟩) (cutS s 32).length (cutS s 32).length) ∧ RowF W.heap.size (cutS s 32) w' ∧ Below W.heap.size W w' := fun W h => by
    obtain ⟨m, hm⟩ := h.len
    refine (Tryd.strings_Split s ⟨#[32]⟩ m W (by omega) hm (by decide)).mono fun e w' q => ?_
    rw [hsl, hcl] at q
    obtain ⟨q1, rfl⟩ := q
    refine ⟨q1, ⟨by simp, fun i hi => ?_⟩, below_one _ _⟩
    rw [World.cell?_alloc_at _ _ _ _ rfl]
    simp [hi]
  obtain ⟨l, hl⟩ : ∃ l, l = cutS s 32 := ⟨_, rfl⟩
  rw [← hl] at HNO0 HYES0 hlen hpos HSZ0 HSP0
  clear hsl hcl hl
  unfold CallPost
  obtain ⟨P, hP⟩ : ∃ P, P = Got s := ⟨_, rfl⟩
  rw [← hP] at HNO0 HYES0 ⊢
  clear hP
  have HNO : Hid ((∀ n, ¬ Tests n l) → ∀ c, P c false) := HNO0
  have HYES : Hid (∀ n, Tests n l → P (buildC n l) true) := HYES0
  have HSZ : Hid (∀ x ∈ l, x.size ≤ 8000) := HSZ0
  have HSP : Hid (∀ W, Say W → Calls Tryd.prog 50 #[.string s, .string ⟨#[32]⟩] W fun e w' => e = .returned (.slice (some ⟨W.heap.size, 0, none⟩) l.length l.length) ∧ RowF W.heap.size l w' ∧ Below W.heap.size W w') := HSP0
  clear HNO0 HYES0 HSZ0 HSP0
  obtain ⟨n, hn⟩ : ∃ n, n = l.length := ⟨_, rfl⟩
  have HNL : Hid (n = l.length) := hn
  rw [← hn] at hlen hpos HSP
  clear hn
  have HAB : Hid (Above w.heap.size) := hS.above
  have HS0 : Hid (Say (w.alloc (.cells #[.int .i64 0, .int .i64 0, .int .i64 0, .int .i64 0, .int .i64 0, .int .i64 0, .int .i64 0, .int .i64 0, .int .i64 0] 26))) := hS.alloc _
  have HZ0 : Hid (Blk (w.alloc (.cells #[.int .i64 0, .int .i64 0, .int .i64 0, .int .i64 0, .int .i64 0, .int .i64 0, .int .i64 0, .int .i64 0, .int .i64 0] 26)) w.heap.size 26 [.int .i64 0, .int .i64 0, .int .i64 0, .int .i64 0, .int .i64 0, .int .i64 0, .int .i64 0, .int .i64 0, .int .i64 0]) := deep.blk_new w _ _
  have HB0 : Hid (Below w.heap.size w (w.alloc (.cells #[.int .i64 0, .int .i64 0, .int .i64 0, .int .i64 0, .int .i64 0, .int .i64 0, .int .i64 0, .int .i64 0, .int .i64 0] 26))) := below_one _ _
  clear hS
  go_enter Tryd.func24, Tryd.ntmps24
  go_wp2_with fail
  refine Calls.mono (HSP.out _ HS0.out) ?_
  rintro e w1 ⟨rfl, hr1, hb1⟩
  have HR1 : Hid (RowF (w.heap.size + 1) l w1) := by
    have : (w.alloc (.cells #[.int .i64 0, .int .i64 0, .int .i64 0, .int .i64 0, .int .i64 0, .int .i64 0, .int .i64 0, .int .i64 0, .int .i64 0] 26)).heap.size = w.heap.size + 1 := by simp
    rw [this] at hr1; exact hr1
  have HZ1 : Hid (Blk w1 w.heap.size 26 [.int .i64 0, .int .i64 0, .int .i64 0, .int .i64 0, .int .i64 0, .int .i64 0, .int .i64 0, .int .i64 0, .int .i64 0]) := HZ0.out.later hb1
  have HS1 : Hid (Say w1) := HS0.out.later hb1
  have HB1 : Hid (Below w.heap.size w w1) := below_tr HB0.out hb1
  have hlt1 := HR1.out.1
  obtain ⟨g, hg⟩ : ∃ g, g = w.heap.size + 1 := ⟨_, rfl⟩
  have hgw : w.heap.size < g := by omega
  rw [← hg] at HR1 hlt1
  have hge : (w.alloc (.cells #[.int .i64 0, .int .i64 0, .int .i64 0, .int .i64 0, .int .i64 0, .int .i64 0, .int .i64 0, .int .i64 0, .int .i64 0] 26)).heap.size = g := by rw [hg]; simp
  clear hr1 hb1 HSP HS0 HZ0 HB0
  by_cases hn2 : n < 2
  · have HF : Hid (∀ c, P c false) := HNO.out fun m h => by
      have := h.len
      have := HNL.out
      omega
    rw [hge]
    clear hge hg HNO HYES HSZ
    have z0 : w1.cell? ⟨w.heap.size, 0, none⟩ = some (.int .i64 0) := HZ1.out.cell 0
    have y0 := HZ1.out.free 0
    have z1 : w1.cell? ⟨w.heap.size, 1, none⟩ = some (.int .i64 0) := HZ1.out.cell 1
    have y1 := HZ1.out.free 1
    have z2 : w1.cell? ⟨w.heap.size, 2, none⟩ = some (.int .i64 0) := HZ1.out.cell 2
    have y2 := HZ1.out.free 2
    have z3 : w1.cell? ⟨w.heap.size, 3, none⟩ = some (.int .i64 0) := HZ1.out.cell 3
    have y3 := HZ1.out.free 3
    have z4 : w1.cell? ⟨w.heap.size, 4, none⟩ = some (.int .i64 0) := HZ1.out.cell 4
    have y4 := HZ1.out.free 4
    have z5 : w1.cell? ⟨w.heap.size, 5, none⟩ = some (.int .i64 0) := HZ1.out.cell 5
    have y5 := HZ1.out.free 5
    have z6 : w1.cell? ⟨w.heap.size, 6, none⟩ = some (.int .i64 0) := HZ1.out.cell 6
    have y6 := HZ1.out.free 6
    have z7 : w1.cell? ⟨w.heap.size, 7, none⟩ = some (.int .i64 0) := HZ1.out.cell 7
    have y7 := HZ1.out.free 7
    have z8 : w1.cell? ⟨w.heap.size, 8, none⟩ = some (.int .i64 0) := HZ1.out.cell 8
    have y8 := HZ1.out.free 8
    go_wp2_with fail
    refine bodyPost_ret (v := .tuple #[.agg #[.int .i64 0, .int .i64 0, .int .i64 0, .int .i64 0, .int .i64 0, .int .i64 0, .int .i64 0, .int .i64 0, .int .i64 0], .bool false]) (by simp [results, Tryd.results24, go_sem, z0, z1, z2, z3, z4, z5, z6, z7, z8]) rfl ⟨noCall, false, rfl, HF.out _, ?_⟩
    exact deep.putW_below [.int .i64 0, .int .i64 0, .int .i64 0, .int .i64 0, .int .i64 0, .int .i64 0, .int .i64 0, .int .i64 0, .int .i64 0] HB1.out (by omega) (b := 0)
  have e0c : w1.cell? ⟨g, 0, none⟩ = some (.string (l.getD 0 e0)) := by rw [getD_at (by rw [← HNL.out]; omega)]; exact HR1.out.2 0 (by rw [← HNL.out]; omega)
  have e1c : w1.cell? ⟨g, 1, none⟩ = some (.string (l.getD 1 e0)) := by rw [getD_at (by rw [← HNL.out]; omega)]; exact HR1.out.2 1 (by rw [← HNL.out]; omega)
  have hx0 : (l.getD 0 e0).size ≤ 8000 := by rw [getD_at (by rw [← HNL.out]; omega)]; exact HSZ.out _ (List.getElem_mem _)
  have HL : Hid (∀ W, Calls Tryd.prog 51 #[.string (l.getD 0 e0)] W fun e w' => (∃ m b, e = .returned (.tuple #[.int .u8 m, .bool b]) ∧ ((b = true ∧ 0 ≤ m ∧ m ≤ 15 ∧ outL (l.getD 0 e0) = (m, 0)) ∨ (b = false ∧ outL (l.getD 0 e0) = (0, 3)))) ∧ w' = W) := fun W => (lread.read_label (l.getD 0 e0) W hx0).mono fun e w' q => by
    obtain ⟨⟨m, b, he, ht⟩, hw⟩ := q
    exact ⟨⟨m, b, he, lread.out_tells hx0 ht⟩, hw⟩
  have HWD : Hid (∀ W, Say W → Calls Tryd.prog 52 #[.string (l.getD 1 e0)] W fun e w' => ∃ n, e = .returned (.int .i64 n) ∧ WordOf (l.getD 1 e0) n ∧ w' = W) := fun W h => impl_word (l.getD 1 e0) W h
  obtain ⟨x0, hx0e⟩ : ∃ x, x = l.getD 0 e0 := ⟨_, rfl⟩
  obtain ⟨x1, hx1e⟩ : ∃ x, x = l.getD 1 e0 := ⟨_, rfl⟩
  have HX0 : Hid (x0 = l.getD 0 e0) := hx0e
  have HX1 : Hid (x1 = l.getD 1 e0) := hx1e
  rw [← hx0e] at e0c HL
  rw [← hx1e] at e1c HWD
  clear hx0e hx1e hx0
  rw [hge]
  clear hge hg
  go_wp2_with fail
  refine Calls.mono (HL.out _) ?_
  rintro e w2 ⟨⟨m0, b0, rfl, hm⟩, rfl⟩
  have HM : Hid ((b0 = true ∧ 0 ≤ m0 ∧ m0 ≤ 15 ∧ outL x0 = (m0, 0)) ∨ (b0 = false ∧ outL x0 = (0, 3))) := hm
  clear hm HL
  go_wp2_with fail
  refine Calls.mono (HWD.out _ HS1.out) ?_
  rintro e w3 ⟨m, rfl, hwd, rfl⟩
  have HWO : Hid (WordOf x1 m) := hwd
  have hm12 : 0 ≤ m ∧ m ≤ 12 := word_takes (by rw [← HX1.out]; exact hwd)
  clear hwd HWD e0c e1c
  obtain ⟨hm0, hm12⟩ := hm12
  obtain ⟨j, rfl⟩ : ∃ j : Nat, m = (j : Int) := ⟨m.toNat, by omega⟩
  have htk := HS1.out.takes j (by omega)
  have hzg := takes_size (j : Int)
  have HGG : Hid (∀ i (h : i < (takesB (j : Int)).size), ((takesB (j : Int))[i]'h).toNat < 128 ∧ Letter ((takesB (j : Int))[i]!.toNat : Int)) := fun i h => ⟨letters_ascii h, takes_in _ i h⟩
  have H00 : Hid (buildTo (j : Int) l 0 = ⟨(outL x0).1, (j : Int), 0, 0, 0, 0, 0, 0, 0⟩) := by show _ = _; rw [HX0.out]; rfl
  have HST : Hid (∀ i, i < (takesB (j : Int)).size → buildTo (j : Int) l (i + 1) = takeL (buildTo (j : Int) l i) ((takesB (j : Int))[i]!.toNat : Int) (l.getD (i + 2) e0)) := fun i hi => by rw [build_step hi, getElem!_pos _ i hi]
  have HT1 : Hid (∀ k, Tests k l → k = (j : Int) ∧ (outL x0).2 = 0 ∧ n = (takesB (j : Int)).size + 2 ∧ Goods (j : Int) l ∧ callB (buildC (j : Int) l) = true) := fun k h => by
    obtain ⟨e, _, _⟩ := tests_word (by rw [← HX1.out]; exact HWO.out) h
    subst e
    exact ⟨rfl, by rw [HX0.out]; exact h.who, by rw [HNL.out]; exact h.len, h.good, h.right⟩
  have HT2 : Hid ((outL x0).2 = 0 → n = (takesB (j : Int)).size + 2 → Goods (j : Int) l → callB (buildC (j : Int) l) = true → Tests (j : Int) l) := fun h1 h2 h3 h4 => by
    have hq := callB_q h4
    have hq1 : (buildC (j : Int) l).q1 = (j : Int) := (build_q1 _ _ _).1
    rw [hq1] at hq
    refine ⟨by rw [← HX0.out]; exact h1, hq.2.2.1, hq.2.2.2, ?_, by rw [← HNL.out]; exact h2, h3, h4⟩
    rcases HWO.out with ⟨_, _, h⟩ | ⟨h, _⟩
    · rw [h, HX1.out]
    · omega
  have HGD : Hid (∀ i, i < (takesB (j : Int)).size → ¬ goodA ((takesB (j : Int))[i]!.toNat : Int) (l.getD (i + 2) e0) → ¬ Goods (j : Int) l) := fun i hi h k => h (k i hi)
  have HGA : Hid ((∀ i, i < (takesB (j : Int)).size → goodA ((takesB (j : Int))[i]!.toNat : Int) (l.getD (i + 2) e0)) → Goods (j : Int) l) := fun h => h
  have HEND : Hid (buildC (j : Int) l = buildTo (j : Int) l (takesB (j : Int)).size) := rfl
  generalize takesB (j : Int) = gg at *
  obtain ⟨G, hG⟩ : ∃ G, G = Goods (j : Int) l := ⟨_, rfl⟩
  rw [← hG] at HT1 HT2 HGD HGA
  clear hG HX0 HX1 HWO
  have hjt : ((j : Int).toNat) = j := by omega
  obtain ⟨o2, ho2⟩ : ∃ o : Nat, o = (if n = 2 then 0 else 2) := ⟨_, rfl⟩
  have HO2 : Hid (2 < n → o2 = 2) := fun h => by rw [ho2, if_neg (by omega)]
  have hsl : ∀ W, (Instr.slice 59 (.slice (some ⟨g, 0, none⟩) n n) (some (.int .i64 2)) none none).run Tryd.prog W = .ok (.slice (some ⟨g, o2, none⟩) (n - 2) (n - 2)) W := fun W => by
    have h1 := run_slice_l (P := Tryd.prog) (w := W) 59 (some ⟨g, 0, none⟩) n n (by kernel_rfl) .i64 2 (by omega) (by omega)
    have hz : (sizeOf (Tryd.prog.elem 59)).run Tryd.prog W = .ok 1 W := by kernel_rfl
    rw [h1, hz, ho2]
    simp only [Result.andThen, sliced]
    by_cases h : n = 2
    · subst h; rfl
    · rw [if_neg h, if_neg (by show ¬ n = 2; exact h)]; rfl
  clear ho2
  have h2n : (2 : Int) ≤ (n : Int) := by omega
  have HB1b : Hid (Below w.heap.size w w3) := HB1
  clear HB1
  rcases HM.out with ⟨hb0, hma, hmb, hmo⟩ | ⟨hb0, hmo⟩
  · subst hb0
    by_cases hln : n = gg.size + 2
    · have heq : (((n - 2 : Nat) : Int) != (gg.size : Int)) = false := by simp; omega
      have HLN : Hid (n = gg.size + 2) := hln
      clear hln
      have HWHO : Hid ((outL x0).2 = 0) := by show _ = _; rw [hmo]
      have H0V : Hid (buildTo (j : Int) l 0 = ⟨m0, (j : Int), 0, 0, 0, 0, 0, 0, 0⟩) := by show _ = _; rw [H00.out, hmo]
      clear HM H00 hmo
      go_wp2_with fail
      obtain ⟨V4, hV4⟩ : ∃ V, V = w3.alloc (.cells #[.int .i64 m0, .int .i64 (j : Int), .int .i64 0, .int .i64 0, .int .i64 0, .int .i64 0, .int .i64 0, .int .i64 0, .int .i64 0] 26) := ⟨_, rfl⟩
      obtain ⟨V5, hV5⟩ : ∃ V, V = V4.iter gg 0 := ⟨_, rfl⟩
      have hb4 : Below w3.heap.size w3 V4 := by rw [hV4]; exact below_one _ _
      have hb5 : Below V4.heap.size V4 V5 := by rw [hV5]; exact below_one _ _
      have hb45 : Below w3.heap.size w3 V5 := below_tr hb4 hb5
      have XC5 : Hid (Blk V5 w3.heap.size 26 (ccall (buildTo (j : Int) l 0))) := by
        rw [H0V.out]
        refine Blk.later ?_ hb5
        rw [hV4]; exact deep.blk_new w3 _ _
      have hs4 : V4.heap.size = w3.heap.size + 1 := by rw [hV4]; simp
      have XI5 : Hid (V5.heap[w3.heap.size + 1]? = some (.stringIter gg 0)) := by
        show _ = _
        rw [hV5, ← hs4]; exact World.iter_heap _ _ _
      have XR5 : Hid (RowF g l V5) := HR1.out.later hb45
      have XZ5 : Hid (Blk V5 w.heap.size 26 [.int .i64 0, .int .i64 0, .int .i64 0, .int .i64 0, .int .i64 0, .int .i64 0, .int .i64 0, .int .i64 0, .int .i64 0]) := HZ1.out.later hb45
      have XS5 : Hid (Say V5) := HS1.out.later hb45
      have XB5 : Hid (Below w.heap.size w V5) := below_tr HB1b.out hb45
      have hwB : w.heap.size < w3.heap.size := by omega
      have hgB : g < w3.heap.size := hlt1
      rw [← hV4, ← hV5]
      clear hb4 hb5 hb45 hV4 hV5 HR1 HZ1 HS1 HB1b H0V
      clear hs4 V4
      obtain ⟨B, hB⟩ : ∃ B, B = w3.heap.size := ⟨_, rfl⟩
      rw [← hB] at XC5 XI5 hgB hwB ⊢
      clear hB hlt1 htk w3
      obtain ⟨T, hT⟩ : ∃ T, T = buildTo (j : Int) l := ⟨_, rfl⟩
      rw [← hT] at XC5 HST HEND
      have HOK : Hid ((∀ i, i < gg.size → goodA (gg[i]!.toNat : Int) (l.getD (i + 2) e0)) → callB (T gg.size) = true → P (T gg.size) true) := fun h1 h2 => by
        rw [← HEND.out] at h2 ⊢
        exact HYES.out _ (HT2.out HWHO.out HLN.out (HGA.out h1) h2)
      have HBAD : Hid (callB (T gg.size) = false → ∀ c, P c false) := fun h => HNO.out fun k hk => by
        have := (HT1.out k hk).2.2.2.2
        rw [HEND.out, h] at this
        cases this
      have HBAD2 : Hid (∀ i, i < gg.size → ¬ goodA (gg[i]!.toNat : Int) (l.getD (i + 2) e0) → ∀ c, P c false) := fun i hi h => HNO.out fun k hk => HGD.out i hi h (HT1.out k hk).2.2.2.1
      clear hT HNO HYES HT1 HT2 HGD HGA HEND HWHO
      go_loopw [10, 11] (fun _ _ wr => ∃ i : Nat, i ≤ gg.size ∧ wr.heap[B + 1]? = some (.stringIter gg i) ∧ Hid (∀ i', i' < i → goodA (gg[i']!.toNat : Int) (l.getD (i' + 2) e0)) ∧ Hid (RowF g l wr) ∧ Hid (Blk wr w.heap.size 26 [.int .i64 0, .int .i64 0, .int .i64 0, .int .i64 0, .int .i64 0, .int .i64 0, .int .i64 0, .int .i64 0, .int .i64 0]) ∧ Hid (Blk wr B 26 (ccall (T i))) ∧ Hid (Say wr) ∧ Hid (Below w.heap.size w wr)) (fun _ _ wr => gg.size - wr.iterPos (B + 1))
      case atStart => exact ⟨0, by omega, XI5.out, fun i' h => absurd h (by omega), XR5.out, XZ5.out, XC5.out, XS5.out, XB5.out⟩
      case round =>
        obtain ⟨i, hi, hit, YG, YR, YZ, YC, YS, YB⟩ := hrel
        clear XI5 XR5 XZ5 XC5 XS5 XB5
        have hKlt : B + 1 < wr.heap.size := (Array.getElem?_eq_some_iff.1 hit).1
        by_cases hig : i < gg.size
        · have hasc := (HGG.out i hig).1
          have hlet := (HGG.out i hig).2
          have hnx : ∀ ty, (Instr.next (.pointer (some ⟨B + 1, 0, none⟩)) true ty).run Tryd.prog wr = _ := fun ty => Lib.run_next_ascii_at wr (B + 1) gg i ty hit hig hasc
          have hil : i + 2 < n := by have := HLN.out; omega
          have ho2 : o2 = 2 := HO2.out (by omega)
          subst ho2
          have hx8 : (l.getD (i + 2) e0).size ≤ 8000 := by rw [getD_at (by rw [← HNL.out]; exact hil)]; exact HSZ.out _ (List.getElem_mem _)
          have HSI := HST.out i hig
          obtain ⟨W2, hW2⟩ : ∃ W, W = wr.iterAt (B + 1) gg (i + 1) := ⟨_, rfl⟩
          have hot0 : Only (B + 1) wr W2 := by rw [hW2]; exact only_iter _ _ _ _
          have hit2 : W2.heap[B + 1]? = some (.stringIter gg (i + 1)) := by rw [hW2]; exact Lib.iterAt_heap wr (B + 1) gg i (i + 1) hit
          have ZR : Hid (RowF g l W2) := YR.out.only hot0 (by omega)
          have ZZ : Hid (Blk W2 w.heap.size 26 [.int .i64 0, .int .i64 0, .int .i64 0, .int .i64 0, .int .i64 0, .int .i64 0, .int .i64 0, .int .i64 0, .int .i64 0]) := blk_only YZ.out hot0 (by omega)
          have ZC : Hid (Blk W2 B 26 (ccall (T i))) := blk_only YC.out hot0 (by omega)
          have ZS : Hid (Say W2) := YS.out.only hot0 (by obtain ⟨a, b, c⟩ := HAB.out; exact ⟨by omega, by omega, by omega⟩)
          have ZB : Hid (Below w.heap.size w W2) := hot0.below _ _ YB.out (by omega)
          have hK2 : B + 1 < W2.heap.size := (Array.getElem?_eq_some_iff.1 hit2).1
          have f1 : W2.cell? ⟨g, 2 + i, none⟩ = some (.string (l.getD (i + 2) e0)) := by rw [getD_at (by rw [← HNL.out]; exact hil), Nat.add_comm 2 i]; exact ZR.out.2 (i + 2) (by rw [← HNL.out]; exact hil)
          rw [← hW2] at hnx
          have hgi : ((gg[i]'hig).toNat : Int) = (gg[i]!.toNat : Int) := by rw [getElem!_pos gg i hig]
          have HTK : Hid (Calls Tryd.prog 53 #[.pointer (some ⟨B, 0, none⟩), .int .i32 ((gg[i]'hig).toNat : Int), .string (l.getD (i + 2) e0)] W2 (TakenI B W2 (T i) (gg[i]!.toNat : Int) (l.getD (i + 2) e0))) := by rw [hgi]; exact impl_take _ hlet (T i) _ hx8 B W2 ZC.out ZS.out
          have HB2 : Hid _ := HBAD2.out i hig
          have HGX : Hid (goodA (gg[i]!.toNat : Int) (l.getD (i + 2) e0) → ∀ i', i' < i + 1 → goodA (gg[i']!.toNat : Int) (l.getD (i' + 2) e0)) := fun h i' hi' => by
            by_cases e : i' = i
            · rw [e]; exact h
            · exact YG.out i' (by omega)
          have HTK2 : Hid (Calls Tryd.prog 53 #[.pointer (some ⟨B, 0, none⟩), .int .i32 ((gg[i]'hig).toNat : Int), .string (l.getD (i + 2) e0)] W2 fun e w' => ∃ d' b, e = .returned (.bool b) ∧ Blk w' B 26 (ccall d') ∧ Only B W2 w' ∧ ((b = true ∧ goodA (gg[i]!.toNat : Int) (l.getD (i + 2) e0) ∧ d' = T (i + 1)) ∨ (b = false ∧ ¬ goodA (gg[i]!.toNat : Int) (l.getD (i + 2) e0)))) := by
            rw [HSI]; exact HTK.out
          have hin : (i : Int) < ((n - 2 : Nat) : Int) := by omega
          clear hgi hx8 hlet YR YZ YC YS YB hW2 hot0 HSI HTK
          generalize l.getD (i + 2) e0 = x at *
          generalize goodA (gg[i]!.toNat : Int) x = GX at *
          go_wp2_with fail
          refine Calls.mono HTK2.out ?_
          rintro e wt ⟨d', b, rfl, hbt, hot, hgd⟩
          have hitt : wt.heap[B + 1]? = some (.stringIter gg (i + 1)) := (hot.other (B + 1) (by omega) hK2).trans hit2
          have TR : Hid (RowF g l wt) := ZR.out.only hot (by omega)
          have TZ : Hid (Blk wt w.heap.size 26 [.int .i64 0, .int .i64 0, .int .i64 0, .int .i64 0, .int .i64 0, .int .i64 0, .int .i64 0, .int .i64 0, .int .i64 0]) := blk_only ZZ.out hot (by omega)
          have TS : Hid (Say wt) := ZS.out.only hot (by obtain ⟨a, b, c⟩ := HAB.out; exact ⟨by omega, by omega, by omega⟩)
          have TB : Hid (Below w.heap.size w wt) := hot.below _ _ ZB.out (by omega)
          have hlt2 : w.heap.size < wt.heap.size := TZ.out.lt
          rcases hgd with ⟨rfl, hgx, rfl⟩ | ⟨rfl, hgx⟩
          · have TC : Hid (Blk wt B 26 (ccall (T (i + 1)))) := hbt
            have TG : Hid _ := HGX.out hgx
            clear hbt hgx HGX HB2 HTK2 ZR ZZ ZC ZS ZB hot f1 hnx
            go_wp2_with fail
            go_roundw
            case rel => exact ⟨i + 1, by omega, hitt, TG.out, TR.out, TZ.out, TC.out, TS.out, TB.out⟩
            case measure =>
              simp only [World.iterPos, hit, hitt]
              omega
          · have HF : Hid (∀ c, P c false) := HB2.out hgx
            clear hbt hgx HGX HB2 HTK2 ZR ZZ ZC ZS ZB hot f1 hnx
            have z0 : wt.cell? ⟨w.heap.size, 0, none⟩ = some (.int .i64 0) := TZ.out.cell 0
            have y0 := TZ.out.free 0
            have z1 : wt.cell? ⟨w.heap.size, 1, none⟩ = some (.int .i64 0) := TZ.out.cell 1
            have y1 := TZ.out.free 1
            have z2 : wt.cell? ⟨w.heap.size, 2, none⟩ = some (.int .i64 0) := TZ.out.cell 2
            have y2 := TZ.out.free 2
            have z3 : wt.cell? ⟨w.heap.size, 3, none⟩ = some (.int .i64 0) := TZ.out.cell 3
            have y3 := TZ.out.free 3
            have z4 : wt.cell? ⟨w.heap.size, 4, none⟩ = some (.int .i64 0) := TZ.out.cell 4
            have y4 := TZ.out.free 4
            have z5 : wt.cell? ⟨w.heap.size, 5, none⟩ = some (.int .i64 0) := TZ.out.cell 5
            have y5 := TZ.out.free 5
            have z6 : wt.cell? ⟨w.heap.size, 6, none⟩ = some (.int .i64 0) := TZ.out.cell 6
            have y6 := TZ.out.free 6
            have z7 : wt.cell? ⟨w.heap.size, 7, none⟩ = some (.int .i64 0) := TZ.out.cell 7
            have y7 := TZ.out.free 7
            have z8 : wt.cell? ⟨w.heap.size, 8, none⟩ = some (.int .i64 0) := TZ.out.cell 8
            have y8 := TZ.out.free 8
            go_wp2_with fail
            refine bodyPost_ret (v := .tuple #[.agg #[.int .i64 0, .int .i64 0, .int .i64 0, .int .i64 0, .int .i64 0, .int .i64 0, .int .i64 0, .int .i64 0, .int .i64 0], .bool false]) (by simp [results, Tryd.results24, go_sem, z0, z1, z2, z3, z4, z5, z6, z7, z8]) rfl ⟨noCall, false, rfl, HF.out _, ?_⟩
            exact deep.putW_below [.int .i64 0, .int .i64 0, .int .i64 0, .int .i64 0, .int .i64 0, .int .i64 0, .int .i64 0, .int .i64 0, .int .i64 0] TB.out (by omega) (b := 0)
        · obtain rfl : i = gg.size := by omega
          have hnx : ∀ ty, (Instr.next (.pointer (some ⟨B + 1, 0, none⟩)) true ty).run Tryd.prog wr = _ := fun ty => Lib.run_next_end_at wr (B + 1) gg gg.size ty hit (by omega)
          have HPP : Hid (P (T gg.size) (callB (T gg.size))) := by
            show P _ _
            cases h : callB (T gg.size) with
            | true => exact HOK.out YG.out h
            | false => exact HBAD.out h _
          clear HOK HBAD HBAD2 HST HGG YG
          generalize T gg.size = D at *
          have hlt2 : w.heap.size < wr.heap.size := YZ.out.lt
          have hBlt : B < wr.heap.size := by omega
          have HCR : Hid (∀ W, Calls Tryd.prog 22 #[.agg (ccall D).toArray] W fun e w' => e = .returned (.bool (callB D)) ∧ Below W.heap.size W w') := fun W => call.impl_call _ _ _ _ _ _ _ _ _ W
          generalize callB D = kb at *
          obtain ⟨d0, d1, d2, d3, d4, d5, d6, d7, d8⟩ := D
          simp only [ccall] at YC HCR
          have c0 : wr.cell? ⟨B, 0, none⟩ = some (.int .i64 d0) := YC.out.cell 0
          have c1 : wr.cell? ⟨B, 1, none⟩ = some (.int .i64 d1) := YC.out.cell 1
          have c2 : wr.cell? ⟨B, 2, none⟩ = some (.int .i64 d2) := YC.out.cell 2
          have c3 : wr.cell? ⟨B, 3, none⟩ = some (.int .i64 d3) := YC.out.cell 3
          have c4 : wr.cell? ⟨B, 4, none⟩ = some (.int .i64 d4) := YC.out.cell 4
          have c5 : wr.cell? ⟨B, 5, none⟩ = some (.int .i64 d5) := YC.out.cell 5
          have c6 : wr.cell? ⟨B, 6, none⟩ = some (.int .i64 d6) := YC.out.cell 6
          have c7 : wr.cell? ⟨B, 7, none⟩ = some (.int .i64 d7) := YC.out.cell 7
          have c8 : wr.cell? ⟨B, 8, none⟩ = some (.int .i64 d8) := YC.out.cell 8
          have y0 := YZ.out.free 0
          have z0 : wr.cell? ⟨w.heap.size, 0, none⟩ = some (.int .i64 0) := YZ.out.cell 0
          have y1 := YZ.out.free 1
          have z1 : wr.cell? ⟨w.heap.size, 1, none⟩ = some (.int .i64 0) := YZ.out.cell 1
          have y2 := YZ.out.free 2
          have z2 : wr.cell? ⟨w.heap.size, 2, none⟩ = some (.int .i64 0) := YZ.out.cell 2
          have y3 := YZ.out.free 3
          have z3 : wr.cell? ⟨w.heap.size, 3, none⟩ = some (.int .i64 0) := YZ.out.cell 3
          have y4 := YZ.out.free 4
          have z4 : wr.cell? ⟨w.heap.size, 4, none⟩ = some (.int .i64 0) := YZ.out.cell 4
          have y5 := YZ.out.free 5
          have z5 : wr.cell? ⟨w.heap.size, 5, none⟩ = some (.int .i64 0) := YZ.out.cell 5
          have y6 := YZ.out.free 6
          have z6 : wr.cell? ⟨w.heap.size, 6, none⟩ = some (.int .i64 0) := YZ.out.cell 6
          have y7 := YZ.out.free 7
          have z7 : wr.cell? ⟨w.heap.size, 7, none⟩ = some (.int .i64 0) := YZ.out.cell 7
          have y8 := YZ.out.free 8
          have z8 : wr.cell? ⟨w.heap.size, 8, none⟩ = some (.int .i64 0) := YZ.out.cell 8
          have YBH : Hid (Below w.heap.size w wr.drew) := YB.out.drew
          go_wp2_with fail
          go_region_with (go_at_call 22; refine Calls.mono (HCR.out _) ?_; rintro e wc ⟨rfl, hbc⟩; have q0 : wc.cell? ⟨B, 0, none⟩ = some (.int .i64 d0) := (hbc.cell (p := ⟨B, 0, none⟩) hBlt).trans c0; have q1 : wc.cell? ⟨B, 1, none⟩ = some (.int .i64 d1) := (hbc.cell (p := ⟨B, 1, none⟩) hBlt).trans c1; have q2 : wc.cell? ⟨B, 2, none⟩ = some (.int .i64 d2) := (hbc.cell (p := ⟨B, 2, none⟩) hBlt).trans c2; have q3 : wc.cell? ⟨B, 3, none⟩ = some (.int .i64 d3) := (hbc.cell (p := ⟨B, 3, none⟩) hBlt).trans c3; have q4 : wc.cell? ⟨B, 4, none⟩ = some (.int .i64 d4) := (hbc.cell (p := ⟨B, 4, none⟩) hBlt).trans c4; have q5 : wc.cell? ⟨B, 5, none⟩ = some (.int .i64 d5) := (hbc.cell (p := ⟨B, 5, none⟩) hBlt).trans c5; have q6 : wc.cell? ⟨B, 6, none⟩ = some (.int .i64 d6) := (hbc.cell (p := ⟨B, 6, none⟩) hBlt).trans c6; have q7 : wc.cell? ⟨B, 7, none⟩ = some (.int .i64 d7) := (hbc.cell (p := ⟨B, 7, none⟩) hBlt).trans c7; have q8 : wc.cell? ⟨B, 8, none⟩ = some (.int .i64 d8) := (hbc.cell (p := ⟨B, 8, none⟩) hBlt).trans c8; have u0 : wc.cell? ⟨w.heap.size, 0, none⟩ = some (.int .i64 0) := (hbc.cell (p := ⟨w.heap.size, 0, none⟩) hlt2).trans z0; have v0 : wc.frozen? ⟨w.heap.size, 0, none⟩ = false := (hbc.frozen (p := ⟨w.heap.size, 0, none⟩) hlt2).trans y0; have u1 : wc.cell? ⟨w.heap.size, 1, none⟩ = some (.int .i64 0) := (hbc.cell (p := ⟨w.heap.size, 1, none⟩) hlt2).trans z1; have v1 : wc.frozen? ⟨w.heap.size, 1, none⟩ = false := (hbc.frozen (p := ⟨w.heap.size, 1, none⟩) hlt2).trans y1; have u2 : wc.cell? ⟨w.heap.size, 2, none⟩ = some (.int .i64 0) := (hbc.cell (p := ⟨w.heap.size, 2, none⟩) hlt2).trans z2; have v2 : wc.frozen? ⟨w.heap.size, 2, none⟩ = false := (hbc.frozen (p := ⟨w.heap.size, 2, none⟩) hlt2).trans y2; have u3 : wc.cell? ⟨w.heap.size, 3, none⟩ = some (.int .i64 0) := (hbc.cell (p := ⟨w.heap.size, 3, none⟩) hlt2).trans z3; have v3 : wc.frozen? ⟨w.heap.size, 3, none⟩ = false := (hbc.frozen (p := ⟨w.heap.size, 3, none⟩) hlt2).trans y3; have u4 : wc.cell? ⟨w.heap.size, 4, none⟩ = some (.int .i64 0) := (hbc.cell (p := ⟨w.heap.size, 4, none⟩) hlt2).trans z4; have v4 : wc.frozen? ⟨w.heap.size, 4, none⟩ = false := (hbc.frozen (p := ⟨w.heap.size, 4, none⟩) hlt2).trans y4; have u5 : wc.cell? ⟨w.heap.size, 5, none⟩ = some (.int .i64 0) := (hbc.cell (p := ⟨w.heap.size, 5, none⟩) hlt2).trans z5; have v5 : wc.frozen? ⟨w.heap.size, 5, none⟩ = false := (hbc.frozen (p := ⟨w.heap.size, 5, none⟩) hlt2).trans y5; have u6 : wc.cell? ⟨w.heap.size, 6, none⟩ = some (.int .i64 0) := (hbc.cell (p := ⟨w.heap.size, 6, none⟩) hlt2).trans z6; have v6 : wc.frozen? ⟨w.heap.size, 6, none⟩ = false := (hbc.frozen (p := ⟨w.heap.size, 6, none⟩) hlt2).trans y6; have u7 : wc.cell? ⟨w.heap.size, 7, none⟩ = some (.int .i64 0) := (hbc.cell (p := ⟨w.heap.size, 7, none⟩) hlt2).trans z7; have v7 : wc.frozen? ⟨w.heap.size, 7, none⟩ = false := (hbc.frozen (p := ⟨w.heap.size, 7, none⟩) hlt2).trans y7; have u8 : wc.cell? ⟨w.heap.size, 8, none⟩ = some (.int .i64 0) := (hbc.cell (p := ⟨w.heap.size, 8, none⟩) hlt2).trans z8; have v8 : wc.frozen? ⟨w.heap.size, 8, none⟩ = false := (hbc.frozen (p := ⟨w.heap.size, 8, none⟩) hlt2).trans y8; have WB : Hid (Below w.heap.size w wc) := below_tr YBH.out hbc)
          all_goals (
            go_wp2_with fail
            refine bodyPost_ret (v := .tuple #[.agg #[.int .i64 d0, .int .i64 d1, .int .i64 d2, .int .i64 d3, .int .i64 d4, .int .i64 d5, .int .i64 d6, .int .i64 d7, .int .i64 d8], .bool kb]) (by simp [results, Tryd.results24, go_sem, u0, u1, u2, u3, u4, u5, u6, u7, u8]) rfl ⟨⟨d0, d1, d2, d3, d4, d5, d6, d7, d8⟩, kb, rfl, HPP.out, ?_⟩
            exact deep.putW_below [.int .i64 d0, .int .i64 d1, .int .i64 d2, .int .i64 d3, .int .i64 d4, .int .i64 d5, .int .i64 d6, .int .i64 d7, .int .i64 d8] WB.out (by omega) (b := 0))
    · have heq : (((n - 2 : Nat) : Int) != (gg.size : Int)) = true := by simp; omega
      have HF : Hid (∀ c, P c false) := HNO.out fun k h => hln (HT1.out k h).2.2.1
      clear HM HNO HYES HSZ HGG H00 HST HT1 HT2 HGD HGA HEND hmo hln
      have z0 : w3.cell? ⟨w.heap.size, 0, none⟩ = some (.int .i64 0) := HZ1.out.cell 0
      have y0 := HZ1.out.free 0
      have z1 : w3.cell? ⟨w.heap.size, 1, none⟩ = some (.int .i64 0) := HZ1.out.cell 1
      have y1 := HZ1.out.free 1
      have z2 : w3.cell? ⟨w.heap.size, 2, none⟩ = some (.int .i64 0) := HZ1.out.cell 2
      have y2 := HZ1.out.free 2
      have z3 : w3.cell? ⟨w.heap.size, 3, none⟩ = some (.int .i64 0) := HZ1.out.cell 3
      have y3 := HZ1.out.free 3
      have z4 : w3.cell? ⟨w.heap.size, 4, none⟩ = some (.int .i64 0) := HZ1.out.cell 4
      have y4 := HZ1.out.free 4
      have z5 : w3.cell? ⟨w.heap.size, 5, none⟩ = some (.int .i64 0) := HZ1.out.cell 5
      have y5 := HZ1.out.free 5
      have z6 : w3.cell? ⟨w.heap.size, 6, none⟩ = some (.int .i64 0) := HZ1.out.cell 6
      have y6 := HZ1.out.free 6
      have z7 : w3.cell? ⟨w.heap.size, 7, none⟩ = some (.int .i64 0) := HZ1.out.cell 7
      have y7 := HZ1.out.free 7
      have z8 : w3.cell? ⟨w.heap.size, 8, none⟩ = some (.int .i64 0) := HZ1.out.cell 8
      have y8 := HZ1.out.free 8
      go_wp2_with fail
      refine bodyPost_ret (v := .tuple #[.agg #[.int .i64 0, .int .i64 0, .int .i64 0, .int .i64 0, .int .i64 0, .int .i64 0, .int .i64 0, .int .i64 0, .int .i64 0], .bool false]) (by simp [results, Tryd.results24, go_sem, z0, z1, z2, z3, z4, z5, z6, z7, z8]) rfl ⟨noCall, false, rfl, HF.out _, ?_⟩
      exact deep.putW_below [.int .i64 0, .int .i64 0, .int .i64 0, .int .i64 0, .int .i64 0, .int .i64 0, .int .i64 0, .int .i64 0, .int .i64 0] HB1b.out (by omega) (b := 0)
  · subst hb0
    have HF : Hid (∀ c, P c false) := HNO.out fun k h => by
      have := (HT1.out k h).2.1
      rw [hmo] at this
      cases this
    clear HM HNO HYES HSZ HGG H00 HST HT1 HT2 HGD HGA HEND hmo
    have z0 : w3.cell? ⟨w.heap.size, 0, none⟩ = some (.int .i64 0) := HZ1.out.cell 0
    have y0 := HZ1.out.free 0
    have z1 : w3.cell? ⟨w.heap.size, 1, none⟩ = some (.int .i64 0) := HZ1.out.cell 1
    have y1 := HZ1.out.free 1
    have z2 : w3.cell? ⟨w.heap.size, 2, none⟩ = some (.int .i64 0) := HZ1.out.cell 2
    have y2 := HZ1.out.free 2
    have z3 : w3.cell? ⟨w.heap.size, 3, none⟩ = some (.int .i64 0) := HZ1.out.cell 3
    have y3 := HZ1.out.free 3
    have z4 : w3.cell? ⟨w.heap.size, 4, none⟩ = some (.int .i64 0) := HZ1.out.cell 4
    have y4 := HZ1.out.free 4
    have z5 : w3.cell? ⟨w.heap.size, 5, none⟩ = some (.int .i64 0) := HZ1.out.cell 5
    have y5 := HZ1.out.free 5
    have z6 : w3.cell? ⟨w.heap.size, 6, none⟩ = some (.int .i64 0) := HZ1.out.cell 6
    have y6 := HZ1.out.free 6
    have z7 : w3.cell? ⟨w.heap.size, 7, none⟩ = some (.int .i64 0) := HZ1.out.cell 7
    have y7 := HZ1.out.free 7
    have z8 : w3.cell? ⟨w.heap.size, 8, none⟩ = some (.int .i64 0) := HZ1.out.cell 8
    have y8 := HZ1.out.free 8
    go_wp2_with fail
    refine bodyPost_ret (v := .tuple #[.agg #[.int .i64 0, .int .i64 0, .int .i64 0, .int .i64 0, .int .i64 0, .int .i64 0, .int .i64 0, .int .i64 0, .int .i64 0], .bool false]) (by simp [results, Tryd.results24, go_sem, z0, z1, z2, z3, z4, z5, z6, z7, z8]) rfl ⟨noCall, false, rfl, HF.out _, ?_⟩
    exact deep.putW_below [.int .i64 0, .int .i64 0, .int .i64 0, .int .i64 0, .int .i64 0, .int .i64 0, .int .i64 0, .int .i64 0, .int .i64 0] HB1b.out (by omega) (b := 0)
end Go.Proofs.YtacfhchmoiphfaaDoor.scr
