/-
  The walk of the program's give: a block is free; as long as its fellow is, both are one.
-/
import Derived.Test.YtcokchfedaoccabBuddyCut
import Derived.Deep.RegionWith
namespace Go.Proofs.Ytcokchfedaoccab.bpool
open Go.RowKit Go.Deep Go.Maps Go.Sort
open Go.Proofs.Ytcokchfedaoccab
open Go.Proofs.Ytcokchfedaoccab.brows
open Go.Proofs.Ytcokchfedaoccab.bspec
open Go.Proofs.Ytcokchfedaoccab.bimpl
open Go.Proofs.Ytcokchfedaoccab.bd (Blk)
set_option linter.unusedVariables false

/-- on the way: y is beside lj, and both cover what l and x cover -/
def Going (n : Nat) (l : List Blk) (x : Blk) (lj : List Blk) (y : Blk) : Prop := bd.Beside n lj y ∧ (∀ p, bd.Cov lj p ∨ bd.cv y p ↔ bd.Cov l p ∨ bd.cv x p) ∧ bd.sumL lj + 2 ^ y.2 = bd.sumL l + 2 ^ x.2
theorem going_start {n : Nat} {l : List Blk} {x : Blk} (hr : bd.Right n l) (hx : bd.In n x) (ho : bd.Off l x) : Going n l x l x := ⟨⟨hr, hx, ho⟩, fun _ => Iff.rfl, rfl⟩
theorem going_step {n : Nat} {l lj : List Blk} {x y : Blk} (h : Going n l x lj y) (hm : bd.fel y ∈ lj) : y.2 < n ∧ ∃ l', Going n l x l' (min y.1 (bd.fel y).1, y.2 + 1) ∧ ∀ z, z ∈ lj.filter (· ≠ bd.fel y) ↔ z ∈ l' := by
  obtain ⟨h1, h2, h3⟩ := h
  have hn := h1.right.ord
  have h32 := bd.pow_le32 hn
  have hyn : y.2 < n := by
    have ho := h1.inn.ord
    rcases Nat.lt_or_ge y.2 n with h | h
    · exact h
    · have e : y.2 = n := by omega
      have hf := h1.right.inn _ hm
      have hl := h1.inn.lt
      have ha := h1.inn.al
      have hfl := hf.lt
      rw [e] at ha
      have hy0 : y.1 = 0 := by rw [Nat.mod_eq_of_lt hl] at ha; exact ha
      simp only [bd.fel, hy0, Nat.zero_xor, e] at hfl
      omega
  obtain ⟨i, hi, he⟩ := List.getElem_of_mem hm
  obtain ⟨g1, g2, g3⟩ := bd.join_step h1 hyn hi he
  refine ⟨hyn, bd.outL lj i, ⟨g1, fun p => (g2 p).trans (h2 p), ?_⟩, fun z => ?_⟩
  · simp only at g3 ⊢; omega
  · rw [bd.mem_out hi h1.right.up, List.mem_filter, he]; simp
theorem going_end {n : Nat} {l lj : List Blk} {x y : Blk} (h : Going n l x lj y) (hm : bd.fel y ∉ lj) : bd.Given n l x (bd.putL lj y) := by
  obtain ⟨h1, h2, h3⟩ := h
  obtain ⟨g1, g2, g3⟩ := bd.give_end h1 (fun _ => hm)
  exact ⟨g1, fun p => (g2 p).trans (h2 p), by rw [g3, h3]⟩
theorem andnot_all : ∀ a : Fin 32, ∀ o : Fin 5, a.val % 2 ^ o.val = 0 → bits .andNot .i64 (a.val : Int) ((2 ^ o.val : Nat) : Int) = ((min a.val (a.val ^^^ 2 ^ o.val) : Nat) : Int) := by decide +kernel

/-- what give leaves -/
def GivPost (n b N : Nat) (l : List Blk) (x : Blk) (w : World) (e : Ending) (w' : World) : Prop :=
  ∃ l', e = .returned (.tuple #[]) ∧ bd.Given n l x l' ∧ Pool w' b (N + 1) l' ∧ w.grownBy w' (some b)
def GivInv (n b N : Nat) (l : List Blk) (x : Blk) (B X : Nat) (w wr : World) : Prop :=
  ∃ (y : Blk) (lj : List Blk), Going n l x lj y ∧ Pool wr b N lj ∧ Blx wr X y.1 y.2 ∧ PBox wr B n b ∧ w.grownBy wr (some b)
theorem Pool.get {w : World} {b n : Nat} {l : List Blk} (h : Pool w b n l) {c k : Nat} (hc : c < 1000) (hk : k < 1000) :
    (Instr.lookup 58 (.map (some b)) (.agg #[.int .i64 c, .int .i64 k]) false).run Try.prog w = .ok (.int .i64 (if (c, k) ∈ l then ((2 ^ k : Nat) : Int) else 0)) w := h.look (y := (c, k)) (wf_emb hc hk)
/-- a look-up in whatever world has grown out of this one -/
theorem look_regrown {W : World} {b n : Nat} {l : List Blk} (h : Pool W b n l) {c k : Nat} (hc : c < 1000) (hk : k < 1000) (v : Int) (hv : (if (c, k) ∈ l then ((2 ^ k : Nat) : Int) else 0) = v) : ∀ d os,
    (Instr.lookup 58 (.map (some b)) (.agg #[.int .i64 c, .int .i64 k]) false).run Try.prog (grow (redrawn W d) os) = .ok (.int .i64 v) (grow (redrawn W d) os) := fun d os => by
  rw [← hv]; exact (h.below (below_regrown W d os) h.lt).get hc hk

theorem giv_round {n b N : Nat} {l l' : List Blk} {x y : Blk} {m B X : Nat} {w wr v2 v3 : World} {A' W' : Int} (hX : Blx v3 X y.1 y.2) (hB : Below v2.heap.size v2 v3) (hgo : Going n l x l' (m, y.2 + 1)) (hp2 : Pool v2 b N l') (hpb : PBox v2 B n b) (hg2 : w.grownBy v2 (some b)) (hA : A' = (m : Int)) (hW : W' = ((y.2 + 1 : Nat) : Int))
    (hbX : b ≠ X) (hBX : B ≠ X) (hXw : w.heap.size ≤ X) (hl : lenAt wr X = y.2) (hy : y.2 < 6) : GivInv n b N l x B X w ((v3.setCell ⟨X, 0, none⟩ (.int .i64 A')).setCell ⟨X, 1, none⟩ (.int .i64 W')) ∧ 6 - lenAt ((v3.setCell ⟨X, 0, none⟩ (.int .i64 A')).setCell ⟨X, 1, none⟩ (.int .i64 W')) X < 6 - lenAt wr X := by
  subst hA hW
  have h1 : Blx ((v3.setCell ⟨X, 0, none⟩ (.int .i64 (m : Int))).setCell ⟨X, 1, none⟩ (.int .i64 ((y.2 + 1 : Nat) : Int))) X m ((y.2 + 1 : Nat) : Int) := blx_set hX
  refine ⟨⟨(m, y.2 + 1), l', hgo, ?_, h1, ?_, ?_⟩, ?_⟩
  · exact (hp2.below hB hp2.lt).block (by rw [Below.heap_setCell _ _ _ _ hbX, Below.heap_setCell _ _ _ _ hbX])
  · exact PBox.far (PBox.far ((hB.block _ hpb.lt).trans hpb) hBX) hBX
  · exact grown_new (grown_new (grown_trans hg2 (grown_below hB _)) hXw) hXw
  · rw [lenAt_of h1, hl]; omega

set_option maxRecDepth 100000 in
set_option maxHeartbeats 4000000 in
theorem impl_giv (n b N : Nat) (l : List Blk) (x : Blk) (hr : bd.Right n l) (hx : bd.In n x) (hof : bd.Off l x) (hN : N ≤ 100) (w : World) (hp : Pool w b N l) :
    Calls Try.prog 45 #[.agg #[.int .i64 n, .map (some b)], .agg #[.int .i64 x.1, .int .i64 x.2]] w (GivPost n b N l x w) := by
  have hb := hp.lt
  have hn5 := hr.ord
  have hn32 := bd.pow_le32 hn5
  obtain ⟨hpb, hxb⟩ := pbox_new w n b x.1 x.2
  have HGO : Hid (Going n l x l x) := going_start hr hx hof
  have HP : Hid (∀ o1 o2 : Obj, Pool ((w.alloc o1).alloc o2) b N l) := fun o1 o2 => (hp.kept (World.grownBy_alloc _ _ none) (by simp)).kept (World.grownBy_alloc _ _ none) (by simp)
  have HPB : Hid (PBox ((w.alloc (.cells #[.int .i64 n, .map (some b)] 60)).alloc (.cells #[.int .i64 x.1, .int .i64 x.2] 68)) w.heap.size n b) := hpb
  have HXB : Hid (Blx ((w.alloc (.cells #[.int .i64 n, .map (some b)] 60)).alloc (.cells #[.int .i64 x.1, .int .i64 x.2] 68)) (w.heap.size + 1) x.1 x.2) := hxb
  clear hp hr hx hof hpb hxb
  go_enter Try.func45, Try.ntmps45
  go_wp2_with fail
  go_loopw [] (fun wr => GivInv n b N l x w.heap.size (w.heap.size + 1) w wr) (fun wr => 6 - lenAt wr (w.heap.size + 1))
  case atStart => exact ⟨x, l, HGO.out, HP.out _ _, HXB.out, HPB.out, grown_trans (World.grownBy_alloc _ _ _) (World.grownBy_alloc _ _ _)⟩
  case round =>
    obtain ⟨y, lj, hgo, hpj, hxj, hbj, hgj⟩ := hrel
    have HGJ : Hid (Going n l x lj y) := hgo
    have HPJ : Hid (Pool wr b N lj) := hpj
    have HXJ : Hid (Blx wr (w.heap.size + 1) y.1 y.2) := hxj
    have HBJ : Hid (PBox wr w.heap.size n b) := hbj
    have HGW : Hid (w.grownBy wr (some b)) := hgj
    have HLJ : Hid (lenAt wr (w.heap.size + 1) = y.2) := lenAt_of hxj
    have hyin := hgo.1.inn
    have hy1 : y.1 < 32 := by have := hyin.lt; omega
    have hy2 : y.2 ≤ 5 := by have := hyin.ord; omega
    have HAL : Hid (y.1 % 2 ^ y.2 = 0) := hyin.al
    obtain ⟨x0, x1, g0, g1⟩ := hxj.cells
    obtain ⟨b0, b1⟩ := hbj.cells
    have hws := hxj.lt
    have hp32 : 2 ^ y.2 ≤ 32 := bd.pow_le32 hy2
    have hf64 : y.1 ^^^ 2 ^ y.2 < 64 := Nat.xor_lt_two_pow (n := 6) (by omega) (by omega)
    have HFE : Hid (∀ W, _) := fun W => impl_fellow y.1 y.2 (by omega) hy2 W
    clear hgo hpj hxj hbj hgj hyin
    by_cases hm : bd.fel y ∈ lj
    · obtain ⟨hyn, l', hg', hm'⟩ := going_step HGJ.out hm
      have HPG : Hid (∀ W, _) := fun W => impl_pages (y.1 : Int) y.2 hy2 W
      have HANX : Hid (bits .andNot .i64 (y.1 : Int) ((2 ^ y.2 : Nat) : Int) = ((min y.1 (y.1 ^^^ 2 ^ y.2) : Nat) : Int)) := andnot_all ⟨y.1, hy1⟩ ⟨y.2, by omega⟩ HAL.out
      have HWR : Hid (IntKind.i64.wrap ((y.2 : Int) + 1) = ((y.2 + 1 : Nat) : Int)) := IntWalk.i64_in _ (by omega)
      have HG' : Hid (Going n l x l' (min y.1 (y.1 ^^^ 2 ^ y.2), y.2 + 1)) := hg'
      have HDEL : Hid (∀ W, Pool W b N lj → ∃ w', (Builtin.delete_ #[58, 68] 0 #[.map (some b), .agg #[.int .i64 ((y.1 ^^^ 2 ^ y.2 : Nat) : Int), .int .i64 y.2]]).run Try.prog W = .ok (.tuple #[]) w' ∧ Pool w' b N l' ∧ W.grownBy w' (some b)) := fun W hW => by
        obtain ⟨w', h1, h2, h3⟩ := hW.drop (y := bd.fel y) (wf_emb (by show y.1 ^^^ 2 ^ y.2 < 1000; omega) (by show y.2 < 1000; omega)) 0
        exact ⟨w', h1, h2.congr hm', h3⟩
      clear hg' hm'
      have hk0 := look_regrown HPJ.out (c := y.1 ^^^ 2 ^ y.2) (k := y.2) (by omega) (by omega) _ (if_pos hm)
      have hpo0 := bd.pow_pos' y.2
      have kx0 := cell_regrown x0
      have kx1 := cell_regrown x1
      have kb0 := cell_regrown b0
      have kb1 := cell_regrown b1
      have cF : ∀ d os, _ := fun d os => Calls.regrown_of (w := wr) (d := d) (os := os) (HFE.out _)
      go_wp2_with fail
      generalize 2 ^ y.2 = t at *
      refine wp_region_quiet_below (by kernel_rfl) (by kernel_rfl) ?_
      repeat (go_big_quiet_step (first | (go_at_call 56; exact cF _ _)))
      refine wpQuiet_nil ?_
      intro _ hw'
      obtain ⟨⟨dq, osq⟩, hw''⟩ := hw'
      subst hw''
      obtain ⟨U, hU⟩ : ∃ U, U = grow (redrawn wr dq) osq := ⟨_, rfl⟩
      have hbU : Below wr.heap.size wr U := by rw [hU]; exact below_regrown wr dq osq
      have HXU : Hid (Blx U (w.heap.size + 1) y.1 y.2) := (hbU.block _ hws).trans HXJ.out
      have HBU : Hid (PBox U w.heap.size n b) := (hbU.block _ HBJ.out.lt).trans HBJ.out
      have HPU : Hid (Pool U b N lj) := HPJ.out.below hbU HPJ.out.lt
      have HGU : Hid (w.grownBy U (some b)) := grown_trans HGW.out (grown_below hbU _)
      have hU2 : w.heap.size + 1 < U.heap.size := HXU.out.lt
      have hbU2 : b < U.heap.size := by omega
      obtain ⟨X0, X1⟩ := HBU.out.cells
      obtain ⟨Q0, Q1, _, _⟩ := HXU.out.cells
      rw [← hU]
      clear hU hbU x0 x1 g0 g1 b0 b1 HXJ HBJ HPJ HGW kx0 kx1 kb0 kb1 cF hk0 hm
      go_wp2_with fail
      go_region_held3 (fun W => W.cell? ⟨w.heap.size, 0, none⟩ = some (.int .i64 n) ∧ W.cell? ⟨w.heap.size, 1, none⟩ = some (.map (some b)) ∧ W.cell? ⟨w.heap.size + 1, 0, none⟩ = some (.int .i64 y.1) ∧ W.cell? ⟨w.heap.size + 1, 1, none⟩ = some (.int .i64 y.2))
        (first | assumption | exact ⟨X0, X1, Q0, Q1⟩ | exact Z | exact Y)
        (first | (go_at_call 56; refine Calls.mono (HFE.out _) ?_; rintro e v1 ⟨rfl, hb1⟩; have hb2 : Below U.heap.size U v1 := Below.trans (Below.drew (Below.refl U.heap.size U)) hb1; have Z := four_cells hb2 hU2 X0 X1 Q0 Q1; have HB1 : Hid (Below U.heap.size U v1) := hb2; have HPV1 : Hid (Pool v1 b N lj) := HPU.out.below hb2 hbU2; obtain ⟨v2, hr2, hp2, hg2⟩ := HDEL.out _ HPV1.out; have Y := four_grown hg2 (by omega) (by omega) Z; have HP2 : Hid (Pool v2 b N l') := hp2; have HG2 : Hid _ := hg2; clear hb1 hb2 hp2 hg2))
      have HGE : Hid (U.grownBy v2 (some b)) := grown_trans (grown_below HB1.out _) HG2.out
      have HX2 : Hid (Blx v2 (w.heap.size + 1) y.1 y.2) := Blx.grown HXU.out HGE.out (by simp; omega)
      have HBX2 : Hid (PBox v2 w.heap.size n b) := PBox.grown HBU.out HGE.out (by simp; omega)
      have HGV2 : Hid (w.grownBy v2 (some b)) := grown_trans HGU.out HGE.out
      obtain ⟨x0, x1, g0, g1⟩ := HX2.out.cells
      clear Y Z X0 X1 Q0 Q1 hr2 HDEL HPV1 HB1
      have hV2 := HX2.out.lt
      go_wp2_with fail
      go_region_with (go_at_call 48; refine Calls.mono (HPG.out _) ?_; rintro e v3 ⟨rfl, hb3⟩; have hb4 : Below v2.heap.size v2 v3 := Below.trans (Below.drew (Below.refl v2.heap.size v2)) hb3; have HX3 : Hid (Blx v3 (w.heap.size + 1) y.1 y.2) := (hb4.block _ hV2).trans HX2.out; have HB3 : Hid (Below v2.heap.size v2 v3) := hb4; obtain ⟨z0, z1, gz0, gz1⟩ := HX3.out.cells; clear hb3 hb4)
      all_goals (first | exact giv_round HX3.out HB3.out HG'.out HP2.out HBX2.out HGV2.out HANX.out HWR.out (by omega) (by omega) (by omega) HLJ.out (by omega) | (go_wp2_with fail; exact giv_round HX3.out HB3.out HG'.out HP2.out HBX2.out HGV2.out HANX.out HWR.out (by omega) (by omega) (by omega) HLJ.out (by omega)))
    · have hk0 := look_regrown HPJ.out (c := y.1 ^^^ 2 ^ y.2) (k := y.2) (by omega) (by omega) _ (if_neg hm)
      have HEND : Hid (bd.Given n l x (bd.putL lj y)) := going_end HGJ.out hm
      have HADD : Hid (∀ W, Pool W b N lj → _) := fun W hW => impl_add (n : Int) b N lj y (by omega) hy2 W hW (by omega)
      have kx0 := cell_regrown x0
      have kx1 := cell_regrown x1
      have kb0 := cell_regrown b0
      have kb1 := cell_regrown b1
      have cF : ∀ d os, _ := fun d os => Calls.regrown_of (w := wr) (d := d) (os := os) (HFE.out _)
      go_wp2_with fail
      generalize 2 ^ y.2 = t at *
      refine wp_region_quiet_below (by kernel_rfl) (by kernel_rfl) ?_
      repeat (go_big_quiet_step (first | (go_at_call 56; exact cF _ _)))
      refine wpQuiet_nil ?_
      intro _ hw'
      obtain ⟨⟨dq, osq⟩, hw''⟩ := hw'
      subst hw''
      obtain ⟨U, hU⟩ : ∃ U, U = grow (redrawn wr dq) osq := ⟨_, rfl⟩
      have hbU : Below wr.heap.size wr U := by rw [hU]; exact below_regrown wr dq osq
      have HXU : Hid (Blx U (w.heap.size + 1) y.1 y.2) := (hbU.block _ hws).trans HXJ.out
      have HBU : Hid (PBox U w.heap.size n b) := (hbU.block _ HBJ.out.lt).trans HBJ.out
      have HPU : Hid (Pool U b N lj) := HPJ.out.below hbU HPJ.out.lt
      have HGU : Hid (w.grownBy U (some b)) := grown_trans HGW.out (grown_below hbU _)
      obtain ⟨X0, X1⟩ := HBU.out.cells
      obtain ⟨Q0, Q1, _, _⟩ := HXU.out.cells
      rw [← hU]
      clear hU hbU x0 x1 g0 g1 b0 b1 HXJ HBJ HPJ HGW kx0 kx1 kb0 kb1 cF hk0 hm
      go_wp2_with fail
      refine Calls.mono (HADD.out _ HPU.out) ?_
      rintro e v2 ⟨rfl, hp2, hg2⟩
      have HPE : Hid (Pool v2 b (N + 1) (bd.putL lj y)) := hp2.congr (fun z => by rw [bd.mem_putL, List.mem_cons])
      have HGE : Hid (w.grownBy v2 (some b)) := grown_trans HGU.out hg2
      clear hp2 hg2
      go_wp2_with fail
      go_end0
      exact ⟨_, rfl, HEND.out, HPE.out, HGE.out⟩
end Go.Proofs.Ytcokchfedaoccab.bpool
