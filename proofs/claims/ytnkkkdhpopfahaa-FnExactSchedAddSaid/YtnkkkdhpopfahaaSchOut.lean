/-
  The laws' helpers at a SchedOut: compared, marked, held; and at rows of tasks that are told. No condition but the lengths.
-/
import Derived.Test.YtnkkkdhpopfahaaSchEq
namespace Go.Proofs.Ytnkkkdhpopfahaa.sch
open Go.RowKit Go.Deep Go.Sort
open Go.Proofs.Ytnkkkdhpopfahaa
open Go.Proofs.Ytnkkkdhpopfahaa.deep
set_option linter.unusedVariables false
set_option maxRecDepth 100000

/-- what a call tells -/
structure SoD where
  y : SchedD
  r : Tt
  code : Int
def soC (d : SoD) (vo vt : Value) : List Value := soL vo d.y.now vt d.r.1 d.r.2.1 d.r.2.2 d.code
def soV (d : SoD) (vo vt : Value) : Value := .agg (soC d vo vt).toArray
def SpecAns (d : SoD) (w : World) (e : Ending) (w' : World) : Prop := ∃ vo vt, e = .returned (soV d vo vt) ∧ SF w.heap.size w' vo vt d.y ∧ Below w.heap.size w w'
def ImplAns (d : SoD) (w : World) (e : Ending) (w' : World) : Prop := ∃ vo vt, e = .returned (soV d vo vt) ∧ SF w.heap.size w' vo vt d.y ∧ Below w.heap.size w w' ∧ Free w' vo ∧ Free w' vt ∧ Two vo vt
/-- what is told beside a code -/
def illD (k : Int) : SoD := ⟨⟨[], 0, []⟩, (0, 0, 0), k⟩
theorem ill_sf (w : World) (lo : Nat) (nw : Int) : SF lo w (.slice none 0 0) (.slice none 0 0) ⟨[], nw, []⟩ := ⟨⟨none, 0, rfl, by simp, fun h => by simp at h⟩, ⟨none, 0, rfl, by simp, fun h => by simp at h⟩⟩
theorem ill_spec (k : Int) {w w' : World} (hb : Below w.heap.size w w') : SpecAns (illD k) w (.returned (.agg (soL (.slice none 0 0) 0 (.slice none 0 0) 0 0 0 k).toArray)) w' := ⟨_, _, rfl, ill_sf _ _ _, hb⟩
theorem free_nil (w : World) : Free w (.slice none 0 0) := fun g o h => by simp [spotOf] at h
theorem ill_impl (k : Int) {w w' : World} (hb : Below w.heap.size w w') : ImplAns (illD k) w (.returned (.agg (soL (.slice none 0 0) 0 (.slice none 0 0) 0 0 0 k).toArray)) w' := ⟨_, _, rfl, ill_sf _ _ _, hb, free_nil _, free_nil _, fun g o g' o' h => by simp [spotOf] at h⟩

theorem eq_task3 (p0 p1 p2 : Int) (w : World) : Calls Try.prog 45 #[.agg #[.int .i64 p0, .int .i64 p1, .int .i64 p2], .agg #[.int .i64 p0, .int .i64 p1, .int .i64 p2]] w fun e w' => e = .returned (.bool true) ∧ Below w.heap.size w w' := (eq_tk p0 p1 p2 w).mono fun e w' h => ⟨h.1, by rw [h.2]; exact below2 _ _ _⟩
set_option maxHeartbeats 2000000 in
theorem eq_so {d : SoD} {l1 l2 : Nat} {w : World} {vo vt uo ut : Value} (h1 : SF l1 w vo vt d.y) (h2 : SF l2 w uo ut d.y) : Calls Try.prog 17 #[soV d vo vt, soV d uo ut] w fun e w' => e = .returned (.bool true) ∧ Below w.heap.size w w' := by
  have HE : Hid (∀ W, Below w.heap.size w W → Calls Try.prog 13 #[.agg #[vo, .int .i64 d.y.now, vt], .agg #[uo, .int .i64 d.y.now, ut]] W fun e w' => e = .returned (.bool true) ∧ Below W.heap.size W w') := fun W hW => eq_sched (h1.later hW) (h2.later hW)
  have HT : Hid (∀ W, Calls Try.prog 45 #[.agg #[.int .i64 d.r.1, .int .i64 d.r.2.1, .int .i64 d.r.2.2], .agg #[.int .i64 d.r.1, .int .i64 d.r.2.1, .int .i64 d.r.2.2]] W fun e w' => e = .returned (.bool true) ∧ Below W.heap.size W w') := fun W => eq_task3 _ _ _ W
  obtain ⟨ao, co, hvo, -⟩ := int_at h1.1
  obtain ⟨at', ct, hvt, -⟩ := tk_at h1.2
  obtain ⟨bo, eo, huo, -⟩ := int_at h2.1
  obtain ⟨bt, et, hut, -⟩ := tk_at h2.2
  clear h1 h2
  simp only [soV, soC, soL]
  generalize d.y.order.length = no at hvo huo
  generalize d.y.tasks.length = nt at hvt hut
  generalize d.y.now = nw at *
  generalize d.r.1 = r0 at *
  generalize d.r.2.1 = r1 at *
  generalize d.r.2.2 = r2 at *
  generalize d.code = k at *
  subst hvo hvt huo hut
  obtain ⟨V, hV⟩ : ∃ V, V = (w.alloc (.cells #[.slice ao no co, .int .i64 nw, .slice at' nt ct, .int .i64 r0, .int .i64 r1, .int .i64 r2, .int .i64 k] 37)).alloc (.cells #[.slice bo no eo, .int .i64 nw, .slice bt nt et, .int .i64 r0, .int .i64 r1, .int .i64 r2, .int .i64 k] 37) := ⟨_, rfl⟩
  have HW : Hid (Below w.heap.size w V) := by rw [hV]; exact below2 _ _ _
  obtain ⟨b1, b2⟩ : Blk V w.heap.size 37 [.slice ao no co, .int .i64 nw, .slice at' nt ct, .int .i64 r0, .int .i64 r1, .int .i64 r2, .int .i64 k] ∧ Blk V (w.heap.size + 1) 37 [.slice bo no eo, .int .i64 nw, .slice bt nt et, .int .i64 r0, .int .i64 r1, .int .i64 r2, .int .i64 k] := by rw [hV]; exact blk2 _ _ _ _ _
  have HB1 : Hid (Blk V w.heap.size 37 [.slice ao no co, .int .i64 nw, .slice at' nt ct, .int .i64 r0, .int .i64 r1, .int .i64 r2, .int .i64 k]) := b1
  have HB2 : Hid (Blk V (w.heap.size + 1) 37 [.slice bo no eo, .int .i64 nw, .slice bt nt et, .int .i64 r0, .int .i64 r1, .int .i64 r2, .int .i64 k]) := b2
  obtain ⟨x0, x1, x2, x3, x4, x5, x6⟩ := seven b1
  obtain ⟨y0, y1, y2, y3, y4, y5, y6⟩ := seven b2
  clear b1 b2
  go_enter Try.func17, Try.ntmps17
  go_wp2_with fail
  rw [← hV]
  clear hV
  refine Calls.mono (HE.out _ HW.out) ?_
  rintro e w1 ⟨rfl, hb1⟩
  have h1 := HB1.out.later hb1
  have h2 := HB2.out.later hb1
  have HW1 : Hid (Below w.heap.size w w1) := below_tr HW.out hb1
  clear x0 x1 x2 x3 x4 x5 x6 y0 y1 y2 y3 y4 y5 y6
  obtain ⟨x0, x1, x2, x3, x4, x5, x6⟩ := seven h1
  obtain ⟨y0, y1, y2, y3, y4, y5, y6⟩ := seven h2
  clear h1 h2
  have G1 : Hid (Blk w1 w.heap.size 37 [.slice ao no co, .int .i64 nw, .slice at' nt ct, .int .i64 r0, .int .i64 r1, .int .i64 r2, .int .i64 k]) := HB1.out.later hb1
  have G2 : Hid (Blk w1 (w.heap.size + 1) 37 [.slice bo no eo, .int .i64 nw, .slice bt nt et, .int .i64 r0, .int .i64 r1, .int .i64 r2, .int .i64 k]) := HB2.out.later hb1
  clear hb1
  go_wp2_with fail
  refine Calls.mono (HT.out _) ?_
  rintro e w2 ⟨rfl, hb2⟩
  have h1 := G1.out.later hb2
  have h2 := G2.out.later hb2
  have HW2 : Hid (Below w.heap.size w w2) := below_tr HW1.out hb2
  clear x0 x1 x2 x3 x4 x5 x6 y0 y1 y2 y3 y4 y5 y6
  obtain ⟨x0, x1, x2, x3, x4, x5, x6⟩ := seven h1
  obtain ⟨y0, y1, y2, y3, y4, y5, y6⟩ := seven h2
  clear h1 h2 hb2
  go_wp2_with fail
  go_ret
  exact ⟨rfl, HW2.out⟩

/-- how many marks there are, and one more -/
def kOf (vo vt : Value) : Int := 1 + (lenOf vo : Int) + 3 * (lenOf vt : Int)
def HeldS (w : World) (vo vt : Value) : Prop := HeldV w 1 vo 1 ∧ HeldV w 3 vt (1 + (lenOf vo : Int)) ∧ (∀ g o, spotOf vo = some (g, o) → 0 < lenOf vo → g < w.heap.size) ∧ ∀ g o, spotOf vt = some (g, o) → 0 < lenOf vt → g < w.heap.size
theorem HeldS.later {w w' : World} {vo vt : Value} (h : HeldS w vo vt) (hb : Below w.heap.size w w') : HeldS w' vo vt :=
  ⟨h.1.later h.2.2.1 hb, h.2.1.later h.2.2.2 hb, fun g o a b => Nat.lt_of_lt_of_le (h.2.2.1 g o a b) hb.size, fun g o a b => Nat.lt_of_lt_of_le (h.2.2.2 g o a b) hb.size⟩
theorem Mks.spot {w : World} {K : Nat} {v : Value} (h : Mks w K v) (hK : 0 < K) : ∀ g o, spotOf v = some (g, o) → 0 < lenOf v → g < w.heap.size := by
  intro g o hs hl
  obtain ⟨a, n, c, rfl, _, hi⟩ := h
  obtain ⟨g', o', rfl, hI⟩ := hi (by simpa [lenOf] using hl)
  simp [spotOf] at hs
  obtain ⟨rfl, rfl⟩ := hs
  obtain ⟨⟨x, hx⟩, _⟩ := hI 0 (by simp [lenOf] at hl; exact Nat.mul_pos hl hK)
  exact (show g' < w.heap.size from by unfold World.cell? at hx; cases e : w.heap[g']? with | none => simp [e] at hx | some o => exact (Array.getElem?_eq_some_iff.1 e).1)
theorem markS_size (w : World) (vo vt : Value) : (markS w vo vt).heap.size = w.heap.size := by rw [markS, markV_size, markV_size]
theorem markS_held {w : World} {vo vt : Value} (h1 : Mks w 1 vo) (h2 : Mks w 3 vt) (ht : Two vo vt) : HeldS (markS w vo vt) vo vt :=
  ⟨(HeldV.here h1 1).mark ht, HeldV.here (h2.mark 1) _, fun g o a b => by rw [markS_size]; exact Mks.spot h1 (by decide) g o a b, fun g o a b => by rw [markS_size]; exact Mks.spot h2 (by decide) g o a b⟩
theorem markS_below {n : Nat} {u w : World} {vo vt : Value} (h : Below n u w) (h1 : ∀ g o, spotOf vo = some (g, o) → 0 < lenOf vo → n ≤ g) (h2 : ∀ g o, spotOf vt = some (g, o) → 0 < lenOf vt → n ≤ g) : Below n u (markS w vo vt) := markV_below (markV_below h h1) h2
theorem markS_keep {w : World} {vo vt : Value} {lo : Nat} (h1 : ∀ g o, spotOf vo = some (g, o) → 0 < lenOf vo → g < lo) (h2 : ∀ g o, spotOf vt = some (g, o) → 0 < lenOf vt → g < lo) : Keep lo w (markS w vo vt) := (mark_keep h1).trans (mark_keep h2)
theorem markV_frozen (w : World) (K : Nat) (v : Value) (k : Int) (x : Addr) : (markV w K v k).frozen? x = w.frozen? x := by
  unfold markV
  split
  · exact putW_frozen _ _ _ _ _
  · rfl
theorem markS_frozen (w : World) (vo vt : Value) (x : Addr) : (markS w vo vt).frozen? x = w.frozen? x := by rw [markS, markV_frozen, markV_frozen]
theorem Blk.keep {lo : Nat} {w w' : World} {B t : Nat} {cs : List Value} (h : Blk w B t cs) (hk : Keep lo w w') (hl : lo ≤ B) : Blk w' B t cs := (hk.block B hl h.lt).trans h
theorem int_marks {w : World} {v : Value} {xs : List Int} {lo : Nat} (h : RowE (Plain cint) 1 lo w v xs) (hf : Free w v) (hn : xs.length ≤ 1048576) : Mks w 1 v :=
  Mks.of h (fun x => ⟨[x], rfl⟩) hf hn (by decide)
theorem tk_marks {w : World} {v : Value} {xs : List Tt} {lo : Nat} (h : RowE (Plain ctk) 3 lo w v xs) (hf : Free w v) (hn : xs.length ≤ 1048576) : Mks w 3 v :=
  Mks.of h (fun x => ⟨[x.1, x.2.1, x.2.2], rfl⟩) hf hn (by decide)

set_option maxHeartbeats 2000000 in
theorem mark_so (d : SoD) {w : World} {vo vt : Value} (h1 : Mks w 1 vo) (h2 : Mks w 3 vt) : Calls Try.prog 20 #[soV d vo vt, .int .i64 1] w fun e w' => e = .returned (.int .i64 (kOf vo vt)) ∧ ∃ V, Below w.heap.size w V ∧ w' = markS V vo vt := by
  simp only [soV, soC, soL]
  obtain ⟨l1, a1, n1, c1, e1⟩ := lenOf_le h1
  obtain ⟨l2, a2, n2, c2, e2⟩ := lenOf_le h2
  generalize d.y.now = nw at *
  generalize d.r.1 = r0 at *
  generalize d.r.2.1 = r1 at *
  generalize d.r.2.2 = r2 at *
  generalize d.code = k at *
  obtain ⟨V, hV⟩ : ∃ V, V = w.alloc (.cells #[vo, .int .i64 nw, vt, .int .i64 r0, .int .i64 r1, .int .i64 r2, .int .i64 k] 37) := ⟨_, rfl⟩
  have hbV : Below w.heap.size w V := by rw [hV]; exact below_one _ _
  have hX : Blk V w.heap.size 37 [vo, .int .i64 nw, vt, .int .i64 r0, .int .i64 r1, .int .i64 r2, .int .i64 k] := by rw [hV]; exact blk_new _ _ _
  have HM : Hid (Calls Try.prog 24 #[.agg #[vo, .int .i64 nw, vt], .int .i64 1] V fun e w' => e = .returned (.int .i64 (1 + (lenOf vo : Int) + 3 * (lenOf vt : Int))) ∧ w' = markS (V.alloc (.cells #[vo, .int .i64 nw, vt] 30)) vo vt) := mark_sched nw (h1.later hbV) (h2.later hbV)
  have HQ : Hid (∃ U, Below w.heap.size w U ∧ markS (V.alloc (.cells #[vo, .int .i64 nw, vt] 30)) vo vt = markS U vo vt) := ⟨_, below_tr hbV (below_one _ _), rfl⟩
  have HK : Hid (kOf vo vt = 1 + (lenOf vo : Int) + 3 * (lenOf vt : Int)) := rfl
  obtain ⟨x0, x1, x2, x3, x4, x5, x6⟩ := seven hX
  generalize markS (V.alloc (.cells #[vo, .int .i64 nw, vt] 30)) vo vt = M at *
  generalize 1 + (lenOf vo : Int) + 3 * (lenOf vt : Int) = K at *
  generalize kOf vo vt = K' at *
  obtain rfl : K' = K := HK.out
  have HQ2 : Hid (∃ U, Below w.heap.size w U ∧ M = markS U vo vt) := HQ.out
  clear h1 h2 hbV hX HK HQ l1 l2
  subst e1 e2
  go_enter Try.func20, Try.ntmps20
  go_wp2_with fail
  rw [← hV]
  clear hV
  refine Calls.mono HM.out ?_
  rintro e w1 ⟨rfl, rfl⟩
  go_wp2_with fail
  go_ret
  exact ⟨rfl, HQ2.out⟩
set_option maxHeartbeats 2000000 in
theorem held_sched (nw : Int) {w : World} {vo vt : Value} (h : HeldS w vo vt) (l1 : (lenOf vo : Int) ≤ 1048576) (l2 : (lenOf vt : Int) ≤ 1048576) : Calls Try.prog 46 #[.agg #[vo, .int .i64 nw, vt], .int .i64 1] w fun e w' => e = .returned (.int .i64 (kOf vo vt)) ∧ Below w.heap.size w w' := by
  obtain ⟨V, hV⟩ : ∃ V, V = w.alloc (.cells #[vo, .int .i64 nw, vt] 30) := ⟨_, rfl⟩
  have hbV : Below w.heap.size w V := by rw [hV]; exact below_one _ _
  have hX : Blk V w.heap.size 30 [vo, .int .i64 nw, vt] := by rw [hV]; exact blk_new _ _ _
  have h' := h.later hbV
  have H1 : Hid (Calls Try.prog 63 #[vo, .int .i64 1] V fun e w' => e = .returned (.int .i64 (1 + (lenOf vo : Int))) ∧ w' = V) := held_ins h'.1 (by omega) (by omega)
  have H2 : Hid (Calls Try.prog 31 #[vt, .int .i64 (1 + (lenOf vo : Int))] V fun e w' => e = .returned (.int .i64 (kOf vo vt)) ∧ w' = V) := held_tks h'.2.1 (by omega) (by omega)
  have hk : 0 ≤ kOf vo vt := by unfold kOf; omega
  have hk2 : (0 : Int) ≤ 1 + (lenOf vo : Int) := by omega
  obtain ⟨x0, x1, x2⟩ := cells3s hX
  obtain ⟨a1, n1, c1, e1, -⟩ := h.1
  obtain ⟨a2, n2, c2, e2, -⟩ := h.2.1
  have HB : Hid (Below w.heap.size w V) := hbV
  generalize kOf vo vt = K at *
  generalize 1 + (lenOf vo : Int) = L at *
  clear h h' hbV hX l1 l2
  subst e1 e2
  go_enter Try.func46, Try.ntmps46
  go_wp2_with fail
  rw [← hV]
  clear hV
  refine Calls.mono H1.out ?_
  rintro e w1 ⟨rfl, rfl⟩
  go_wp2_with fail
  refine Calls.mono H2.out ?_
  rintro e w2 ⟨rfl, rfl⟩
  go_wp2_with fail
  go_ret
  exact ⟨rfl, HB.out⟩
set_option maxHeartbeats 2000000 in
theorem held_so (d : SoD) {w : World} {vo vt : Value} (h : HeldS w vo vt) (l1 : (lenOf vo : Int) ≤ 1048576) (l2 : (lenOf vt : Int) ≤ 1048576) : Calls Try.prog 21 #[soV d vo vt, .int .i64 1] w fun e w' => e = .returned (.int .i64 (kOf vo vt)) ∧ Below w.heap.size w w' := by
  simp only [soV, soC, soL]
  generalize d.y.now = nw at *
  generalize d.r.1 = r0 at *
  generalize d.r.2.1 = r1 at *
  generalize d.r.2.2 = r2 at *
  generalize d.code = k at *
  obtain ⟨V, hV⟩ : ∃ V, V = w.alloc (.cells #[vo, .int .i64 nw, vt, .int .i64 r0, .int .i64 r1, .int .i64 r2, .int .i64 k] 37) := ⟨_, rfl⟩
  have hbV : Below w.heap.size w V := by rw [hV]; exact below_one _ _
  have hX : Blk V w.heap.size 37 [vo, .int .i64 nw, vt, .int .i64 r0, .int .i64 r1, .int .i64 r2, .int .i64 k] := by rw [hV]; exact blk_new _ _ _
  have H1 : Hid (Calls Try.prog 46 #[.agg #[vo, .int .i64 nw, vt], .int .i64 1] V fun e w' => e = .returned (.int .i64 (kOf vo vt)) ∧ Below V.heap.size V w') := held_sched nw (h.later hbV) l1 l2
  have hk : 0 ≤ kOf vo vt := by unfold kOf; omega
  obtain ⟨x0, x1, x2, x3, x4, x5, x6⟩ := seven hX
  obtain ⟨a1, n1, c1, e1, -⟩ := h.1
  obtain ⟨a2, n2, c2, e2, -⟩ := h.2.1
  have HB : Hid (Below w.heap.size w V) := hbV
  generalize kOf vo vt = K at *
  clear h hbV hX l1 l2
  subst e1 e2
  go_enter Try.func21, Try.ntmps21
  go_wp2_with fail
  rw [← hV]
  clear hV
  refine Calls.mono H1.out ?_
  rintro e w1 ⟨rfl, hb1⟩
  have HB1 : Hid (Below w.heap.size w w1) := below_tr HB.out hb1
  clear hb1
  go_wp2_with fail
  go_ret
  exact ⟨rfl, HB1.out⟩
end Go.Proofs.Ytnkkkdhpopfahaa.sch
