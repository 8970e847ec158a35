/-
  The walks of LabelsTo, the specification's and the program's, at every number: each hands back a row of its own that holds the labels that flow to it, rising. No condition.
-/
import Derived.Test.YtpiankpopgndhabLabel
import Derived.Deep.OwnRows
import Derived.RangeFuncNested
import Derived.RangeFuncLeaves
import Derived.Shelf.Abstract
import Derived.OwnWalkIn
import Derived.TacticsInMore
import Derived.LoopNIn
import Derived.LoopIn
import Derived.Maps.AppendAt
namespace Go.Proofs.Ytpiankpopgndhab.lto
open Go.RowKit Go.Shelf Go.Deep
open Go.Proofs.Ytpiankpopgndhab.label (flo rightB)

attribute [local go_sem] Oper.semAt_some

theorem val_int {k : IntKind} {a b : Int} (h : a = b) : Value.int k a = .int k b := by rw [h]
/-- the labels that flow to a number, rising -/
def numsTo (l : Int) : List Int := ((List.range 16).filter fun a : Nat => flo (a : Int) l).map fun a : Nat => (a : Int)
/-- the sets of a label's bits, rising -/
def subs (m : Nat) : List (Fin 16) := (List.finRange 16).filter fun a => decide (a.val &&& m = a.val)
/-- the next set of a label's bits, 0 behind the last -/
def stepI (m : Nat) (x : Int) : Int := bits .and .u8 ((x - (m : Int)) % 256) (m : Int)
def checkB (m k : Nat) : Bool :=
  match (subs m)[k]?, (subs m)[k + 1]? with
  | some x, some y => (stepI m (x.val : Int) == 0) == false && stepI m (x.val : Int) == (y.val : Int) && decide (x.val < y.val)
  | some x, none => stepI m (x.val : Int) == 0
  | none, _ => true
theorem subs_all : ∀ m : Nat, m < 16 → (subs m).map (fun x => (x.val : Int)) = numsTo m := by decide +kernel
theorem first_all : ∀ m : Nat, m < 16 → (subs m)[0]? = some 0 := by decide +kernel
theorem check_all : ∀ m : Nat, m < 16 → ∀ k : Nat, k < 16 → checkB m k = true := by decide +kernel
theorem len_all : ∀ m : Nat, m < 16 → (subs m).length ≤ 16 := by decide +kernel
theorem next_of {m k : Nat} {x : Fin 16} (hm : m < 16) (h : (subs m)[k]? = some x) :
    ((stepI m (x.val : Int) == 0) = true ∧ (subs m).take (k + 1) = subs m) ∨
    ((stepI m (x.val : Int) == 0) = false ∧ ∃ y : Fin 16, (subs m)[k + 1]? = some y ∧ stepI m (x.val : Int) = (y.val : Int) ∧ x.val < y.val) := by
  have hk : k < (subs m).length := (List.getElem?_eq_some_iff.1 h).1
  have hl := len_all m hm
  have hc := check_all m hm k (by omega)
  unfold checkB at hc
  rw [h] at hc
  cases h2 : (subs m)[k + 1]? with
  | none =>
    rw [h2] at hc
    exact Or.inl ⟨hc, List.take_of_length_le (by have := List.getElem?_eq_none_iff.1 h2; omega)⟩
  | some y =>
    rw [h2] at hc
    simp only [Bool.and_eq_true, beq_iff_eq, decide_eq_true_eq] at hc
    exact Or.inr ⟨hc.1.1, y, rfl, hc.1.2, hc.2⟩

set_option maxRecDepth 100000 in
set_option maxHeartbeats 1000000 in
theorem iter_in (F : Fence) (n : Nat) (hf : F.fn 37) (hro : F.round = none) (hn : 1 ≤ n) (l Bn m : Nat) (hm : m < 16) (J Jx : List (Fin 16) → World → Prop)
    (hY : ∀ pre x W, J pre W → pre.length < (subs m).length → YieldAt F (n - 1) Try.prog l #[.int .u8 (x.val : Int)] W fun e W' =>
      (e = .returned (.bool true) ∧ J (pre ++ [x]) W' ∧ (Boxed W Bn 41 (.int .u8 (m : Int)) → Boxed W' Bn 41 (.int .u8 (m : Int)))) ∨ (e = .returned (.bool false) ∧ Jx (pre ++ [x]) W'))
    (W : World) (hBn : Boxed W Bn 41 (.int .u8 (m : Int))) (h0 : J [] W) :
    CallsIn F n Try.prog 37 #[.func (.yield l) #[] #[], .pointer (some ⟨Bn, 0, none⟩)] W fun e W' => (∃ v, e = .returned v) ∧
      ((∃ ys, ys = subs m ∧ J ys W') ∨ (∃ pre, pre <+: subs m ∧ Jx pre W')) := by
  refine callsIn_of_wp Try.func37 rfl hf ?_ hro
  simp only [Try.ntmps37, List.size_toArray, List.length_cons, List.length_nil, Nat.reduceAdd, Nat.reduceSub, Array.replicate_succ, Array.replicate_zero, List.push_toArray, List.append_toArray, List.nil_append, List.cons_append]
  gi_wp2
  gi_loopw [3] (fun p wr => ∃ (k : Nat) (x : Fin 16), p = .int .u8 (x.val : Int) ∧ Hid ((subs m)[k]? = some x) ∧ Boxed wr Bn 41 (.int .u8 (m : Int)) ∧ J ((subs m).take k) wr) (fun p wr => 16 - (intOf p).toNat)
  case atStart => exact ⟨0, 0, rfl, first_all m hm, hBn, h0⟩
  case round =>
    obtain ⟨k, x, rfl, hx, hb, hJ⟩ := hrel
    have hlt : k < (subs m).length := (List.getElem?_eq_some_iff.1 hx.out).1
    have hxm := x.isLt
    have HN : Hid _ := next_of hm hx.out
    have hsn : (subs m).take k ++ [x] = (subs m).take (k + 1) := by rw [List.take_add_one, hx.out]; rfl
    obtain ⟨fn, tmps, assign, body, hy, hR⟩ := hY ((subs m).take k) x wr hJ (by simp; omega)
    rw [hsn] at hR
    have HS : Hid _ := hsn
    clear hsn hY
    gi_wp2
    refine hR.mono ?_
    rintro e W3 (⟨rfl, hJ3, hk3⟩ | ⟨rfl, hJx3⟩)
    · have hb3 := hk3 hb
      have hc3 := hb3.cell
      clear hR hk3 hb
      rcases HN.out with ⟨hz, he⟩ | ⟨hz, y, hy1, hy2, hy3⟩
      · have HE : Hid _ := he
        unfold stepI at hz
        clear he
        gi_wp2
        refine bodyPost_ret (results_none rfl _ _ _) rfl ?_
        exact ⟨⟨_, rfl⟩, .inl ⟨_, HE.out, hJ3⟩⟩
      · have HY : Hid _ := hy1
        have HV : Hid _ := hy2
        have hyl := y.isLt
        unfold stepI at hz
        clear hy1 hy2
        gi_wp2
        go_roundw
        case rel => exact ⟨k + 1, y, val_int HV.out, HY, hb3, hJ3⟩
        case measure =>
          have e : bits .and .u8 (((x.val : Int) - (m : Int)) % 256) (m : Int) = (y.val : Int) := HV.out
          rw [e]
          simp [intOf]
          omega
    · gi_wp2
      go_end0
      exact ⟨⟨_, rfl⟩, .inr ⟨_, List.take_prefix _ _, hJx3⟩⟩

set_option maxHeartbeats 1000000 in
theorem below_in (F : Fence) (n : Nat) (hf : F.fn 26) (hro : F.round = none) (m : Int) (w : World) :
    CallsIn F n Try.prog 26 #[.int .u8 m] w fun e w' => e = .returned (.func (.func 37) #[] #[.pointer (some ⟨w.heap.size, 0, none⟩)]) ∧ w' = w.alloc (.cells #[.int .u8 m] 41) := by
  refine callsIn_of_wp Try.func26 rfl hf ?_ hro
  simp only [Try.ntmps26, List.size_toArray, List.length_cons, List.length_nil, Nat.reduceAdd, Nat.reduceSub, Array.replicate_succ, Array.replicate_zero, List.push_toArray, List.append_toArray, List.nil_append, List.cons_append]
  gi_wp2
  go_ret
  exact ⟨rfl, rfl⟩

/-- what a round keeps: the box of the label -/
def Kept (Bn m : Nat) (W W' : World) : Prop := Boxed W Bn 41 (.int .u8 (m : Int)) → Boxed W' Bn 41 (.int .u8 (m : Int))
theorem kept_t {Bn m : Nat} {A B C : World} (h : Kept Bn m A B) (k : Kept Bn m B C) : Kept Bn m A C := fun x => k (h x)
theorem kept_b {Bn m : Nat} (W : World) (l : Nat) (o o' : Obj) (h : W.heap[l]? = some o) (hc : o.isCells = false) : Kept Bn m W (W.putObj l o') := fun hb =>
  hb.kept (grownBy_putObj' W l o') (fun e => by
    cases e
    rw [show W.heap[Bn]? = _ from hb] at h
    cases h
    cases hc)
theorem stops (F : Fence) (n : Nat) (hf : F.fn 37) (hro : F.round = none) (hn : 1 ≤ n) (Bn m : Nat) (hm : m < 16) (w : World) (hBn : Boxed w Bn 41 (.int .u8 (m : Int))) :
    SeqStopsK F n Try.prog 37 #[.pointer (some ⟨Bn, 0, none⟩)] (fun x : Fin 16 => #[Value.int .u8 (x.val : Int)]) (Kept Bn m) (fun ys => ys = subs m) (fun pre => pre <+: subs m) (subs m).length w := fun l J Jx W hW _ _ hY h0 =>
  iter_in F n hf hro hn l Bn m hm J Jx hY W ((hW.block Bn hBn.lt).trans hBn) h0

theorem info2 : (Try.prog.info? 2).map (fun i => (i.zero, i.size, i.bytes)) = some (some (.int .i64 0), 1, 8) := by kernel_rfl
def ints (pre : List (Fin 16)) : List Int := pre.map fun x => (x.val : Int)

set_option maxRecDepth 100000 in
set_option maxHeartbeats 2000000 in
theorem impl_some_in (F : Fence) (hW : ∀ {n f args w R}, Calls Try.prog f args w R → CallsIn F n Try.prog f args w R) (h3 : F.fn 6) (h4 : F.fn 26) (h5 : F.fn 37) (h6 : F.fn 24) (hro : F.round = none) (n : Nat) (hn : 3 ≤ n) (m : Nat) (hm : m < 16) (w : World) :
    CallsIn F n Try.prog 6 #[.int .i64 m] w fun e W' => ∃ v, e = .returned v ∧ W'.ownsRow w.heap.size 2 1 v (subs m).length ((ints (subs m)).map (Value.int .i64)) ∧ Below w.heap.size w W' := by
  have hr := fun W => label.impl_right m W
  rw [label.rightB_of m (by omega) (by omega)] at hr
  have HR : Hid _ := hr
  clear hr
  have h1 : 1 ≤ n := by omega
  have hm1 : (m : Int) ≤ 15 := by omega
  have hsl := len_all m hm
  obtain ⟨i0, hi, hz0, hz1, hz2⟩ := info_parts info2
  refine callsIn_of_wp_marks Try.func6 rfl h3 ?_ hro
  simp only [Try.ntmps6, List.size_toArray, List.length_cons, List.length_nil, Nat.reduceAdd, Nat.reduceSub, Array.replicate_succ, Array.replicate_zero, List.push_toArray, List.append_toArray, List.nil_append, List.cons_append]
  gi_wp2_with (first | (gi_at_call 26; refine (below_in F _ h4 hro _ _).mono ?_; rintro e w' ⟨rfl, rfl⟩) | (gi_at_call 24; refine (hW (HR.out _)).mono ?_; rintro e w1 ⟨rfl, rfl⟩))
  have bO := Boxed.new w1 22 (.slice none 0 0)
  have bN := Boxed.new (w1.alloc (.cells #[.slice none 0 0] 22)) 41 (.int .u8 (m : Int))
  rw [World.size_alloc] at bN
  have hB0 : Below w1.heap.size w1 ((w1.alloc (.cells #[.slice none 0 0] 22)).alloc (.cells #[.int .u8 (m : Int)] 41)) := ((Below.refl _ w1).alloc (Nat.le_refl _) _).alloc (by simp) _
  refine wpIn_rangeFunc_ownG hro h1 (gf := 37) (lb := #[.pointer (some ⟨w1.heap.size + 1, 0, none⟩)]) rfl h5 (enters_of Try.func37 (by kernel_rfl) rfl)
    (stops F (n - 1) h5 hro (by omega) (w1.heap.size + 1) m hm _ bN) kept_t (fun W l o o' _ h hc _ => kept_b W l o o' h hc) (Below.refl _ _) (fun _ => rfl)
    (fun pre W => (∃ v, Boxed W w1.heap.size 22 v ∧ W.ownsRow w1.heap.size 2 1 v pre.length ((ints pre).map (Value.int .i64)) ∧ True) ∧ Below w1.heap.size w1 W)
    (fun _ _ _ => False)
    (OwnFrom.and (Own.from (holdsRow_own w1.heap.size w1.heap.size 22 2 1 (fun pre => pre.length) (fun pre => (ints pre).map (Value.int .i64)) (fun _ _ => True)) _) (ownFrom_below (Nat.le_refl _) (by simp; omega)))
    (fun _ _ _ _ _ hs _ _ => hs)
    ⟨⟨_, bO.alloc _, World.ownsRow_nil _ _ _ _, trivial⟩, hB0⟩
    (fun x => { tmps := #[.int .i64 m, undef, .slice none 0 0, .pointer (some ⟨w1.heap.size, 0, none⟩), .int .u8 (x.val : Int), .int .i64 m, .bool true, .bool false, .int .i64 m, .int .u8 m, .func (.func 37) #[] #[.pointer (some ⟨w1.heap.size + 1, 0, none⟩)], .int .u8 (x.val : Int), undef, undef, undef, undef, undef, undef], defers := [] }) ?assign ?body ?done ?stop
  case assign =>
    intro l x W K hK
    gi_wp2
    exact hK
  case body =>
    rintro l pre x W ⟨⟨v, hv, hrow, _⟩, hB⟩ hlt
    have hc := hv.cell
    have hxm := x.isLt
    have hx1 : (x.val : Int) ≤ 15 := by omega
    gi_wp2_with (gi_at_builtin; refine wpListIn_append_own _ rfl _ _ 22 rfl w1.heap.size 2 i0 (.int .i64 0) 1 8 Try.underlying22 hi hz0 hz1 hz2 rfl (by decide) _ _ _ rfl (hrow.alloc _) ⟨W.heap.size, 0, none⟩ 1 1 [.int .i64 (x.val : Int)] rfl rfl (cell_one_new _ _ _) (by simp [Value.oneCell']) (by unfold maxLen; omega) (by omega) (by have := hB.size; simp; omega) ?_; intro v' w2 hown' hgrow _; obtain ⟨g', cap', rfl⟩ := ownsRow_succ hown'; obtain ⟨hv1, hv2, hr2, hk2, hb2⟩ := hv.appended (by decide) hrow hB.size (Nat.le_refl _) hown' hgrow; have hc1 := hv1.cell; have hf1 := hv1.frozen)
    exact ⟨hk2.from _, fun hb => ((hb.alloc _).kept hgrow (hb.not_row (by decide) hrow)).other (by omega) _, ⟨_, hv2, by simpa [ints] using hr2, trivial⟩, hB.trans hb2⟩
  case done =>
    rintro D ys W hD rfl ⟨⟨v, hv, hrow, _⟩, hB⟩ hK
    have hc := hv.cell
    gi_wp2
    refine ⟨by simp, .inl ⟨_, _, rfl, run_takeDeferred hK, ?_⟩⟩
    exact ⟨_, results_tmp rfl _ _ _, v, rfl, ownsRow_putObj hrow _ hK rfl, hB.trans (belowK_b (w := w1) (Nat.le_refl _) W D _ _ (by simp at hD; omega) hK rfl rfl)⟩
  case stop =>
    rintro D c pre W _ _ h _
    exact h.elim

/-- what LabelsTo hands back: a row of its own -/
def Gives (w : World) (xs : List Int) (e : Ending) (w' : World) : Prop := ∃ v, e = .returned v ∧ w'.ownsRow w.heap.size 2 1 v xs.length (xs.map (Value.int .i64)) ∧ Below w.heap.size w w'

theorem nums_none {l : Int} (h : rightB l = false) : numsTo l = [] := by simp [numsTo, flo, h]

theorem impl_to (l : Int) (w : World) : Calls Try.prog 6 #[.int .i64 l] w (Gives w (numsTo l)) := by
  cases h : rightB l with
  | true =>
    have hy := label.right_yes l h
    obtain ⟨m, hm, rfl⟩ := label.nat_of l hy.1 hy.2
    refine ((callsIn_wide (n := 3)).1 (impl_some_in Fence.wide (fun h => callsIn_wide.2 h) trivial trivial trivial trivial rfl 3 (by omega) m hm w)).mono ?_
    rintro e w' ⟨v, rfl, hr, hb⟩
    refine ⟨v, rfl, ?_, hb⟩
    rw [← subs_all m hm]
    simpa [ints] using hr
  | false =>
    have hr := fun W => label.impl_right l W
    rw [h] at hr
    have HR : Hid _ := hr
    rw [nums_none h]
    clear hr h
    go_enter Try.func6, Try.ntmps6
    go_wp2_with (go_at_call 24; refine (HR.out _).mono ?_; rintro e w1 ⟨rfl, rfl⟩)
    go_ret
    exact ⟨_, rfl, World.ownsRow_nil _ _ _ _, Below.refl _ _⟩

/-- the labels below k that flow to a number -/
def upto (l : Int) (k : Nat) : List Int := ((List.range k).filter fun a : Nat => flo (a : Int) l).map fun a : Nat => (a : Int)
theorem upto_len (l : Int) (k : Nat) : (upto l k).length ≤ k := by
  rw [upto, List.length_map]
  exact Nat.le_trans (List.length_filter_le _ _) (by simp)
theorem upto_yes {l : Int} {k : Nat} (h : flo (k : Int) l = true) : upto l (k + 1) = upto l k ++ [(k : Int)] := by simp [upto, List.range_succ, List.filter_append, h]
theorem upto_no {l : Int} {k : Nat} (h : flo (k : Int) l = false) : upto l (k + 1) = upto l k := by simp [upto, List.range_succ, List.filter_append, h]
theorem map_snoc (acc : List Int) (x : Int) : acc.map (Value.int .i64) ++ [Value.int .i64 x] = (acc ++ [x]).map (Value.int .i64) := by simp

set_option maxRecDepth 100000 in
set_option maxHeartbeats 1000000 in
theorem spec_to (l : Int) (w : World) : Calls Try.prog 5 #[.int .i64 l] w (Gives w (numsTo l)) := by
  have HF : Hid (∀ (k : Nat) (W : World), Calls Try.prog 16 #[.int .i64 k, .int .i64 l] W fun e w' => e = .returned (.bool (flo k l)) ∧ w' = W) := fun k W => label.spec_flows k l W
  obtain ⟨i0, hi, hz0, hz1, hz2⟩ := info_parts info2
  go_enter Try.func5, Try.ntmps5
  go_wp2
  go_loopw [3, 4] (fun tb tk wr => ∃ k : Nat, tk = .int .i64 k ∧ k ≤ 16 ∧ wr.ownsRow w.heap.size 2 1 tb (upto l k).length ((upto l k).map (Value.int .i64)) ∧ Below w.heap.size w wr) (fun _ tk _ => 16 - (intOf tk).toNat)
  case atStart => exact ⟨0, rfl, by omega, World.ownsRow_made w #[] 0 (Nat.le_refl _) (by unfold maxLen; omega) rfl, (Below.refl _ _).alloc (Nat.le_refl _) _⟩
  case round =>
    obtain ⟨k, rfl, hk, hown, hbel⟩ := hrel
    have hul := upto_len l k
    by_cases hlt : k < 16
    · have hf := HF.out k
      cases hfl : flo k l with
      | true =>
        rw [hfl] at hf
        have HC : Hid _ := hf
        have HU : Hid _ := upto_yes hfl
        have hbs := hbel.size
        clear hf hfl HF
        go_wp2_with (first | (go_at_call 16; refine (HC.out _).mono ?_; rintro e w2 ⟨rfl, rfl⟩) | (at_builtin; refine wpList_append_own _ rfl _ _ 22 rfl w.heap.size 2 i0 (.int .i64 0) 1 8 Try.underlying22 hi hz0 hz1 hz2 rfl (by decide) _ _ _ rfl (hown.alloc _) ⟨w2.heap.size, 0, none⟩ 1 1 [.int .i64 (k : Int)] rfl rfl ?c1 ?c2 ?c3 ?c4 ?c5 ?_))
        case c1 =>
          intro j x hj
          match j, hj with
          | 0, hj => simp at hj; subst hj; simp [Addr.add]
        case c2 => intro x hx; simp at hx; subst hx; rfl
        case c3 => unfold maxLen; omega
        case c4 => omega
        case c5 => simp; omega
        intro v' w1 hown' hgrow _
        have e : (upto l k).length + 1 = (upto l (k + 1)).length := by rw [HU.out]; simp
        rw [map_snoc, ← HU.out, e] at hown'
        have hb2 : Below w.heap.size w w1 := (hbel.alloc hbs _).grown hgrow (by simp; omega) (fun g hg => (hown.lt g hg).1)
        clear hgrow hbel hown e
        go_wp2
        go_roundw
        case rel => exact ⟨k + 1, by go_num, by omega, hown', hb2⟩
        case measure => simp [intOf]; omega
      | false =>
        rw [hfl] at hf
        have HC : Hid _ := hf
        rw [← upto_no hfl] at hown
        have HO : Hid _ := hown
        clear hf hfl hown HF
        go_wp2_with (go_at_call 16; refine (HC.out _).mono ?_; rintro e w2 ⟨rfl, rfl⟩)
        go_roundw
        case rel => exact ⟨k + 1, by go_num, by omega, HO.out, hbel⟩
        case measure => simp [intOf]; omega
    · obtain rfl : k = 16 := by omega
      have HO : Hid _ := hown
      clear hown HF
      go_wp2
      go_ret
      exact ⟨_, rfl, HO.out, hbel⟩
end Go.Proofs.Ytpiankpopgndhab.lto
