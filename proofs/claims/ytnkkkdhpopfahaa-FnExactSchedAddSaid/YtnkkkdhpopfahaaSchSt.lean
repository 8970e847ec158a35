/-
  What stands while a law on Scheds is walked: the argument made anew, the answer, what is marked and held. No condition.
-/
import Derived.Test.YtnkkkdhpopfahaaSchOut
namespace Go.Proofs.Ytnkkkdhpopfahaa.sch
open Go.RowKit Go.Deep Go.Sort
open Go.Proofs.Ytnkkkdhpopfahaa
open Go.Proofs.Ytnkkkdhpopfahaa.deep
set_option linter.unusedVariables false
set_option maxRecDepth 100000

/-- all that is in it lies from a on and below b -/
def Within (a b : Nat) (v : Value) : Prop := ∀ g o, spotOf v = some (g, o) → 0 < lenOf v → a ≤ g ∧ g < b
theorem SF.keep {lo u : Nat} {w w' : World} {vo vt : Value} {x : SchedD} (h : SF u w vo vt x) (hk : Keep lo w w') (hl : lo ≤ u) (hu : u ≤ u) : SF u w' vo vt x :=
  ⟨rowE_stays (plain_stays _) h.1 ⟨hk.size, fun b hb hl2 => hk.block b (Nat.le_trans hl hb) hl2⟩, rowE_stays (plain_stays _) h.2 ⟨hk.size, fun b hb hl2 => hk.block b (Nat.le_trans hl hb) hl2⟩⟩
theorem Mks.markS {w : World} {K : Nat} {v : Value} (h : Mks w K v) (vo vt : Value) : Mks (markS w vo vt) K v := (h.mark 1).mark _
/-- the argument made anew, in a box -/
def XB (x : SchedD) (u x4 : Nat) (vo vt : Value) (W : World) : Prop := Blk W x4 30 [vo, .int .i64 x.now, vt] ∧ SF u W vo vt x ∧ Mks W 1 vo ∧ Mks W 3 vt
theorem XB.later {x : SchedD} {u x4 : Nat} {vo vt : Value} {W W' : World} (h : XB x u x4 vo vt W) (hb : Below W.heap.size W W') : XB x u x4 vo vt W' := ⟨h.1.later hb, h.2.1.later hb, h.2.2.1.later hb, h.2.2.2.later hb⟩
/-- the answer, in a box -/
def AN (y : SchedD) (u4 g5 : Nat) (cs : List Value) (vo vt : Value) (W : World) : Prop := Blk W g5 37 cs ∧ SF u4 W vo vt y ∧ Mks W 1 vo ∧ Mks W 3 vt
theorem AN.later {y : SchedD} {u g5 : Nat} {cs : List Value} {vo vt : Value} {W W' : World} (h : AN y u g5 cs vo vt W) (hb : Below W.heap.size W W') : AN y u g5 cs vo vt W' := ⟨h.1.later hb, h.2.1.later hb, h.2.2.1.later hb, h.2.2.2.later hb⟩
theorem AN.past {y : SchedD} {u g5 a x4 : Nat} {cs : List Value} {vo vt xo xt : Value} {W : World} (h : AN y u g5 cs vo vt W) (h1 : Within a x4 xo) (h2 : Within a x4 xt) (hu : x4 ≤ u) (hg : x4 ≤ g5) : AN y u g5 cs vo vt (markS W xo xt) := by
  have hk : Keep x4 W (sch.markS W xo xt) := markS_keep (fun g o a b => (h1 g o a b).2) (fun g o a b => (h2 g o a b).2)
  exact ⟨Blk.keep h.1 hk hg, h.2.1.keep hk hu (Nat.le_refl _), Mks.markS h.2.2.1 _ _, Mks.markS h.2.2.2 _ _⟩
/-- the answer, marked -/
def HN (g5 : Nat) (cs : List Value) (vo vt : Value) (W : World) : Prop := Blk W g5 37 cs ∧ HeldS W vo vt
theorem HN.later {g5 : Nat} {cs : List Value} {vo vt : Value} {W W' : World} (h : HN g5 cs vo vt W) (hb : Below W.heap.size W W') : HN g5 cs vo vt W' := ⟨h.1.later hb, h.2.later hb⟩
theorem AN.held {y : SchedD} {u g5 a : Nat} {cs : List Value} {vo vt : Value} {W : World} (h : AN y u g5 cs vo vt W) (ht : Two vo vt) (h1 : Within a g5 vo) (h2 : Within a g5 vt) : HN g5 cs vo vt (markS W vo vt) :=
  ⟨Blk.keep h.1 (markS_keep (lo := g5) (fun g o a b => (h1 g o a b).2) (fun g o a b => (h2 g o a b).2)) (Nat.le_refl _), markS_held h.2.2.1 h.2.2.2 ht⟩
theorem past_below {n a b : Nat} {U W : World} {vo vt : Value} (h : Below n U W) (h1 : Within a b vo) (h2 : Within a b vt) (hn : n ≤ a) : Below n U (markS W vo vt) :=
  markS_below h (fun g o p q => Nat.le_trans hn (h1 g o p q).1) (fun g o p q => Nat.le_trans hn (h2 g o p q).1)

/-- a row of tasks as an answer -/
def SpecTks (ts : List Tt) (w : World) (e : Ending) (w' : World) : Prop := ∃ v, e = .returned v ∧ RowE (Plain ctk) 3 w.heap.size w' v ts ∧ Below w.heap.size w w'
def ImplTks (ts : List Tt) (w : World) (e : Ending) (w' : World) : Prop := ∃ v, e = .returned v ∧ RowE (Plain ctk) 3 w.heap.size w' v ts ∧ Below w.heap.size w w' ∧ Free w' v
def ANt (ts : List Tt) (u4 : Nat) (v : Value) (W : World) : Prop := RowE (Plain ctk) 3 u4 W v ts ∧ Mks W 3 v
theorem ANt.later {ts : List Tt} {u : Nat} {v : Value} {W W' : World} (h : ANt ts u v W) (hb : Below W.heap.size W W') : ANt ts u v W' := ⟨h.1.below (plain_stays _) hb, h.2.later hb⟩
theorem ANt.past {ts : List Tt} {u a x4 : Nat} {v xo xt : Value} {W : World} (h : ANt ts u v W) (h1 : Within a x4 xo) (h2 : Within a x4 xt) (hu : x4 ≤ u) : ANt ts u v (markS W xo xt) := by
  have hk : Keep x4 W (sch.markS W xo xt) := markS_keep (fun g o a b => (h1 g o a b).2) (fun g o a b => (h2 g o a b).2)
  exact ⟨rowE_stays (plain_stays _) h.1 ⟨hk.size, fun b hb hl2 => hk.block b (Nat.le_trans hu hb) hl2⟩, Mks.markS h.2 _ _⟩
def HNt (v : Value) (W : World) : Prop := HeldV W 3 v 1 ∧ ∀ g o, spotOf v = some (g, o) → 0 < lenOf v → g < W.heap.size
theorem HNt.later {v : Value} {W W' : World} (h : HNt v W) (hb : Below W.heap.size W W') : HNt v W' := ⟨h.1.later h.2 hb, fun g o a b => Nat.lt_of_lt_of_le (h.2 g o a b) hb.size⟩
theorem ANt.held {ts : List Tt} {u : Nat} {v : Value} {W : World} (h : ANt ts u v W) : HNt v (markV W 3 v 1) := ⟨HeldV.here h.2 1, fun g o a b => by rw [markV_size]; exact Mks.spot h.2 (by decide) g o a b⟩
end Go.Proofs.Ytnkkkdhpopfahaa.sch
