/-
  The draws of buddies: whatever is drawn, it is a buddy of few blocks; nothing that was there turns but the source.
-/
import Derived.Test.YtcokchfedaoccabBuddyAns
import Derived.Test.YtcokchfedaoccabBuddyOut
import Derived.Test.YtcokchfedaoccabDraws2
import Derived.Maps.AppendAt
namespace Go.Proofs.Ytcokchfedaoccab.draws
open Go.RowKit Go.Deep Go.Sort Go.Maps
open Go.Proofs.Ytcokchfedaoccab
open Go.Proofs.Ytcokchfedaoccab.brows
open Go.Proofs.Ytcokchfedaoccab.bspec (Box Res Own illA outV SaysO Ans emb rd_nil own_nil)
open Go.Proofs.Ytcokchfedaoccab.bpool (Kept)
set_option linter.unusedVariables false

/-- an answer that may be a buddy -/
def BOk (a : Ans) : Prop := a.2.1.length ≤ 32 ∧ 0 ≤ a.1 ∧ a.1 ≤ 5
theorem ok_ill (c : Int) : BOk (illA c) := ⟨by simp [illA], by simp [illA], by simp [illA]⟩
theorem take_ok (m o : Int) (v : Value) (xs : List Pr) (w : World) (hrd : Rd w v xs) : Calls Try.prog 19 #[.agg #[.int .i64 m, v], .int .i64 o] w (SaysO BOk w) := by
  refine (bspec.spec_btake m o v xs w hrd).mono fun e w' h => ?_
  rcases h with ⟨h1, rfl, hb⟩ | ⟨n, k, l, rfl, rfl, hk, rfl, hr, h⟩
  · exact bspec.sayso_ill (ok_ill _) hb
  · rcases h with ⟨rfl, h1, hb⟩ | ⟨i, x, v', l', rfl, h1, hx, ht, hrd', hb, ho⟩
    · exact bspec.sayso_ill (ok_ill _) hb
    · exact ⟨((n : Int), l'.map emb, (x.1 : Int), 0), v', ⟨by simpa using ht.1.right.len_le, by simp, by have := hr.ord; simp only; omega⟩, rfl, hrd', ho, hb⟩
theorem give_ok (m : Int) (x : Pr) (v : Value) (xs : List Pr) (w : World) (hrd : Rd w v xs) : Calls Try.prog 20 #[.agg #[.int .i64 m, v], .int .i64 x.1, .int .i64 x.2] w (SaysO BOk w) := by
  refine (bspec.spec_bgive m x v xs w hrd).mono fun e w' h => ?_
  rcases h with ⟨h1, rfl, hb⟩ | ⟨n, l, y, rfl, rfl, hy, rfl, hr, h⟩
  · exact bspec.sayso_ill (ok_ill _) hb
  · rcases h with ⟨rfl, h1, hb⟩ | ⟨v', l', rfl, h1, ht, hrd', hb, ho⟩
    · exact bspec.sayso_ill (ok_ill _) hb
    · exact ⟨((n : Int), l'.map emb, 0, 0), v', ⟨by simpa using ht.1.len_le, by simp, by have := hr.ord; simp only; omega⟩, rfl, hrd', ho, hb⟩

/-- where a draw stands: the source is one; but for it and block X nothing below has turned -/
structure Sr (B X : Nat) (x : Option Addr) (len cap : Nat) (w W : World) : Prop where
  src : IsSrc W B x len cap
  kept : Kept B X w.heap.size w W
theorem Sr.refl {B X : Nat} {x : Option Addr} {len cap : Nat} {w : World} (h : IsSrc w B x len cap) : Sr B X x len cap w w := ⟨h, Kept.refl _ _ _ _⟩
theorem Sr.drew {B X : Nat} {x : Option Addr} {len cap : Nat} {w W : World} (h : Sr B X x len cap w W) : Sr B X x len cap w W.drew := ⟨h.src, h.kept.os, h.kept.tape, h.kept.output, h.kept.size, h.kept.block⟩
theorem Sr.n {B X : Nat} {x : Option Addr} {len cap : Nat} {w W W' : World} (h : Sr B X x len cap w W) (hs : IsSrc W' B x len cap) (hg : W.grownBy W' (some B)) : Sr B X x len cap w W' :=
  ⟨hs, h.kept.grown (Nat.le_refl _) hg (fun k hk => by cases hk; exact Or.inl rfl)⟩
theorem Sr.below {B X : Nat} {x : Option Addr} {len cap : Nat} {w W W' : World} (h : Sr B X x len cap w W) (hB : B < w.heap.size) (hb : Below W.heap.size W W') : Sr B X x len cap w W' :=
  ⟨IsSrc.other h.src (bspec.grown_of_below hb none) (Nat.lt_of_lt_of_le hB h.kept.size) (by simp), h.kept.grown (Nat.le_refl _) (bspec.grown_of_below hb none) (fun k hk => by cases hk)⟩
theorem Sr.alloc {B X : Nat} {x : Option Addr} {len cap : Nat} {w W : World} (h : Sr B X x len cap w W) (hB : B < w.heap.size) (o : Obj) : Sr B X x len cap w (W.alloc o) := h.below hB ((Below.refl _ _).alloc (Nat.le_refl _) _)
theorem Sr.set {B X Y i : Nat} {x : Option Addr} {len cap : Nat} {w W : World} {u : Value} (h : Sr B X x len cap w W) (hB : B < w.heap.size) (hY : Y ≠ B) (hX : Y = X ∨ w.heap.size ≤ Y) : Sr B X x len cap w (W.setCell ⟨Y, i, none⟩ u) :=
  ⟨IsSrc.other h.src (bpool.grown_set W Y i u) (Nat.lt_of_lt_of_le hB h.kept.size) (by simp; omega), h.kept.set (by omega)⟩
theorem Sr.set4 {B X Y : Nat} {x : Option Addr} {len cap : Nat} {w W : World} {a b c d : Value} (h : Sr B X x len cap w W) (hB : B < w.heap.size) (hY : Y ≠ B) (hX : Y = X ∨ w.heap.size ≤ Y) :
    Sr B X x len cap w ((((W.setCell ⟨Y, 0, none⟩ a).setCell ⟨Y, 1, none⟩ b).setCell ⟨Y, 2, none⟩ c).setCell ⟨Y, 3, none⟩ d) :=
  (((h.set hB hY hX).set hB hY hX).set hB hY hX).set hB hY hX
theorem Sr.block {B X : Nat} {x : Option Addr} {len cap : Nat} {w W : World} (h : Sr B X x len cap w W) {k : Nat} (hk : k < w.heap.size) (h1 : k ≠ B) (h2 : k ≠ X) : W.heap[k]? = w.heap[k]? := h.kept.block k hk h1 h2
theorem Sr.size {B X : Nat} {x : Option Addr} {len cap : Nat} {w W : World} (h : Sr B X x len cap w W) : w.heap.size ≤ W.heap.size := h.kept.size
theorem Sr.bytes {B X : Nat} {x : Option Addr} {len cap : Nat} {w W : World} (h : Sr B X x len cap w W) (hX : B ≤ X) (hB : B < w.heap.size) (hy : Byts w x len B) : Byts W x len B := by
  refine ⟨hy.1, fun i hi => ?_⟩
  obtain ⟨b, off, z, hx, hb, hz, hc⟩ := hy.2 i hi
  exact ⟨b, off, z, hx, hb, hz, (World.cell?_of_block (a := ⟨b, off + i, none⟩) (h.block (k := b) (by omega) (by omega) (by omega))).trans hc⟩
theorem Sr.tr {B X Y : Nat} {x : Option Addr} {len cap : Nat} {u w W : World} (h : Sr B X x len cap u w) (k : Sr B Y x len cap w W) (hY : Y = X ∨ u.heap.size ≤ Y ∨ Y = B) : Sr B X x len cap u W :=
  ⟨k.src, k.kept.os.trans h.kept.os, k.kept.tape.trans h.kept.tape, k.kept.output.trans h.kept.output, Nat.le_trans h.size k.size, fun j hj h1 h2 => (k.kept.block j (Nat.lt_of_lt_of_le hj h.size) h1 (by omega)).trans (h.kept.block j hj h1 h2)⟩
/-- what n leaves, over where it stood -/
def NP (B : Nat) (x : Option Addr) (len cap : Nat) (most : Int) (W : World) (e : Ending) (W' : World) : Prop := ∃ v : Nat, e = .returned (.int .i64 v) ∧ ((v : Int) < most ∨ v = 0) ∧ IsSrc W' B x len cap ∧ W.grownBy W' (some B)
theorem n_of {B X : Nat} {x : Option Addr} {len cap : Nat} {w W : World} (h : Sr B X x len cap w W) (hX : B ≤ X) (hB : B < w.heap.size) (hy : Byts w x len B) (most : Int) (hm : most ≤ 9223372036854775807) :
    Calls Try.prog 38 #[.pointer (some ⟨B, 0, none⟩), .int .i64 most] W (NP B x len cap most W) := by
  refine (n_any B x len cap W most h.src (h.bytes hX hB hy) hm).mono ?_
  rintro e W' ⟨v, rfl, hv0, hv1, hs, hg⟩
  obtain ⟨k, rfl⟩ := Int.eq_ofNat_of_zero_le hv0
  exact ⟨k, rfl, by omega, hs, hg⟩
theorem one_of {B X : Nat} {x : Option Addr} {len cap : Nat} {w W : World} (h : Sr B X x len cap w W) (hX : B ≤ X) (hB : B < w.heap.size) (hy : Byts w x len B) (most : Int) (hm : most ≤ 9223372036854775807) :
    Calls Try.prog 42 #[.pointer (some ⟨B, 0, none⟩), .int .i64 most] W (OPost B x len cap W) := one_any B x len cap W most h.src (h.bytes hX hB hy) hm
end Go.Proofs.Ytcokchfedaoccab.draws
