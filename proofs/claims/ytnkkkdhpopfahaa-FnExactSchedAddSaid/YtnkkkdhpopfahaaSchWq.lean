/-
  The wheel in plain words: what a put and a take do to the rings, and to the line of all tasks.
-/
import Derived.Test.YtnkkkdhpopfahaaSchWh
namespace Go.Proofs.Ytnkkkdhpopfahaa.sch
open Go.RowKit Go.Deep Go.Sort
open Go.Proofs.Ytnkkkdhpopfahaa
open Go.Proofs.Ytnkkkdhpopfahaa.deep
set_option linter.unusedVariables false
set_option maxRecDepth 100000

theorem cwt_len (x : Wt) : (cwt x).length = 4 := rfl
theorem rput_out {cur : Array Value} {o f n q : Nat} {x : Wt} (h : q < o ∨ o + 162 ≤ q ∨ q = o + 160) : (ringPut cur o f n x)[q]? = cur[q]? := by
  have hk : (f + n) % 40 < 40 := Nat.mod_lt _ (by decide)
  unfold ringPut
  rw [Array.getElem?_setIfInBounds_ne (by omega), putA_out _ _ _ _ (by rw [cwt_len]; omega)]
theorem rput_size (cur : Array Value) (o f n : Nat) (x : Wt) : (ringPut cur o f n x).size = cur.size := by
  unfold ringPut
  rw [Array.size_setIfInBounds, putA_size]
theorem RingC.other {cur cur' : Array Value} {o f : Nat} {ws : List Wt} (h : RingC cur o f ws) (hc : ∀ q, o ≤ q → q < o + 162 → cur'[q]? = cur[q]?) : RingC cur' o f ws where
  ff := h.ff
  len := h.len
  first := (hc _ (by omega) (by omega)).trans h.first
  many := (hc _ (by omega) (by omega)).trans h.many
  at' := fun p hp j hj => by
    have hk : (f + p) % 40 < 40 := Nat.mod_lt _ (by decide)
    exact (hc _ (by omega) (by omega)).trans (h.at' p hp j hj)
theorem RingC.put {cur : Array Value} {o f : Nat} {ws : List Wt} (h : RingC cur o f ws) (hs : o + 162 ≤ cur.size) (hn : ws.length < 40) (x : Wt) : RingC (ringPut cur o f ws.length x) o f (ws ++ [x]) where
  ff := h.ff
  len := by simp; omega
  first := (rput_out (.inr (.inr rfl))).trans h.first
  many := by
    unfold ringPut
    rw [Array.getElem?_setIfInBounds_self_of_lt (by rw [putA_size]; omega)]
    simp
  at' := fun p hp j hj => by
    have hk : (f + ws.length) % 40 < 40 := Nat.mod_lt _ (by decide)
    have hk2 : (f + p) % 40 < 40 := Nat.mod_lt _ (by decide)
    have hf := h.ff
    have hp' : p < ws.length + 1 := by simpa using hp
    unfold ringPut
    rw [Array.getElem?_setIfInBounds_ne (by omega)]
    by_cases e : p = ws.length
    · subst e
      rw [putA_in _ _ _ j (by rw [cwt_len]; exact hj) (by omega)]
      simp
    · have hne : (f + p) % 40 ≠ (f + ws.length) % 40 := by omega
      rw [putA_out _ _ _ _ (by rw [cwt_len]; omega), h.at' p (by omega) j hj]
      rw [List.getElem_append_left (by omega)]
/-- the cells behind a take -/
def ringTake (cur : Array Value) (o f n : Nat) : Array Value := (cur.setIfInBounds (o + 160) (.int .i64 (((f + 1) % 40 : Nat) : Int))).setIfInBounds (o + 161) (.int .i64 ((n : Int) - 1))
theorem rtake_out {cur : Array Value} {o f n q : Nat} (h : q < o + 160 ∨ o + 162 ≤ q) : (ringTake cur o f n)[q]? = cur[q]? := by
  unfold ringTake
  rw [Array.getElem?_setIfInBounds_ne (by omega), Array.getElem?_setIfInBounds_ne (by omega)]
theorem rtake_size (cur : Array Value) (o f n : Nat) : (ringTake cur o f n).size = cur.size := by
  unfold ringTake
  rw [Array.size_setIfInBounds, Array.size_setIfInBounds]
theorem RingC.take {cur : Array Value} {o f : Nat} {y : Wt} {ws : List Wt} (h : RingC cur o f (y :: ws)) (hs : o + 162 ≤ cur.size) : RingC (ringTake cur o f (y :: ws).length) o ((f + 1) % 40) ws where
  ff := Nat.mod_lt _ (by decide)
  len := by have := h.len; simp at this; omega
  first := by
    unfold ringTake
    rw [Array.getElem?_setIfInBounds_ne (by omega), Array.getElem?_setIfInBounds_self_of_lt (by omega)]
  many := by
    unfold ringTake
    rw [Array.getElem?_setIfInBounds_self_of_lt (by rw [Array.size_setIfInBounds]; omega)]
    simp
  at' := fun p hp j hj => by
    have hk : (f + (p + 1)) % 40 < 40 := Nat.mod_lt _ (by decide)
    have e : ((f + 1) % 40 + p) % 40 = (f + (p + 1)) % 40 := by omega
    rw [e, rtake_out (by omega), h.at' (p + 1) (by simpa using hp) j hj]
    simp
def isL (l : Nat) (x : Wt) : Bool := x.1.1 == (l : Int)
/-- a wheel in a block: the order, now, what is behind all, and the line of all tasks -/
structure WheelC (cur : Array Value) (vo : Value) (now last : Int) (f : Nat → Nat) (ws : List Wt) : Prop where
  size : cur.size = 2595
  order : cur[0]? = some vo
  now : cur[1]? = some (.int .i64 now)
  last : cur[2594]? = some (.int .i64 last)
  ring : ∀ l, l < 16 → RingC cur (2 + l * 162) (f l) (ws.filter (isL l))
def Wheel (w : World) (B : Nat) (vo : Value) (now last : Int) (f : Nat → Nat) (ws : List Wt) : Prop := ∃ cur, w.heap[B]? = some (.cells cur 73 (0, 0)) ∧ WheelC cur vo now last f ws
theorem Wheel.lt {w : World} {B : Nat} {vo : Value} {now last : Int} {f : Nat → Nat} {ws : List Wt} (h : Wheel w B vo now last f ws) : B < w.heap.size := by
  obtain ⟨cur, h1, _⟩ := h
  exact (Array.getElem?_eq_some_iff.1 h1).1
theorem Wheel.later {w w' : World} {B : Nat} {vo : Value} {now last : Int} {f : Nat → Nat} {ws : List Wt} (h : Wheel w B vo now last f ws) (hb : w'.heap[B]? = w.heap[B]?) : Wheel w' B vo now last f ws := by
  obtain ⟨cur, h1, h2⟩ := h
  exact ⟨cur, hb.trans h1, h2⟩
theorem isL_self {x : Wt} {l : Nat} (h : x.1.1 = (l : Int)) : isL l x = true := by simp [isL, h]
theorem isL_other {x : Wt} {l m : Nat} (h : x.1.1 = (l : Int)) (hm : m ≠ l) : isL m x = false := by simp [isL, h]; omega
theorem WheelC.put {cur : Array Value} {vo : Value} {now last : Int} {f : Nat → Nat} {ws : List Wt} (h : WheelC cur vo now last f ws) {l : Nat} (hl : l < 16) {x : Wt} (hx : x.1.1 = (l : Int)) (hn : (ws.filter (isL l)).length < 40) (last' : Int) :
    WheelC ((ringPut cur (2 + l * 162) (f l) (ws.filter (isL l)).length x).setIfInBounds 2594 (.int .i64 last')) vo now last' f (ws ++ [x]) where
  size := by rw [Array.size_setIfInBounds, rput_size]; exact h.size
  order := by rw [Array.getElem?_setIfInBounds_ne (by omega), rput_out (.inl (by omega))]; exact h.order
  now := by rw [Array.getElem?_setIfInBounds_ne (by omega), rput_out (.inl (by omega))]; exact h.now
  last := by rw [Array.getElem?_setIfInBounds_self_of_lt (by rw [rput_size, h.size]; omega)]
  ring := fun m hm => by
    by_cases e : m = l
    · subst e
      rw [List.filter_append, List.filter_cons_of_pos (isL_self hx), List.filter_nil]
      exact ((h.ring m hm).put (by rw [h.size]; omega) hn x).other (fun q h1 h2 => Array.getElem?_setIfInBounds_ne (by omega))
    · rw [List.filter_append, List.filter_cons_of_neg (by rw [isL_other hx e]; simp), List.filter_nil, List.append_nil]
      exact (h.ring m hm).other (fun q h1 h2 => by rw [Array.getElem?_setIfInBounds_ne (by omega)]; exact rput_out (by omega))
theorem filter_eraseP (p : Wt → Bool) : ∀ (ws : List Wt), (ws.eraseP p).filter p = (ws.filter p).tail
  | [] => rfl
  | y :: ws => by
    by_cases h : p y = true
    · rw [List.eraseP_cons_of_pos h, List.filter_cons_of_pos h, List.tail_cons]
    · rw [List.eraseP_cons_of_neg h, List.filter_cons_of_neg h, List.filter_cons_of_neg h, filter_eraseP p ws]
theorem filter_erase_other (p q : Wt → Bool) (hpq : ∀ y, p y = true → q y = false) : ∀ (ws : List Wt), (ws.eraseP p).filter q = ws.filter q
  | [] => rfl
  | y :: ws => by
    by_cases h : p y = true
    · rw [List.eraseP_cons_of_pos h, List.filter_cons_of_neg (by rw [hpq y h]; simp)]
    · rw [List.eraseP_cons_of_neg h, List.filter_cons, List.filter_cons, filter_erase_other p q hpq ws]
theorem WheelC.take {cur : Array Value} {vo : Value} {now last : Int} {f : Nat → Nat} {ws : List Wt} (h : WheelC cur vo now last f ws) {l : Nat} (hl : l < 16) {y : Wt} {rest : List Wt} (hy : ws.filter (isL l) = y :: rest) :
    WheelC (ringTake cur (2 + l * 162) (f l) (ws.filter (isL l)).length) vo now last (fun m => if m = l then (f l + 1) % 40 else f m) (ws.eraseP (isL l)) where
  size := by rw [rtake_size]; exact h.size
  order := by rw [rtake_out (.inl (by omega))]; exact h.order
  now := by rw [rtake_out (.inl (by omega))]; exact h.now
  last := by rw [rtake_out (.inr (by omega))]; exact h.last
  ring := fun m hm => by
    by_cases e : m = l
    · subst e
      have h1 := h.ring m hm
      rw [hy] at h1
      rw [if_pos rfl, filter_eraseP, hy, List.tail_cons]
      exact h1.take (by rw [h.size]; omega)
    · rw [if_neg e, filter_erase_other (isL l) (isL m) (fun y hy => by simp [isL] at hy ⊢; omega)]
      exact (h.ring m hm).other (fun q h1 h2 => rtake_out (by omega))
theorem WheelC.tick {cur : Array Value} {vo : Value} {now last : Int} {f : Nat → Nat} {ws : List Wt} (h : WheelC cur vo now last f ws) (now' : Int) : WheelC (cur.setIfInBounds 1 (.int .i64 now')) vo now' last f ws where
  size := by rw [Array.size_setIfInBounds]; exact h.size
  order := by rw [Array.getElem?_setIfInBounds_ne (by omega)]; exact h.order
  now := by rw [Array.getElem?_setIfInBounds_self_of_lt (by rw [h.size]; omega)]
  last := by rw [Array.getElem?_setIfInBounds_ne (by omega)]; exact h.last
  ring := fun m hm => (h.ring m hm).other (fun q h1 h2 => Array.getElem?_setIfInBounds_ne (by omega))
/-- a wheel that is made -/
theorem zero_w : Try.zeroCells73 = (Array.replicate 2595 (.int .i64 0)).setIfInBounds 0 (.slice none 0 0) := by kernel_rfl
theorem wheel_new (v : Value) (q : Int) : WheelC ((Try.zeroCells73.setIfInBounds 0 v).setIfInBounds 1 (.int .i64 q)) v q 0 (fun _ => 0) [] := by
  rw [zero_w]
  have hz : ∀ i, 2 ≤ i → i < 2595 → ((((Array.replicate 2595 (Value.int .i64 0)).setIfInBounds 0 (.slice none 0 0)).setIfInBounds 0 v).setIfInBounds 1 (.int .i64 q))[i]? = some (.int .i64 0) := fun i h1 h2 => by
    rw [Array.getElem?_setIfInBounds_ne (by omega), Array.getElem?_setIfInBounds_ne (by omega), Array.getElem?_setIfInBounds_ne (by omega), Array.getElem?_replicate, if_pos h2]
  refine ⟨by simp, ?_, ?_, hz 2594 (by omega) (by omega), fun l hl => ⟨by omega, by simp, hz _ (by omega) (by omega), hz _ (by omega) (by omega), fun p hp => by simp at hp⟩⟩
  · rw [Array.getElem?_setIfInBounds_ne (by omega), Array.getElem?_setIfInBounds_self_of_lt (by simp)]
  · rw [Array.getElem?_setIfInBounds_self_of_lt (by simp)]
end Go.Proofs.Ytnkkkdhpopfahaa.sch
