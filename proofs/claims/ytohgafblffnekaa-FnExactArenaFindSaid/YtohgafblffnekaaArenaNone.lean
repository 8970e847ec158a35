/-
  The program's look at which thing is none, and at one slot by itself.
-/
import Derived.Test.YtohgafblffnekaaArenaThing
namespace Go.Proofs.Ytohgafblffnekaa.deep
open Go.RowKit Go.Deep Go.Sort
open Go.Proofs.Ytohgafblffnekaa
set_option linter.unusedVariables false

theorem as_yes (w : World) : (Instr.typeAssert (.iface 176 (.agg #[])) 81 176 true).run Try.prog w = .ok (.tuple #[.agg #[], .bool true]) w := by kernel_rfl
theorem none_yes (w : World) : Calls Try.prog 85 #[.iface 176 (.agg #[])] w fun e w' => e = .returned (.bool true) ∧ Below w.heap.size w w' := by
  have h := as_yes
  go_enter Try.func85, Try.ntmps85
  go_wp2
  go_ret
  exact ⟨rfl, below_one w _⟩
theorem as_box (v : Value) (w : World) : (Instr.typeAssert (.iface 156 v) 81 176 true).run Try.prog w = .ok (.tuple #[.agg #[], .bool false]) w := by kernel_rfl
theorem none_box (v : Value) (w : World) : Calls Try.prog 85 #[.iface 156 v] w fun e w' => e = .returned (.bool false) ∧ Below w.heap.size w w' := by
  have h := as_box v
  go_enter Try.func85, Try.ntmps85
  go_wp2
  go_ret
  exact ⟨rfl, below_one w _⟩
theorem as_seg (v : Value) (w : World) : (Instr.typeAssert (.iface 179 v) 81 176 true).run Try.prog w = .ok (.tuple #[.agg #[], .bool false]) w := by kernel_rfl
theorem none_seg (v : Value) (w : World) : Calls Try.prog 85 #[.iface 179 v] w fun e w' => e = .returned (.bool false) ∧ Below w.heap.size w w' := by
  have h := as_seg v
  go_enter Try.func85, Try.ntmps85
  go_wp2
  go_ret
  exact ⟨rfl, below_one w _⟩
theorem as_space (v : Value) (w : World) : (Instr.typeAssert (.iface 160 v) 81 176 true).run Try.prog w = .ok (.tuple #[.agg #[], .bool false]) w := by kernel_rfl
theorem none_space (v : Value) (w : World) : Calls Try.prog 85 #[.iface 160 v] w fun e w' => e = .returned (.bool false) ∧ Below w.heap.size w w' := by
  have h := as_space v
  go_enter Try.func85, Try.ntmps85
  go_wp2
  go_ret
  exact ⟨rfl, below_one w _⟩
theorem as_odd (v : Value) (w : World) : (Instr.typeAssert (.iface 162 v) 81 176 true).run Try.prog w = .ok (.tuple #[.agg #[], .bool false]) w := by kernel_rfl
theorem none_odd (v : Value) (w : World) : Calls Try.prog 85 #[.iface 162 v] w fun e w' => e = .returned (.bool false) ∧ Below w.heap.size w w' := by
  have h := as_odd v
  go_enter Try.func85, Try.ntmps85
  go_wp2
  go_ret
  exact ⟨rfl, below_one w _⟩

theorem bare_eq (kd lb od pl u1 u2 u3 rm : Int) (nf nk nm nq : Nat) : bareC kd lb od pl u1 u2 u3 rm nf nk nm nq = (zeroC kd lb od pl u1 u2 u3 && noBx rm nf nk && noSp nm nq) := by
  rw [Bool.eq_iff_iff]
  simp [bareC, zeroC, noBx, noSp]
  constructor
  · rintro ⟨⟨⟨⟨⟨⟨⟨⟨h1, h2⟩, h3⟩, h4⟩, h5⟩, h6⟩, h7⟩, h8⟩, h9⟩
    exact ⟨⟨⟨h1, h2, h3, h4, h5⟩, ⟨h6, h7⟩⟩, h8, h9⟩
  · rintro ⟨⟨⟨h1, h2, h3, h4, h5⟩, ⟨h6, h7⟩⟩, h8, h9⟩
    exact ⟨⟨⟨⟨⟨⟨⟨⟨h1, h2⟩, h3⟩, h4⟩, h5⟩, h6⟩, h7⟩, h8⟩, h9⟩
/-- isNone of what thingOf makes -/
theorem im_none (kd lb od pl u1 u2 u3 rm : Int) (af : Option Addr) (nf cf : Nat) (ak : Option Addr) (nk ck : Nat) (am : Option Addr) (nm cm : Nat) (aq : Option Addr) (nq cq : Nat) (w : World) : Calls Try.prog 85 #[thingC kd lb od pl u1 u2 u3 rm af nf cf ak nk ck am nm cm aq nq cq] w fun e w' => e = .returned (.bool (bareC kd lb od pl u1 u2 u3 rm nf nk nm nq)) ∧ Below w.heap.size w w' := by
  rw [bare_eq]
  unfold thingC
  cases h : (zeroC kd lb od pl u1 u2 u3 && noBx rm nf nk && noSp nm nq) with
  | true => exact none_yes w
  | false =>
    simp only [Bool.false_eq_true, if_false]
    split
    · exact none_box _ w
    · split
      · exact none_seg _ w
      · split
        · exact none_space _ w
        · exact none_odd _ w

/-- a slot that is right by itself, by its cells -/
def slotC (gn : Int) (lv : Bool) (id kd lb od pl u1 u2 u3 rm : Int) (nf nk nm nq : Nat) : Bool := if lv then decide (0 ≤ gn ∧ gn < 3) && pm.keyB id else decide (0 ≤ gn ∧ gn ≤ 3) && decide (id = 0) && bareC kd lb od pl u1 u2 u3 rm nf nk nm nq
set_option maxHeartbeats 4000000 in
theorem im_slot (gn : Int) (lv : Bool) (id : Int) (kd lb od pl u1 u2 u3 rm : Int) (af : Option Addr) (nf cf : Nat) (ak : Option Addr) (nk ck : Nat) (am : Option Addr) (nm cm : Nat) (aq : Option Addr) (nq cq : Nat) (lf : nf ≤ maxLen) (lk : nk ≤ maxLen) (lm : nm ≤ maxLen) (ls : nq ≤ maxLen) (w : World) : Calls Try.prog 66 #[.agg #[.int .i64 gn, .bool lv, .int .i64 id, .int .i64 kd, .int .i64 lb, .int .i64 od, .int .i64 pl, .int .i64 u1, .int .i64 u2, .int .i64 u3, .int .i64 rm, .slice af nf cf, .slice ak nk ck, .slice am nm cm, .slice aq nq cq]] w fun e w' => e = .returned (.bool (slotC gn lv id kd lb od pl u1 u2 u3 rm nf nk nm nq)) ∧ Below w.heap.size w w' := by
  have HK : Hid (∀ W, _) := fun W => mix.impl_key id W
  have HT : Hid (∀ W, _) := fun W => im_thing kd lb od pl u1 u2 u3 rm af nf cf ak nk ck am nm cm aq nq cq lf lk lm ls W
  have HN : Hid (∀ W, _) := fun W => im_none kd lb od pl u1 u2 u3 rm af nf cf ak nk ck am nm cm aq nq cq W
  obtain ⟨rv, hrv⟩ : ∃ r, r = slotC gn lv id kd lb od pl u1 u2 u3 rm nf nk nm nq := ⟨_, rfl⟩
  have HRV : Hid (rv = slotC gn lv id kd lb od pl u1 u2 u3 rm nf nk nm nq) := hrv
  rw [← hrv]
  clear hrv
  unfold slotC at HRV
  generalize bareC kd lb od pl u1 u2 u3 rm nf nk nm nq = bb at HN HRV
  generalize thingC kd lb od pl u1 u2 u3 rm af nf cf ak nk ck am nm cm aq nq cq = V at HT HN
  cases lv with
  | true =>
    simp only [if_true] at HRV
    by_cases h0 : 0 ≤ gn
    · by_cases h1 : gn < 3
      · generalize pm.keyB id = kb at HK HRV
        have HR : Hid (rv = kb) := by rw [Hid, HRV.out]; simp [h0, h1]
        go_enter Try.func66, Try.ntmps66
        go_wp2_with (go_at_call 55; refine Calls.mono (HK.out _) ?_; rintro e w1 ⟨rfl, rfl⟩)
        go_ret
        exact ⟨by rw [HR.out]; rfl, below_one w _⟩
      · have HR : Hid (rv = false) := by rw [Hid, HRV.out]; simp [h1]
        go_enter Try.func66, Try.ntmps66
        go_wp2_with fail
        go_ret
        exact ⟨by rw [HR.out]; first | rfl | (simp; done) | (simp; omega), below_one w _⟩
    · have HR : Hid (rv = false) := by rw [Hid, HRV.out]; simp [h0]
      go_enter Try.func66, Try.ntmps66
      go_wp2_with fail
      go_ret
      exact ⟨by rw [HR.out]; first | rfl | (simp; done) | (simp; omega), below_one w _⟩
  | false =>
    simp only [Bool.false_eq_true, if_false] at HRV
    by_cases h0 : 0 ≤ gn
    · by_cases h1 : gn ≤ 3
      · by_cases h2 : id = 0
        · subst h2
          have HR : Hid (rv = bb) := by rw [Hid, HRV.out]; simp [h0, h1]
          go_enter Try.func66, Try.ntmps66
          go_wp2_with fail
          refine Calls.mono (HT.out _) ?_
          rintro e w1 ⟨rfl, hb1⟩
          have HB1 : Hid (Below w.heap.size w w1) := below_tr (below_one w _) hb1
          clear hb1
          go_wp2_with fail
          refine Calls.mono (HN.out _) ?_
          rintro e w2 ⟨rfl, hb2⟩
          have HB2 : Hid (Below w.heap.size w w2) := below_tr HB1.out hb2
          clear hb2
          go_wp2_with fail
          go_ret
          exact ⟨by rw [HR.out]; rfl, HB2.out⟩
        · have hb : (id == 0) = false := by simp [h2]
          have HR : Hid (rv = false) := by rw [Hid, HRV.out]; simp [h2]
          go_enter Try.func66, Try.ntmps66
          go_wp2_with fail
          go_ret
          exact ⟨by rw [HR.out]; first | rfl | (simp; done) | (simp; omega), below_one w _⟩
      · have HR : Hid (rv = false) := by rw [Hid, HRV.out]; simp [h1]
        go_enter Try.func66, Try.ntmps66
        go_wp2_with fail
        go_ret
        exact ⟨by rw [HR.out]; first | rfl | (simp; done) | (simp; omega), below_one w _⟩
    · have HR : Hid (rv = false) := by rw [Hid, HRV.out]; simp [h0]
      go_enter Try.func66, Try.ntmps66
      go_wp2_with fail
      go_ret
      exact ⟨by rw [HR.out]; first | rfl | (simp; done) | (simp; omega), below_one w _⟩
end Go.Proofs.Ytohgafblffnekaa.deep
