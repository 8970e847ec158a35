/-
  Things (Obj) as they lie in memory: what their cells read as; the laws' helpers on them: measured, made anew, compared.
-/
import Derived.Test.YtohgafblffnekaaRowBlock
import Derived.Test.YtohgafblffnekaaRowHandle
import Derived.Test.YtohgafblffnekaaRowMap
import Derived.Test.YtohgafblffnekaaRowFast
namespace Go.Proofs.Ytohgafblffnekaa.deep
open Go.RowKit Go.Deep Go.Sort
set_option linter.unusedVariables false

structure ObjD where
  kind : Int
  lab : Int
  order : Int
  place : Int
  up : Thd
  room : Int
  free : List Tbk
  kids : List Thd
  maps : List Tmp
  fasts : List Tfs
/-- the cells of a thing -/
def ocells (o : ObjD) (vf vk vm vs : Value) : List Value := [.int .i64 o.kind, .int .i64 o.lab, .int .i64 o.order, .int .i64 o.place, .int .i64 o.up.1, .int .i64 o.up.2.1, .int .i64 o.up.2.2, .int .i64 o.room, vf, vk, vm, vs]
structure Lists (lo : Nat) (w : World) (o : ObjD) (vf vk vm vs : Value) : Prop where
  f : RowE (Plain cbk) 2 lo w vf o.free
  k : RowE (Plain chd) 3 lo w vk o.kids
  m : RowE (Plain cmp) 5 lo w vm o.maps
  s : RowE (Plain cfs) 6 lo w vs o.fasts
theorem Lists.keep {lo : Nat} {w w' : World} {o : ObjD} {vf vk vm vs : Value} (h : Lists lo w o vf vk vm vs) (hk : Keep lo w w') : Lists lo w' o vf vk vm vs :=
  ⟨rowE_stays (plain_stays _) h.f hk, rowE_stays (plain_stays _) h.k hk, rowE_stays (plain_stays _) h.m hk, rowE_stays (plain_stays _) h.s hk⟩
theorem Lists.lower {lo lo' : Nat} {w : World} {o : ObjD} {vf vk vm vs : Value} (h : Lists lo w o vf vk vm vs) (hl : lo' ≤ lo) : Lists lo' w o vf vk vm vs :=
  ⟨rowE_lowers (plain_lowers _) h.f hl, rowE_lowers (plain_lowers _) h.k hl, rowE_lowers (plain_lowers _) h.m hl, rowE_lowers (plain_lowers _) h.s hl⟩
theorem Lists.below {lo : Nat} {w w' : World} {o : ObjD} {vf vk vm vs : Value} (h : Lists lo w o vf vk vm vs) (hb : Below w.heap.size w w') : Lists lo w' o vf vk vm vs := h.keep (Keep.of lo hb)
def ObjE : Reader ObjD := fun lo w cs o => ∃ vf vk vm vs, cs = ocells o vf vk vm vs ∧ Lists lo w o vf vk vm vs
theorem obj_stays : Stays ObjE := fun lo w w' cs o h hk => by
  obtain ⟨vf, vk, vm, vs, rfl, h⟩ := h
  exact ⟨vf, vk, vm, vs, rfl, h.keep hk⟩
theorem obj_lowers : Lowers ObjE := fun lo lo' w cs o h hl => by
  obtain ⟨vf, vk, vm, vs, rfl, h⟩ := h
  exact ⟨vf, vk, vm, vs, rfl, h.lower hl⟩
/-- how many items its lists hold -/
def ObjD.bulk (o : ObjD) : Nat := o.free.length + o.kids.length + o.maps.length + o.fasts.length

theorem sz_buddy (m : Int) (a : Option Addr) (n c : Nat) (k : Int) (hn : (n : Int) ≤ 9223372036854775807) (hk0 : 0 ≤ k) (hk1 : k ≤ 1048576) (w : World) : Calls Try.prog 102 #[.agg #[.int .i64 m, .slice a n c], .int .i64 k] w fun e w' => e = .returned (.int .i64 (if (n : Int) ≤ k then k - n else -1)) ∧ Below w.heap.size w w' := by
  have HS : Hid (∀ W, _) := fun W => sz_bks a n c k hn hk0 hk1 W
  by_cases h : (n : Int) ≤ k
  · rw [if_pos h] at HS ⊢
    go_enter Try.func102, Try.ntmps102
    go_wp2_with fail
    refine Calls.mono (HS.out _) ?_
    rintro e w1 ⟨rfl, rfl⟩
    go_wp2
    go_ret
    exact ⟨rfl, (Below.refl _ _).alloc (Nat.le_refl _) _⟩
  · rw [if_neg h] at HS ⊢
    go_enter Try.func102, Try.ntmps102
    go_wp2_with fail
    refine Calls.mono (HS.out _) ?_
    rintro e w1 ⟨rfl, rfl⟩
    go_wp2
    go_ret
    exact ⟨rfl, (Below.refl _ _).alloc (Nat.le_refl _) _⟩

set_option maxHeartbeats 2000000 in
theorem sz_obj0 (kd lb od pl u1 u2 u3 rm : Int) (af : Option Addr) (nf cf : Nat) (ak : Option Addr) (nk ck : Nat) (am : Option Addr) (nm cm : Nat) (aq : Option Addr) (ns cs : Nat) (lf : nf ≤ maxLen) (lk : nk ≤ maxLen) (lm : nm ≤ maxLen) (ls : ns ≤ maxLen) (w : World) (k : Int) (hk0 : 0 ≤ k) (hk1 : k ≤ 1048576) : Calls Try.prog 83 #[.agg #[.int .i64 kd, .int .i64 lb, .int .i64 od, .int .i64 pl, .int .i64 u1, .int .i64 u2, .int .i64 u3, .int .i64 rm, .slice af nf cf, .slice ak nk ck, .slice am nm cm, .slice aq ns cs], .int .i64 k] w fun e w' => e = .returned (.int .i64 (if ((nf + nk + nm + ns : Nat) : Int) ≤ k then k - ((nf + nk + nm + ns : Nat) : Int) else -1)) ∧ Below w.heap.size w w' := by
  unfold maxLen at lf lk lm ls
  have H1 : Hid (∀ W, _) := fun W => sz_buddy rm af nf cf k (by omega) hk0 hk1 W
  by_cases h1 : (nf : Int) ≤ k
  · rw [if_pos h1] at H1
    have H2 : Hid (∀ W, _) := fun W => sz_hds ak nk ck (k - nf) (by omega) (by omega) (by omega) W
    by_cases h2 : (nk : Int) ≤ k - nf
    · rw [if_pos h2] at H2
      have H3 : Hid (∀ W, _) := fun W => sz_mps am nm cm (k - nf - nk) (by omega) (by omega) (by omega) W
      by_cases h3 : (nm : Int) ≤ k - nf - nk
      · rw [if_pos h3] at H3
        have H4 : Hid (∀ W, _) := fun W => sz_fss aq ns cs (k - nf - nk - nm) (by omega) (by omega) (by omega) W
        by_cases h4 : (ns : Int) ≤ k - nf - nk - nm
        · rw [if_pos h4] at H4
          have e : ((nf + nk + nm + ns : Nat) : Int) ≤ k := by omega
          rw [if_pos e]
          have HE : Hid (k - nf - nk - nm - ns = k - ((nf + nk + nm + ns : Nat) : Int)) := by show _ = _; omega
          clear e
          go_enter Try.func83, Try.ntmps83
          go_wp2_with (first | (go_at_call 102; refine Calls.mono (H1.out _) ?_; rintro e w1 ⟨rfl, hb1⟩; have HB1 : Hid (Below w.heap.size w w1) := below_tr (below_one w _) hb1; have HA1 : Hid (Blk w1 w.heap.size 122 [.int .i64 kd, .int .i64 lb, .int .i64 od, .int .i64 pl, .int .i64 u1, .int .i64 u2, .int .i64 u3, .int .i64 rm, .slice af nf cf, .slice ak nk ck, .slice am nm cm, .slice aq ns cs]) := (blk_new w [.int .i64 kd, .int .i64 lb, .int .i64 od, .int .i64 pl, .int .i64 u1, .int .i64 u2, .int .i64 u3, .int .i64 rm, .slice af nf cf, .slice ak nk ck, .slice am nm cm, .slice aq ns cs] 122).later hb1; have x9 : w1.cell? ⟨w.heap.size, 9, none⟩ = some (.slice ak nk ck) := HA1.out.cell 9; have x10 : w1.cell? ⟨w.heap.size, 10, none⟩ = some (.slice am nm cm) := HA1.out.cell 10; have x11 : w1.cell? ⟨w.heap.size, 11, none⟩ = some (.slice aq ns cs) := HA1.out.cell 11; clear hb1) | (go_at_call 103; refine Calls.mono (H2.out _) ?_; rintro e w2 ⟨rfl, rfl⟩) | (go_at_call 104; refine Calls.mono (H3.out _) ?_; rintro e w3 ⟨rfl, rfl⟩) | (go_at_call 105; refine Calls.mono (H4.out _) ?_; rintro e w4 ⟨rfl, rfl⟩))
          go_ret
          exact ⟨by rw [← HE.out]; rfl, HB1.out⟩
        · rw [if_neg h4] at H4
          have e : ¬ (((nf + nk + nm + ns : Nat) : Int)) ≤ k := by omega
          rw [if_neg e]
          clear e
          go_enter Try.func83, Try.ntmps83
          go_wp2_with (first | (go_at_call 102; refine Calls.mono (H1.out _) ?_; rintro e w1 ⟨rfl, hb1⟩; have HB1 : Hid (Below w.heap.size w w1) := below_tr (below_one w _) hb1; have HA1 : Hid (Blk w1 w.heap.size 122 [.int .i64 kd, .int .i64 lb, .int .i64 od, .int .i64 pl, .int .i64 u1, .int .i64 u2, .int .i64 u3, .int .i64 rm, .slice af nf cf, .slice ak nk ck, .slice am nm cm, .slice aq ns cs]) := (blk_new w [.int .i64 kd, .int .i64 lb, .int .i64 od, .int .i64 pl, .int .i64 u1, .int .i64 u2, .int .i64 u3, .int .i64 rm, .slice af nf cf, .slice ak nk ck, .slice am nm cm, .slice aq ns cs] 122).later hb1; have x9 : w1.cell? ⟨w.heap.size, 9, none⟩ = some (.slice ak nk ck) := HA1.out.cell 9; have x10 : w1.cell? ⟨w.heap.size, 10, none⟩ = some (.slice am nm cm) := HA1.out.cell 10; have x11 : w1.cell? ⟨w.heap.size, 11, none⟩ = some (.slice aq ns cs) := HA1.out.cell 11; clear hb1) | (go_at_call 103; refine Calls.mono (H2.out _) ?_; rintro e w2 ⟨rfl, rfl⟩) | (go_at_call 104; refine Calls.mono (H3.out _) ?_; rintro e w3 ⟨rfl, rfl⟩) | (go_at_call 105; refine Calls.mono (H4.out _) ?_; rintro e w4 ⟨rfl, rfl⟩))
          go_ret
          exact ⟨rfl, HB1.out⟩
      · rw [if_neg h3] at H3
        have e : ¬ (((nf + nk + nm + ns : Nat) : Int)) ≤ k := by omega
        rw [if_neg e]
        clear e
        go_enter Try.func83, Try.ntmps83
        go_wp2_with (first | (go_at_call 102; refine Calls.mono (H1.out _) ?_; rintro e w1 ⟨rfl, hb1⟩; have HB1 : Hid (Below w.heap.size w w1) := below_tr (below_one w _) hb1; have HA1 : Hid (Blk w1 w.heap.size 122 [.int .i64 kd, .int .i64 lb, .int .i64 od, .int .i64 pl, .int .i64 u1, .int .i64 u2, .int .i64 u3, .int .i64 rm, .slice af nf cf, .slice ak nk ck, .slice am nm cm, .slice aq ns cs]) := (blk_new w [.int .i64 kd, .int .i64 lb, .int .i64 od, .int .i64 pl, .int .i64 u1, .int .i64 u2, .int .i64 u3, .int .i64 rm, .slice af nf cf, .slice ak nk ck, .slice am nm cm, .slice aq ns cs] 122).later hb1; have x9 : w1.cell? ⟨w.heap.size, 9, none⟩ = some (.slice ak nk ck) := HA1.out.cell 9; have x10 : w1.cell? ⟨w.heap.size, 10, none⟩ = some (.slice am nm cm) := HA1.out.cell 10; have x11 : w1.cell? ⟨w.heap.size, 11, none⟩ = some (.slice aq ns cs) := HA1.out.cell 11; clear hb1) | (go_at_call 103; refine Calls.mono (H2.out _) ?_; rintro e w2 ⟨rfl, rfl⟩) | (go_at_call 104; refine Calls.mono (H3.out _) ?_; rintro e w3 ⟨rfl, rfl⟩))
        go_ret
        exact ⟨rfl, HB1.out⟩
    · rw [if_neg h2] at H2
      have e : ¬ (((nf + nk + nm + ns : Nat) : Int)) ≤ k := by omega
      rw [if_neg e]
      clear e
      go_enter Try.func83, Try.ntmps83
      go_wp2_with (first | (go_at_call 102; refine Calls.mono (H1.out _) ?_; rintro e w1 ⟨rfl, hb1⟩; have HB1 : Hid (Below w.heap.size w w1) := below_tr (below_one w _) hb1; have HA1 : Hid (Blk w1 w.heap.size 122 [.int .i64 kd, .int .i64 lb, .int .i64 od, .int .i64 pl, .int .i64 u1, .int .i64 u2, .int .i64 u3, .int .i64 rm, .slice af nf cf, .slice ak nk ck, .slice am nm cm, .slice aq ns cs]) := (blk_new w [.int .i64 kd, .int .i64 lb, .int .i64 od, .int .i64 pl, .int .i64 u1, .int .i64 u2, .int .i64 u3, .int .i64 rm, .slice af nf cf, .slice ak nk ck, .slice am nm cm, .slice aq ns cs] 122).later hb1; have x9 : w1.cell? ⟨w.heap.size, 9, none⟩ = some (.slice ak nk ck) := HA1.out.cell 9; have x10 : w1.cell? ⟨w.heap.size, 10, none⟩ = some (.slice am nm cm) := HA1.out.cell 10; have x11 : w1.cell? ⟨w.heap.size, 11, none⟩ = some (.slice aq ns cs) := HA1.out.cell 11; clear hb1) | (go_at_call 103; refine Calls.mono (H2.out _) ?_; rintro e w2 ⟨rfl, rfl⟩))
      go_ret
      exact ⟨rfl, HB1.out⟩
  · rw [if_neg h1] at H1
    have e : ¬ (((nf + nk + nm + ns : Nat) : Int)) ≤ k := by omega
    rw [if_neg e]
    clear e
    go_enter Try.func83, Try.ntmps83
    go_wp2_with (first | (go_at_call 102; refine Calls.mono (H1.out _) ?_; rintro e w1 ⟨rfl, hb1⟩; have HB1 : Hid (Below w.heap.size w w1) := below_tr (below_one w _) hb1; have HA1 : Hid (Blk w1 w.heap.size 122 [.int .i64 kd, .int .i64 lb, .int .i64 od, .int .i64 pl, .int .i64 u1, .int .i64 u2, .int .i64 u3, .int .i64 rm, .slice af nf cf, .slice ak nk ck, .slice am nm cm, .slice aq ns cs]) := (blk_new w [.int .i64 kd, .int .i64 lb, .int .i64 od, .int .i64 pl, .int .i64 u1, .int .i64 u2, .int .i64 u3, .int .i64 rm, .slice af nf cf, .slice ak nk ck, .slice am nm cm, .slice aq ns cs] 122).later hb1; have x9 : w1.cell? ⟨w.heap.size, 9, none⟩ = some (.slice ak nk ck) := HA1.out.cell 9; have x10 : w1.cell? ⟨w.heap.size, 10, none⟩ = some (.slice am nm cm) := HA1.out.cell 10; have x11 : w1.cell? ⟨w.heap.size, 11, none⟩ = some (.slice aq ns cs) := HA1.out.cell 11; clear hb1))
    go_ret
    exact ⟨rfl, HB1.out⟩
theorem sz_obj (o : ObjD) {lo : Nat} {w : World} {vf vk vm vs : Value} (h : Lists lo w o vf vk vm vs) (k : Int) (hk0 : 0 ≤ k) (hk1 : k ≤ 1048576) : Calls Try.prog 83 #[.agg (ocells o vf vk vm vs).toArray, .int .i64 k] w fun e w' => e = .returned (.int .i64 (if (o.bulk : Int) ≤ k then k - o.bulk else -1)) ∧ Below w.heap.size w w' := by
  obtain ⟨af, cf, rfl, lf⟩ := h.f.form
  obtain ⟨ak, ck, rfl, lk⟩ := h.k.form
  obtain ⟨am, cm, rfl, lm⟩ := h.m.form
  obtain ⟨aq, cs, rfl, ls⟩ := h.s.form
  exact sz_obj0 _ _ _ _ _ _ _ _ _ _ _ _ _ _ _ _ _ _ _ _ lf lk lm ls w k hk0 hk1
end Go.Proofs.Ytohgafblffnekaa.deep
