/-
  Slots as they lie in memory: what their cells read as; how many items hang on them.
-/
import Derived.Test.YtohgafblffnekaaObj
namespace Go.Proofs.Ytohgafblffnekaa.deep
open Go.RowKit Go.Deep Go.Sort
set_option linter.unusedVariables false

structure SlotD where
  gen : Int
  live : Bool
  id : Int
  obj : ObjD
def scells (s : SlotD) (vf vk vm vs : Value) : List Value := .int .i64 s.gen :: .bool s.live :: .int .i64 s.id :: ocells s.obj vf vk vm vs
def SlotE : Reader SlotD := fun lo w cs s => ∃ vf vk vm vs, cs = scells s vf vk vm vs ∧ Lists lo w s.obj vf vk vm vs
theorem slot_stays : Stays SlotE := fun lo w w' cs o h hk => by
  obtain ⟨vf, vk, vm, vs, rfl, h⟩ := h
  exact ⟨vf, vk, vm, vs, rfl, h.keep hk⟩
theorem slot_lowers : Lowers SlotE := fun lo lo' w cs o h hl => by
  obtain ⟨vf, vk, vm, vs, rfl, h⟩ := h
  exact ⟨vf, vk, vm, vs, rfl, h.lower hl⟩
/-- a slot of a row, cell by cell -/
theorem slot_at {lo : Nat} {w : World} {xs : List SlotD} {g o i : Nat} {hi : i < xs.length} (h : ∃ cs : List Value, cs.length = 15 ∧ (∀ j, j < 15 → w.cell? ⟨g, o + i * 15 + j, none⟩ = cs[j]?) ∧ SlotE lo w cs xs[i]) :
    ∃ vf vk vm vs, Lists lo w xs[i].obj vf vk vm vs ∧ ∀ j, j < 15 → w.cell? ⟨g, o + i * 15 + j, none⟩ = (scells xs[i] vf vk vm vs)[j]? := by
  obtain ⟨cs, _, h1, vf, vk, vm, vs, rfl, h2⟩ := h
  exact ⟨vf, vk, vm, vs, h2, h1⟩
def bulkTo (xs : List SlotD) (j : Nat) : Nat := ((xs.take j).map fun s => s.obj.bulk).sum
def bulkS (xs : List SlotD) : Nat := bulkTo xs xs.length
theorem bulk_step (xs : List SlotD) (j : Nat) (h : j < xs.length) : bulkTo xs (j + 1) = bulkTo xs j + xs[j].obj.bulk := by
  simp only [bulkTo]
  rw [List.take_add_one, List.getElem?_eq_getElem h, List.map_append, List.sum_append]; simp
theorem bulk_le (xs : List SlotD) : ∀ d j, j + d = xs.length → bulkTo xs j ≤ bulkS xs
  | 0, j, h => by
    have e : j = xs.length := by omega
    rw [e]; exact Nat.le_refl _
  | d + 1, j, h => Nat.le_trans (by rw [bulk_step xs j (by omega)]; omega) (bulk_le xs d (j + 1) (by omega))
theorem bulk_one (xs : List SlotD) (i : Nat) (h : i < xs.length) : xs[i].obj.bulk ≤ bulkS xs := by
  have h1 := bulk_le xs (xs.length - (i + 1)) (i + 1) (by omega)
  rw [bulk_step xs i h] at h1
  omega

set_option maxHeartbeats 2000000 in
theorem sz_slot0 (gn : Int) (lv : Bool) (id kd lb od pl u1 u2 u3 rm : Int) (fr : List Tbk) (ks : List Thd) (ms : List Tmp) (ss : List Tfs) {lo : Nat} {w : World} {vf vk vm vs : Value} (h : Lists lo w ⟨kd, lb, od, pl, (u1, u2, u3), rm, fr, ks, ms, ss⟩ vf vk vm vs) (k : Int) (hk0 : 0 ≤ k) (hk1 : k ≤ 1048576) (b : Nat) (hb : b = ObjD.bulk ⟨kd, lb, od, pl, (u1, u2, u3), rm, fr, ks, ms, ss⟩) : Calls Try.prog 63 #[.agg #[.int .i64 gn, .bool lv, .int .i64 id, .int .i64 kd, .int .i64 lb, .int .i64 od, .int .i64 pl, .int .i64 u1, .int .i64 u2, .int .i64 u3, .int .i64 rm, vf, vk, vm, vs], .int .i64 k] w fun e w' => e = .returned (.int .i64 (if (b : Int) ≤ k then k - b else -1)) ∧ Below w.heap.size w w' := by
  have H1 : Hid (∀ W, Below w.heap.size w W → Calls Try.prog 83 #[.agg #[.int .i64 kd, .int .i64 lb, .int .i64 od, .int .i64 pl, .int .i64 u1, .int .i64 u2, .int .i64 u3, .int .i64 rm, vf, vk, vm, vs], .int .i64 k] W fun e w' => e = .returned (.int .i64 (if (b : Int) ≤ k then k - b else -1)) ∧ Below W.heap.size W w') := fun W hW => by rw [hb]; exact sz_obj ⟨kd, lb, od, pl, (u1, u2, u3), rm, fr, ks, ms, ss⟩ (h.below hW) k hk0 hk1
  obtain ⟨af, cf, ef, _⟩ := h.f.form
  obtain ⟨ak, ck, ek, _⟩ := h.k.form
  obtain ⟨am, cm, em, _⟩ := h.m.form
  obtain ⟨aq, cq, eq, _⟩ := h.s.form
  simp only at ef ek em eq
  generalize fr.length = nf at ef
  generalize ks.length = nk at ek
  generalize ms.length = nm at em
  generalize ss.length = nq at eq
  subst ef ek em eq
  clear h hb
  by_cases hk : (b : Int) ≤ k
  · rw [if_pos hk] at H1 ⊢
    go_enter Try.func63, Try.ntmps63
    go_wp2_with fail
    refine Calls.mono (H1.out _ (below_one w _)) ?_
    rintro e w1 ⟨rfl, hb1⟩
    have HB1 : Hid (Below w.heap.size w w1) := below_tr (below_one w _) hb1
    clear hb1
    go_wp2_with fail
    go_ret
    exact ⟨rfl, HB1.out⟩
  · rw [if_neg hk] at H1 ⊢
    go_enter Try.func63, Try.ntmps63
    go_wp2_with fail
    refine Calls.mono (H1.out _ (below_one w _)) ?_
    rintro e w1 ⟨rfl, hb1⟩
    have HB1 : Hid (Below w.heap.size w w1) := below_tr (below_one w _) hb1
    clear hb1
    go_wp2_with fail
    go_ret
    exact ⟨rfl, HB1.out⟩
theorem sz_slot (x : SlotD) {lo : Nat} {w : World} {vf vk vm vs : Value} (h : Lists lo w x.obj vf vk vm vs) (k : Int) (hk0 : 0 ≤ k) (hk1 : k ≤ 1048576) : Calls Try.prog 63 #[.agg (scells x vf vk vm vs).toArray, .int .i64 k] w fun e w' => e = .returned (.int .i64 (if (x.obj.bulk : Int) ≤ k then k - x.obj.bulk else -1)) ∧ Below w.heap.size w w' := by
  obtain ⟨gn, lv, id, ⟨kd, lb, od, pl, ⟨u1, u2, u3⟩, rm, fr, ks, ms, ss⟩⟩ := x
  exact sz_slot0 gn lv id kd lb od pl u1 u2 u3 rm fr ks ms ss h k hk0 hk1 _ rfl

set_option maxHeartbeats 4000000 in
theorem sz_slots {lo : Nat} {w : World} {v : Value} {xs : List SlotD} (h : RowE SlotE 15 lo w v xs) (k : Int) (hk0 : 0 ≤ k) (hk1 : k ≤ 1048576) : Calls Try.prog 30 #[v, .int .i64 k] w fun e w' => e = .returned (.int .i64 (if ((xs.length + bulkS xs : Nat) : Int) ≤ k then k - ((xs.length + bulkS xs : Nat) : Int) else -1)) ∧ Below w.heap.size w w' := by
  obtain ⟨a, c, rfl, hml, h3⟩ := h
  unfold maxLen at hml
  obtain ⟨n, hx⟩ : ∃ n, n = xs.length := ⟨_, rfl⟩
  have H3 : Hid (0 < xs.length → ∃ g o, a = some ⟨g, o, none⟩ ∧ lo ≤ g ∧ g < w.heap.size ∧ ∀ i (hi : i < xs.length), ∃ cs : List Value, cs.length = 15 ∧ (∀ j, j < 15 → w.cell? ⟨g, o + i * 15 + j, none⟩ = cs[j]?) ∧ SlotE lo w cs xs[i]) := h3
  have HX : Hid (n = xs.length) := hx
  rw [← hx] at hml ⊢
  clear h3 hx
  obtain ⟨rv, hrv⟩ : ∃ r : Int, r = (if ((n + bulkS xs : Nat) : Int) ≤ k then k - ((n + bulkS xs : Nat) : Int) else -1) := ⟨_, rfl⟩
  have HRV : Hid (rv = (if ((n + bulkS xs : Nat) : Int) ≤ k then k - ((n + bulkS xs : Nat) : Int) else -1)) := hrv
  rw [← hrv]
  clear hrv
  by_cases hnk : (n : Int) ≤ k
  · go_enter Try.func30, Try.ntmps30
    go_wp2_with fail
    go_loopw [1, 5] (fun t1 t5 wr => ∃ j : Nat, j ≤ n ∧ t5 = .int .i64 j ∧ t1 = .int .i64 (k - n - bulkTo xs j) ∧ (bulkTo xs j : Int) ≤ k - n ∧ Hid (Below w.heap.size w wr)) (fun _ t5 _ => n - (intOf t5).toNat)
    case atStart => exact ⟨0, by omega, rfl, by simp [bulkTo], by simp [bulkTo]; omega, Below.refl _ _⟩
    case round =>
      obtain ⟨j, hj, rfl, rfl, hbj, HB⟩ := hrel
      by_cases hlt : j < n
      · have hlx : j < xs.length := by rw [← HX.out]; exact hlt
        obtain ⟨g, o, rfl, _, hg, hc3⟩ := H3.out (by omega)
        obtain ⟨vf, vk, vm, vs, hl, hc⟩ := slot_at (hc3 j hlx)
        have HST : Hid (bulkTo xs (j + 1) = bulkTo xs j + xs[j].obj.bulk) := bulk_step xs j hlx
        have HLE : Hid (bulkTo xs (j + 1) ≤ bulkS xs) := bulk_le xs (xs.length - (j + 1)) (j + 1) (by omega)
        clear hc3
        generalize xs[j] = x at *
        obtain ⟨gn, lv, id, ⟨kd, lb, od, pl, ⟨u1, u2, u3⟩, rm, fr, ks, ms, ss⟩⟩ := x
        obtain ⟨b, hbk⟩ : ∃ b, b = ObjD.bulk ⟨kd, lb, od, pl, (u1, u2, u3), rm, fr, ks, ms, ss⟩ := ⟨_, rfl⟩
        have HS : Hid (∀ W, Below w.heap.size w W → Calls Try.prog 63 #[.agg #[.int .i64 gn, .bool lv, .int .i64 id, .int .i64 kd, .int .i64 lb, .int .i64 od, .int .i64 pl, .int .i64 u1, .int .i64 u2, .int .i64 u3, .int .i64 rm, vf, vk, vm, vs], .int .i64 (k - n - bulkTo xs j)] W fun e w' => e = .returned (.int .i64 (if (b : Int) ≤ k - n - bulkTo xs j then k - n - bulkTo xs j - b else -1)) ∧ Below W.heap.size W w') := fun W hW => sz_slot0 gn lv id kd lb od pl u1 u2 u3 rm fr ks ms ss (hl.below hW) _ (by omega) (by omega) b hbk
        simp only at HST hl
        rw [← hbk] at HST
        generalize bulkTo xs j = bt at *
        obtain ⟨bt2, hbt2⟩ : ∃ q, q = bulkTo xs (j + 1) := ⟨_, rfl⟩
        have HBT : Hid (bt2 = bulkTo xs (j + 1)) := hbt2
        rw [← hbt2] at HST HLE
        clear hbk hbt2
        obtain ⟨af, cf, qf, _⟩ := hl.f.form
        obtain ⟨ak, ck, qk, _⟩ := hl.k.form
        obtain ⟨am, cm, qm, _⟩ := hl.m.form
        obtain ⟨aq, cq, qq, _⟩ := hl.s.form
        simp only at qf qk qm qq
        generalize fr.length = nf at qf
        generalize ks.length = nk at qk
        generalize ms.length = nm at qm
        generalize ss.length = nq at qq
        subst qf qk qm qq
        have e0 : wr.cell? ⟨g, o + j * 15, none⟩ = some (.int .i64 gn) := (HB.out.cell (p := ⟨g, o + j * 15, none⟩) hg).trans (hc 0 (by decide))
        have e1 : wr.cell? ⟨g, o + j * 15 + 1, none⟩ = some (.bool lv) := (HB.out.cell (p := ⟨g, o + j * 15 + 1, none⟩) hg).trans (hc 1 (by decide))
        have e2 : wr.cell? ⟨g, o + j * 15 + 2, none⟩ = some (.int .i64 id) := (HB.out.cell (p := ⟨g, o + j * 15 + 2, none⟩) hg).trans (hc 2 (by decide))
        have e3 : wr.cell? ⟨g, o + j * 15 + 3, none⟩ = some (.int .i64 kd) := (HB.out.cell (p := ⟨g, o + j * 15 + 3, none⟩) hg).trans (hc 3 (by decide))
        have e4 : wr.cell? ⟨g, o + j * 15 + 4, none⟩ = some (.int .i64 lb) := (HB.out.cell (p := ⟨g, o + j * 15 + 4, none⟩) hg).trans (hc 4 (by decide))
        have e5 : wr.cell? ⟨g, o + j * 15 + 5, none⟩ = some (.int .i64 od) := (HB.out.cell (p := ⟨g, o + j * 15 + 5, none⟩) hg).trans (hc 5 (by decide))
        have e6 : wr.cell? ⟨g, o + j * 15 + 6, none⟩ = some (.int .i64 pl) := (HB.out.cell (p := ⟨g, o + j * 15 + 6, none⟩) hg).trans (hc 6 (by decide))
        have e7 : wr.cell? ⟨g, o + j * 15 + 7, none⟩ = some (.int .i64 u1) := (HB.out.cell (p := ⟨g, o + j * 15 + 7, none⟩) hg).trans (hc 7 (by decide))
        have e8 : wr.cell? ⟨g, o + j * 15 + 8, none⟩ = some (.int .i64 u2) := (HB.out.cell (p := ⟨g, o + j * 15 + 8, none⟩) hg).trans (hc 8 (by decide))
        have e9 : wr.cell? ⟨g, o + j * 15 + 9, none⟩ = some (.int .i64 u3) := (HB.out.cell (p := ⟨g, o + j * 15 + 9, none⟩) hg).trans (hc 9 (by decide))
        have e10 : wr.cell? ⟨g, o + j * 15 + 10, none⟩ = some (.int .i64 rm) := (HB.out.cell (p := ⟨g, o + j * 15 + 10, none⟩) hg).trans (hc 10 (by decide))
        have e11 : wr.cell? ⟨g, o + j * 15 + 11, none⟩ = some (.slice af nf cf) := (HB.out.cell (p := ⟨g, o + j * 15 + 11, none⟩) hg).trans (hc 11 (by decide))
        have e12 : wr.cell? ⟨g, o + j * 15 + 12, none⟩ = some (.slice ak nk ck) := (HB.out.cell (p := ⟨g, o + j * 15 + 12, none⟩) hg).trans (hc 12 (by decide))
        have e13 : wr.cell? ⟨g, o + j * 15 + 13, none⟩ = some (.slice am nm cm) := (HB.out.cell (p := ⟨g, o + j * 15 + 13, none⟩) hg).trans (hc 13 (by decide))
        have e14 : wr.cell? ⟨g, o + j * 15 + 14, none⟩ = some (.slice aq nq cq) := (HB.out.cell (p := ⟨g, o + j * 15 + 14, none⟩) hg).trans (hc 14 (by decide))
        clear hl hc
        by_cases hfit : (b : Int) ≤ k - n - bt
        · rw [if_pos hfit] at HS
          go_wp2_with fail
          refine Calls.mono (HS.out _ HB.out) ?_
          rintro e w2 ⟨rfl, hb2⟩
          have HB2 : Hid (Below w.heap.size w w2) := below_tr HB.out hb2
          clear hb2
          go_wp2_with fail
          go_roundw
          case rel => exact ⟨j + 1, by omega, by go_num, by rw [← HBT.out, HST.out]; go_num, by rw [← HBT.out, HST.out]; omega, HB2.out⟩
          case measure => simp [intOf]; omega
        · rw [if_neg hfit] at HS
          have HNO : Hid (¬ (((n + bulkS xs : Nat) : Int) ≤ k)) := by
            have h1 := HST.out
            have h2 := HLE.out
            show ¬ _
            omega
          go_wp2_with fail
          refine Calls.mono (HS.out _ HB.out) ?_
          rintro e w2 ⟨rfl, hb2⟩
          have HB2 : Hid (Below w.heap.size w w2) := below_tr HB.out hb2
          clear hb2
          go_wp2_with fail
          go_ret
          exact ⟨by rw [HRV.out, if_neg (by have := HNO.out; omega)]; rfl, HB2.out⟩
      · obtain rfl : j = n := by omega
        have HE : Hid (bulkTo xs j = bulkS xs) := by rw [HX.out]; rfl
        have HYES : Hid (((j + bulkS xs : Nat) : Int) ≤ k) := by
          have := HE.out
          show _ ≤ _
          omega
        have HV : Hid (k - j - bulkTo xs j = k - ((j + bulkS xs : Nat) : Int)) := by
          have := HE.out
          show _ = _
          omega
        go_wp2_with fail
        go_ret
        exact ⟨by rw [HRV.out, if_pos (by have := HYES.out; omega), ← HV.out]; rfl, HB.out⟩
  · have hno : ¬ (((n + bulkS xs : Nat) : Int) ≤ k) := by omega
    have HNO : Hid (rv = -1) := by rw [HRV.out, if_neg hno]; exact rfl
    clear hno
    go_enter Try.func30, Try.ntmps30
    go_wp2_with fail
    go_ret
    exact ⟨by rw [HNO.out]; rfl, Below.refl _ _⟩
end Go.Proofs.Ytohgafblffnekaa.deep
