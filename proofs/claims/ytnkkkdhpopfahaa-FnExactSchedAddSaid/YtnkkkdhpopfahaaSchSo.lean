/-
  The program's wheel made a Sched again: sched. No condition but the line's.
-/
import Derived.Test.YtnkkkdhpopfahaaSchCl
import Derived.Test.YtnkkkdhpopfahaaSchWo
import Derived.Test.YtnkkkdhpopfahaaSchTc
import Derived.Test.YtnkkkdhpopfahaaSchSk
import Derived.Shelf.SlSortCmp.NoneTotal

namespace Go.Proofs.Ytnkkkdhpopfahaa.sch
open Go.RowKit Go.Deep Go.Sort Go.Lib Go.Shelf
open Go.Proofs.Ytnkkkdhpopfahaa
open Go.Proofs.Ytnkkkdhpopfahaa.deep
set_option linter.unusedVariables false
set_option maxRecDepth 100000

theorem sort_grown (w : World) (g n : Nat) (d' : Array Wt) (os : Array Obj) : w.grownBy (sortWorldK cwt 4 w g 0 n d' os) (some g) := by
  refine ⟨rfl, rfl, rfl, by simp [sortWorldK, grow, putRowK, putRow, mapBlock], fun k hk hne => ?_⟩
  have hne2 : g ≠ k := fun e => hne (by rw [e])
  unfold sortWorldK
  rw [heap_grow_old _ _ (by simp [putRowK, putRow, mapBlock]; exact hk)]
  unfold putRowK putRow mapBlock
  show (w.heap.modify g _)[k]? = _
  rw [Array.getElem?_modify, if_neg hne2]
theorem sort_holds {w : World} {g n : Nat} {d d' : Array Wt} {os : Array Obj} (h : HoldsK cwt 4 w g 0 d) (hg : g < w.heap.size) (hs : d'.size = d.size) : HoldsK cwt 4 (sortWorldK cwt 4 w g 0 n d' os) g 0 d' := by
  unfold sortWorldK
  refine holdsK_grow cwt 4 _ _ _ _ _ (by simp [putRowK, putRow, mapBlock]; exact hg) ?_
  exact holdsK_putRowK cwt 4 _ _ _ d d' (holdsK_ahead cwt 4 w n g 0 d h) hs
theorem row_of_holds {w : World} {g lo c : Nat} {d : Array Wt} (h : HoldsK cwt 4 w g 0 d) (hg : g < w.heap.size) (hm : d.size ≤ 1000) (hlo : lo ≤ g) : RowE (Plain cwt) 4 lo w (.slice (some ⟨g, 0, none⟩) d.toList.length c) d.toList := by
  refine ⟨_, c, rfl, by unfold maxLen; rw [Array.length_toList]; omega, fun h0 => ⟨g, 0, rfl, hlo, hg, fun i hi => ⟨cwt d.toList[i], rfl, fun j hj => ?_, rfl⟩⟩⟩
  rw [Array.length_toList] at hi
  have h1 := (h.cell hi hj).1
  rw [h1, getElem!_pos d i hi, getElem!_pos _ j (by rw [cwt_len]; exact hj)]
  rw [List.getElem?_eq_getElem (by rw [cwt_len]; exact hj)]
  simp
theorem wts_app {base : Nat} {w : World} {v : Value} {L M : List Wt} {n : Nat} (hn : n = L.length + M.length) (h : w.ownsRow base 67 4 v n ((L.map cwt).flatten ++ (M.map cwt).flatten)) : Wts base w v (L ++ M) := by
  refine ⟨fun cs hc => ?_, ?_⟩
  · obtain ⟨x, _, rfl⟩ := List.mem_map.1 hc; rfl
  · rw [List.length_map, List.length_append, ← hn, List.map_append, List.flatten_append]
    exact h
theorem wts_flat (ts : List Wt) : ((ts.map cwt).flatten).length = ts.length * 4 := by
  have := flatten_len (k := 4) (ts.map cwt) (fun cs hcs => by obtain ⟨x, _, rfl⟩ := List.mem_map.1 hcs; rfl)
  rw [List.length_map] at this; exact this
theorem wts_one (ts : List Wt) : ∀ u ∈ (ts.map cwt).flatten, u.oneCell' = true := by
  intro u hu
  obtain ⟨cs, h1, h2⟩ := List.mem_flatten.1 hu
  obtain ⟨x, _, rfl⟩ := List.mem_map.1 h1
  exact cwt_one x u h2
theorem cat_le (ws : List Wt) (h : ws.length ≤ 41) : ∀ j, (catL ws j).length ≤ 41 * j
  | 0 => by simp [catL]
  | j + 1 => by
    rw [catL_succ, List.length_append]
    have h1 := cat_le ws h j
    have h2 := List.length_filter_le (isL j) ws
    omega
theorem sort_none (p : Option Addr) (cap : Nat) (fv : Value) (w : World) : Calls Try.prog 68 #[.slice p 0 cap, fv] w fun e w' => e = .returned (.tuple #[]) ∧ w' = w := AnyF.slices_SortFunc_none Try.laysSlF06_f68 p cap fv w
theorem two_set {W : World} {B R : Nat} {x y z a b : Value} (h : W.cell? ⟨B, 0, none⟩ = some a ∧ W.cell? ⟨B, 1, none⟩ = some b) (hne : B ≠ R) : (((W.setCell ⟨R, 0, none⟩ x).setCell ⟨R, 1, none⟩ y).setCell ⟨R, 2, none⟩ z).cell? ⟨B, 0, none⟩ = some a ∧ (((W.setCell ⟨R, 0, none⟩ x).setCell ⟨R, 1, none⟩ y).setCell ⟨R, 2, none⟩ z).cell? ⟨B, 1, none⟩ = some b := by
  have hb : (((W.setCell ⟨R, 0, none⟩ x).setCell ⟨R, 1, none⟩ y).setCell ⟨R, 2, none⟩ z).heap[B]? = W.heap[B]? := putW_other [x, y, z] W R 0 B hne
  exact ⟨(World.cell?_of_block (w := W) (a := ⟨B, 0, none⟩) hb).trans h.1, (World.cell?_of_block (w := W) (a := ⟨B, 1, none⟩) hb).trans h.2⟩
def SchedPost (vo : Value) (now : Int) (ts : List Tt) (w : World) (e : Ending) (w' : World) : Prop := ∃ vt, e = .returned (.agg #[vo, .int .i64 now, vt]) ∧ Tks w.heap.size w' vt ts ∧ Below w.heap.size w w'
set_option maxHeartbeats 4000000 in
theorem impl_sched (B : Nat) (a : Option Addr) (n c : Nat) (now last : Int) (f : Nat → Nat) (ws : List Wt) {w : World} (h : Wheel w B (.slice a n c) now last f ws) (hok : LineOk ws last) : Calls Try.prog 55 #[.pointer (some ⟨B, 0, none⟩)] w (SchedPost (.slice a n c) now (ws.map (·.1)) w) := by
  obtain ⟨i0, hi, hz0, hz1, hz2⟩ := info_parts info_wt
  have HWH : Hid (∀ W, Below w.heap.size w W → Wheel W B (.slice a n c) now last f ws) := fun W hW => h.later (hW.block B h.lt)
  have HLN : Hid (∀ (l : Nat), l < 16 → ∀ W, Below w.heap.size w W → Calls Try.prog 61 #[.pointer (some ⟨B, 2 + l * 162, none⟩)] W (WtsPost (ws.filter (isL l)) W)) := fun l hl W hW => by
    obtain ⟨cur, h1, h2⟩ := HWH.out W hW
    exact ring_line B _ _ _ _ cur h1 (h2.ring l hl)
  obtain ⟨V, hV⟩ : ∃ V, V = w.alloc (.cells #[.slice none 0 0, .int .i64 0, .slice none 0 0] 30) := ⟨_, rfl⟩
  have HBV : Hid (Below w.heap.size w V) := by rw [hV]; exact below_one _ _
  have HRV : Hid (Blk V w.heap.size 30 [.slice none 0 0, .int .i64 0, .slice none 0 0]) := by rw [hV]; exact blk_new _ _ _
  have HOV : Hid (Wts (w.heap.size + 1) V (.slice none 0 0) (catL ws 0)) := OwnC.nil _ _ _ _
  have HCL : Hid (∀ j, j ≤ 16 → (catL ws j).length ≤ 41 * 16) := fun j hj => Nat.le_trans (cat_le ws hok.len j) (Nat.mul_le_mul_left 41 hj)
  have hBw : B < w.heap.size := h.lt
  clear h
  go_enter Try.func55, Try.ntmps55
  go_wp2_with fail
  rw [← hV]
  clear hV
  go_loopw [3, 5] (fun tv ti wr => ∃ j : Nat, j ≤ 16 ∧ ti = .int .i64 j ∧ Hid (Wts (w.heap.size + 1) wr tv (catL ws j)) ∧ Hid (Blk wr w.heap.size 30 [.slice none 0 0, .int .i64 0, .slice none 0 0]) ∧ Hid (Below w.heap.size w wr)) (fun _ ti _ => 16 - (intOf ti).toNat)
  case atStart => exact ⟨0, Nat.zero_le _, rfl, HOV.out, HRV.out, HBV.out⟩
  case round =>
    obtain ⟨j, hj, rfl, HO, HR, HW⟩ := hrel
    clear HBV HRV HOV
    by_cases hlt : j < 16
    · have HL : Hid _ := HLN.out j hlt wr HW.out
      go_wp2_with fail
      refine Calls.mono HL.out ?_
      rintro e w4 ⟨v4, rfl, hk4, hb4⟩
      have HO4 : Hid (Wts (w.heap.size + 1) w4 u3 (catL ws j)) := OwnC.later HO.out hb4
      have HR4 : Hid (Blk w4 w.heap.size 30 [.slice none 0 0, .int .i64 0, .slice none 0 0]) := HR.out.later hb4
      have HW4 : Hid (Below w.heap.size w w4) := below_tr HW.out hb4
      have hrs := HR4.out.lt
      have HFL : Hid ((ws.filter (isL j)).length ≤ 41) := Nat.le_trans (List.length_filter_le _ _) hok.len
      have HCJ : Hid ((catL ws j).length ≤ 41 * 16) := HCL.out j hj
      rcases Nat.eq_zero_or_pos (ws.filter (isL j)).length with h0 | h0
      · have HE : Hid (catL ws (j + 1) = catL ws j) := by rw [Hid, catL_succ, List.length_eq_zero_iff.1 h0, List.append_nil]
        obtain ⟨a4, c4, hv4, -⟩ := OwnC.form hk4
        rw [List.length_map, h0] at hv4
        obtain ⟨a3, c3, hv3, -⟩ := OwnC.form HO4.out
        generalize (List.map cwt (catL ws j)).length = N at hv3
        subst hv3 hv4
        have hcap := own_cap HO4.out
        clear hk4 hb4 HL
        cases a4 <;> cases a3
        all_goals
          go_wp2_with fail
          go_roundw
          case rel => exact ⟨j + 1, by omega, by go_num, by rw [HE.out]; exact HO4.out, HR4.out, HW4.out⟩
          case measure => simp [intOf]; omega
      · obtain ⟨g, c4, hv4, -⟩ := OwnC.at hk4 (by rw [List.length_map]; exact h0)
        rw [List.length_map] at hv4
        have HRC : Hid (∀ q u, ((ws.filter (isL j)).map cwt).flatten[q]? = some u → w4.cell? ((⟨g, 0, none⟩ : Addr).add q) = some u) := by
          have := OwnC.plain hk4
          rw [hv4] at this
          exact row_cells (fun _ => rfl) this
        have HFT : Hid (((ws.filter (isL j)).map cwt).flatten.length = (ws.filter (isL j)).length * 4) := wts_flat _
        have HON : Hid (∀ u ∈ ((ws.filter (isL j)).map cwt).flatten, u.oneCell' = true) := wts_one _
        have HSZ : Hid (((catL ws j).map cwt).length + (ws.filter (isL j)).length ≤ maxLen ∧ (((catL ws j).map cwt).length + (ws.filter (isL j)).length) * 32 ≤ 140737488355328) := by
          have h1 := HFL.out; have h2 := HCJ.out
          rw [Hid, List.length_map]; unfold maxLen; exact ⟨by omega, by omega⟩
        subst hv4
        clear hk4 hb4 HL
        go_wp2_with (at_builtin; go_loud (refine wpList_append_own _ rfl _ _ 81 rfl (w.heap.size + 1) 67 i0 (.agg #[.int .i64 0, .int .i64 0, .int .i64 0, .int .i64 0]) 4 32 Try.underlying81 hi hz0 hz1 hz2 rfl (by decide) _ _ _ rfl HO4.out.row ⟨g, 0, none⟩ (ws.filter (isL j)).length c4 (((ws.filter (isL j)).map cwt).flatten) rfl HFT.out HRC.out HON.out HSZ.out.1 HSZ.out.2 hrs ?_); intro v5 w5 own5 gr5 _)
        have HO5 : Hid (Wts (w.heap.size + 1) w5 v5 (catL ws (j + 1))) := by rw [Hid, catL_succ]; exact wts_app (by rw [List.length_map]) own5
        have HW5 : Hid (Below w.heap.size w w5) := HW4.out.grown gr5 HW4.out.size (fun k e => by have := OwnC.own_ge HO4.out k e; omega)
        have HR5 : Hid (Blk w5 w.heap.size 30 [.slice none 0 0, .int .i64 0, .slice none 0 0]) := (gr5.block w.heap.size hrs (fun e => by have := OwnC.own_ge HO4.out _ e.symm; omega)).trans HR4.out
        clear own5 gr5
        go_wp2_with fail
        go_roundw
        case rel => exact ⟨j + 1, by omega, by go_num, HO5.out, HR5.out, HW5.out⟩
        case measure => simp [intOf]; omega
    · obtain rfl : j = 16 := by omega
      have HWL : Hid (∀ W, Below w.heap.size w W → W.cell? ⟨B, 0, none⟩ = some (.slice a n c) ∧ W.cell? ⟨B, 1, none⟩ = some (.int .i64 now)) := fun W hW => by
        obtain ⟨h1, h2, _⟩ := (HWH.out W hW).cells
        exact ⟨h1, h2⟩
      have HTI : Hid (∀ lo W v, RowE (Plain cwt) 4 lo W v ws → Calls Try.prog 60 #[v] W (OfPost (ws.map (·.1)) W)) := fun lo W v hv => tasks_in hv (by have := hok.len; omega)
      have hrs := HR.out.lt
      have HS : Hid (Calls Try.prog 68 #[u3, .func (.func 69) #[] #[]] wr fun e w' => e = .returned (.tuple #[]) ∧ Below w.heap.size w w' ∧ Blk w' w.heap.size 30 [.slice none 0 0, .int .i64 0, .slice none 0 0] ∧ RowE (Plain cwt) 4 0 w' u3 ws) := by
        have hperm := cat_perm ws hok.lab
        rcases Nat.eq_zero_or_pos (catL ws 16).length with h0 | h0
        · have hws : ws = [] := List.length_eq_zero_iff.1 (by rw [← hperm.length_eq]; exact h0)
          obtain ⟨a3, c3, hv3, -⟩ := OwnC.form HO.out
          rw [List.length_map, h0] at hv3
          subst hv3
          refine (sort_none a3 c3 _ wr).mono fun e w' ⟨h1, h2⟩ => ⟨h1, by rw [h2]; exact HW.out, by rw [h2]; exact HR.out, ?_⟩
          rw [hws]
          exact ⟨a3, c3, rfl, by simp, fun h => absurd h (by simp)⟩
        · obtain ⟨g, c3, hv3, hg1, hg2, -⟩ := OwnC.at HO.out (by rw [List.length_map]; exact h0)
          rw [List.length_map] at hv3
          subst hv3
          obtain ⟨hH, hgs, -⟩ := holds_wts HO.out h0
          have hcl := HCL.out 16 (Nat.le_refl _)
          refine (Try.slices_SortFunc 4 Try.isAgg67 Try.sizeOf67 cwt cwt_len cwt_one cfP swo_cf 69 #[] g 0 c3 (catL ws 16).toArray wr (enters_of Try.func69 (by kernel_rfl) rfl) (cmp_lays g 0 _ wr) hH hgs (by rw [List.size_toArray]; omega)).mono ?_
          rintro e w' ⟨rfl, d', m, os, hp, hso, rfl⟩
          have hd := sorted_is hok hp hso
          have hgr := sort_grown wr g m d' os
          have hsz : d'.size = (catL ws 16).toArray.size := hp.1
          refine ⟨rfl, HW.out.grown hgr HW.out.size (fun k e => by injection e with e; omega), (hgr.block w.heap.size hrs (fun e => by injection e with e; omega)).trans HR.out, ?_⟩
          have hrow := row_of_holds (lo := 0) (c := c3) (sort_holds (n := m) (os := os) hH hgs hsz) (Nat.lt_of_lt_of_le hgs hgr.size) (by rw [hsz, List.size_toArray]; omega) (Nat.zero_le _)
          rw [hd] at hrow
          rw [hperm.length_eq]
          exact hrow
      clear HO HR HW hrs HLN HCL HWH
      go_wp2_with fail
      refine Calls.mono HS.out ?_
      rintro e w5 ⟨rfl, hb5, hr5, hrow5⟩
      have HB5 : Hid (Below w.heap.size w w5) := hb5
      have HR5 : Hid (Blk w5 w.heap.size 30 [.slice none 0 0, .int .i64 0, .slice none 0 0]) := hr5
      have HTI2 : Hid (Calls Try.prog 60 #[u3] w5 (OfPost (ws.map (·.1)) w5)) := HTI.out _ _ _ hrow5
      have HTD : Hid (Calls Try.prog 60 #[u3] w5.drew (OfPost (ws.map (·.1)) w5.drew)) := HTI.out 0 w5.drew _ (hrow5.below (plain_stays _) (bd0 w5))
      clear hb5 hr5 hrow5 HTI HS HTI2
      have hBR : B ≠ w.heap.size := by omega
      have HL5 : Hid (w5.cell? ⟨B, 0, none⟩ = some (.slice a n c) ∧ w5.cell? ⟨B, 1, none⟩ = some (.int .i64 now)) := HWL.out _ HB5.out
      have HD5 : Hid (w5.drew.cell? ⟨B, 0, none⟩ = some (.slice a n c) ∧ w5.drew.cell? ⟨B, 1, none⟩ = some (.int .i64 now)) := HWL.out _ (bdd HB5.out)
      have HTI3 : Hid (Calls Try.prog 60 #[u3] w5.drew (OfPost (ws.map (·.1)) w5.drew)) := HTD.out
      go_upto_region 8 with fail
      go_region_held3 (fun W => W.cell? ⟨B, 0, none⟩ = some (.slice a n c) ∧ W.cell? ⟨B, 1, none⟩ = some (.int .i64 now))
        (first | (with_reducible assumption) | exact HL5.out | exact HD5.out | exact HL6.out | exact two_set HL6.out hBR)
        (first | (go_at_call 60; refine Calls.mono HTI3.out ?_; (refine fun e w6 hh => ?_); (obtain ⟨v6, rfl, hk6, hb6⟩ := hh); (have HB6 : Hid (Below w.heap.size w w6) := below_tr HB5.out ((bd0 w5).trans hb6)); (have HR6 : Hid (Blk w6 w.heap.size 30 [.slice none 0 0, .int .i64 0, .slice none 0 0]) := HR5.out.later ((bd0 w5).trans hb6)); (have HL6 : Hid (w6.cell? ⟨B, 0, none⟩ = some (.slice a n c) ∧ w6.cell? ⟨B, 1, none⟩ = some (.int .i64 now)) := HWL.out _ HB6.out); (have HK6 : Hid (Tks w5.heap.size w6 v6 (ws.map (·.1))) := hk6); (obtain ⟨a6, c6, hv6, -⟩ := OwnC.form hk6); (generalize (List.map ctk (List.map (fun x => x.fst) ws)).length = m6 at hv6); (subst hv6); (clear hk6 hb6); (obtain ⟨R0, R1, R2⟩ := cells3s HR6.out); (obtain ⟨F0, F1, F2⟩ := free3 HR6.out)))
      all_goals
        have HEND : Hid (SchedPost (.slice a n c) now (ws.map (·.1)) w (.returned (.agg #[.slice a n c, .int .i64 now, .slice a6 m6 c6])) (putW w6 w.heap.size 0 [.slice a n c, .int .i64 now, .slice a6 m6 c6])) := ⟨_, rfl, own_put HK6.out _ _ _ (by have := HR5.out.lt; omega) (by have := HB5.out.size; exact this), putW_below _ HB6.out (Nat.le_refl _)⟩
        go_wp2_with fail
        refine bodyPost_ret (v := .agg #[.slice a n c, .int .i64 now, .slice a6 m6 c6]) ?_ rfl ?_
        · simp [results, Try.results55, go_sem, R0, R1, R2]
        · exact HEND.out
end Go.Proofs.Ytnkkkdhpopfahaa.sch
