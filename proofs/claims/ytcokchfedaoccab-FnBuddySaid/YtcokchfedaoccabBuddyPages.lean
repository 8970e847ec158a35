/-
  The walks of the specification's l04Pages and FreePages.
-/
import Derived.Test.YtcokchfedaoccabBuddyNew
import Derived.Test.YtcokchfedaoccabIntRows
namespace Go.Proofs.Ytcokchfedaoccab.bspec
open Go.RowKit Go.Deep Go.Sort
open Go.Proofs.Ytcokchfedaoccab
open Go.Proofs.Ytcokchfedaoccab.brows (Rd Pr cellsB)
open Go.Proofs.Ytcokchfedaoccab.bd (Blk)
set_option linter.unusedVariables false

/-- the pages so far: of the first k blocks, and p of the next one at a -/
def soFar (l : List Blk) (k a p : Nat) : List Int := (bd.pagesL (l.take k) ++ (List.range p).map (a + ·)).map fun i : Nat => (i : Int)
theorem soFar_zero (l : List Blk) (k a b : Nat) : soFar l k a 0 = soFar l k b 0 := by simp [soFar]
theorem soFar_snoc (l : List Blk) (k a p : Nat) : soFar l k a (p + 1) = soFar l k a p ++ [((a + p : Nat) : Int)] := by simp [soFar, List.range_succ]
theorem soFar_next (l : List Blk) (k : Nat) (y : Blk) (hy : l[k]? = some y) (b : Nat) : soFar l k y.1 (2 ^ y.2) = soFar l (k + 1) b 0 := by
  have e : bd.pagesL (l.take (k + 1)) = bd.pagesL (l.take k) ++ (List.range (2 ^ y.2)).map (y.1 + ·) := by
    rw [List.take_add_one, hy]; simp [bd.pagesL]
  simp [soFar, e]
theorem soFar_all (l : List Blk) (b : Nat) : soFar l l.length b 0 = (bd.pagesL l).map fun i : Nat => (i : Int) := by simp [soFar]
theorem soFar_len (l : List Blk) (k a p : Nat) : (soFar l k a p).length ≤ bd.sumL l + p := by
  simp only [soFar, List.length_map, List.length_append, List.length_range, bd.pages_len]
  have : bd.sumL (l.take k) ≤ bd.sumL l := by
    have := congrArg bd.sumL (List.take_append_drop k l)
    rw [bd.sum_app] at this; omega
  omega
theorem info_i64 : (Try.prog.info? 2).map (fun i => (i.zero, i.size, i.bytes)) = some (some (.int .i64 0), 1, 8) := by kernel_rfl
theorem map_snoc (acc : List Int) (x : Int) : acc.map (Value.int .i64) ++ [Value.int .i64 x] = (acc ++ [x]).map (Value.int .i64) := by simp

theorem own_mono {w : World} {b b' : Nat} {e : TypeId} {size : Nat} {v : Value} {n : Nat} {xs : List Value} (h : w.ownsRow b' e size v n xs) (hb : b ≤ b') : w.ownsRow b e size v n xs := by
  refine ⟨h.1, ?_⟩
  rcases h.2 with h0 | ⟨g, cap, cur, h1, h2, hr⟩
  · exact Or.inl h0
  · exact Or.inr ⟨g, cap, cur, h1, Nat.le_trans hb h2, hr⟩
/-- what FreePages tells -/
def Gives (w : World) (xs : List Int) (e : Ending) (w' : World) : Prop := ∃ v, e = .returned v ∧ irows.Row w' w.heap.size v xs ∧ Below w.heap.size w w'

set_option maxHeartbeats 4000000 in
theorem spec_pages0 (n : Nat) (l : List Blk) (hr : bd.Right n l) (v : Value) (w : World) (hrd : Rd w v (l.map emb)) :
    Calls Try.prog 55 #[.agg #[.int .i64 n, v]] w (Gives w ((bd.pagesL l).map fun i : Nat => (i : Int))) := by
  have hl32 := hr.len_le
  have hsum := hr.sum_le
  have h32 := bd.pow_le32 hr.ord
  have h5 := hr.ord
  obtain ⟨a, c, hv, hcap, hcm⟩ := hrd.form
  have HRD : Hid (Rd w v (l.map emb)) := hrd
  have HSZ : Hid (∀ o : Nat, o ≤ 5 → ∀ W, _) := fun o ho W => spec_size o ho W
  rw [List.length_map] at hv hcap
  subst hv
  unfold maxLen at hcm
  obtain ⟨i0, hi, hz0, hz1, hz2⟩ := info_parts info_i64
  clear hrd
  go_enter Try.func55, Try.ntmps55
  go_wp2
  go_loopw [3, 4] (fun tb tk wr => ∃ k : Nat, tk = .int .i64 k ∧ k ≤ l.length ∧ Hid (wr.ownsRow (w.heap.size + 1) 2 1 tb (soFar l k 0 0).length ((soFar l k 0 0).map (Value.int .i64))) ∧ Hid (Box wr w.heap.size n (.slice a l.length c)) ∧ Hid (Below w.heap.size w wr)) (fun _ tk _ => l.length - (intOf tk).toNat)
  case atStart =>
    refine ⟨0, rfl, by omega, ?_, box_new w n _ _, ((Below.refl _ _).alloc (Nat.le_refl _) _).alloc (by simp) _⟩
    have := World.ownsRow_made (base := w.heap.size + 1) (e := 2) (size := 1) (w.alloc (.cells #[.int .i64 n, .slice a l.length c] 29)) #[] 0 (by simp) (by unfold maxLen; omega) rfl
    simpa [Hid, soFar, bd.pagesL] using this
  case round =>
    obtain ⟨k, rfl, hk, HOWN, HBX, HB⟩ := hrel
    obtain ⟨b0, b1, f0, f1⟩ := HBX.out.cells
    by_cases hlt : k < l.length
    · have hrd1 := HRD.out.below HB.out
      obtain ⟨gg, cc, hvv, _, _, hgl, hcc⟩ := hrd1.at (by simp; omega)
      rw [List.length_map] at hvv
      injection hvv with hva _ hvc
      subst hva hvc
      have HLK : Hid (l[k]? = some l[k]) := List.getElem?_eq_getElem hlt
      have hin := hr.inn _ (List.getElem_mem hlt)
      have HCK : Hid (∀ W, Below w.heap.size w W → W.cell? ⟨gg, k * 2, none⟩ = some (.int .i64 (l[k]).1) ∧ W.cell? ⟨gg, k * 2 + 1, none⟩ = some (.int .i64 (l[k]).2)) := fun W hW => by
        obtain ⟨g', c', hv', _, _, _, hc'⟩ := (HRD.out.below hW).at (by simp; omega)
        injection hv' with hva' _ _
        injection hva' with hva'
        injection hva' with hva' _ _
        subst hva'
        have := hc' k (by simpa using hlt)
        simpa [emb] using this
      generalize l[k] = y at *
      have hyo := hin.ord
      have hyl : y.1 < 32 := Nat.lt_of_lt_of_le hin.lt h32
      have hp2 : 2 ^ y.2 ≤ 32 := bd.pow_le32 (by omega)
      have HS2 : Hid (∀ W, _) := HSZ.out y.2 (by omega)
      have HOWN0 : Hid (wr.ownsRow (w.heap.size + 1) 2 1 u3 (soFar l k y.1 0).length ((soFar l k y.1 0).map (Value.int .i64))) := by
        rw [soFar_zero l k y.1 0]; exact HOWN.out
      have HNX : Hid (soFar l k y.1 (2 ^ y.2) = soFar l (k + 1) 0 0) := soFar_next l k y HLK.out 0
      obtain ⟨s, hs⟩ : ∃ s, s = 2 ^ y.2 := ⟨_, rfl⟩
      rw [← hs] at HNX HS2 hp2
      clear hcc hrd1 hin HSZ f0 f1 hgl HOWN hs
      go_wp2_with fail
      go_loopw [3, 5] (fun tb tp wi => ∃ p : Nat, tp = .int .i64 p ∧ p ≤ s ∧ Hid (wi.ownsRow (w.heap.size + 1) 2 1 tb (soFar l k y.1 p).length ((soFar l k y.1 p).map (Value.int .i64))) ∧ Hid (Box wi w.heap.size n (.slice (some ⟨gg, 0, none⟩) l.length c)) ∧ Hid (Below w.heap.size w wi)) (fun _ tp _ => s - (intOf tp).toNat)
      case atStart => exact ⟨0, rfl, by omega, HOWN0.out, HBX.out, HB.out⟩
      case round =>
        obtain ⟨p, rfl, hp, HOWNp, HBXp, HBp⟩ := hrel
        obtain ⟨o0, o1, _, _⟩ := HBXp.out.cells
        obtain ⟨e0, e1⟩ := HCK.out _ HBp.out
        by_cases hps : p < s
        · have hlen := soFar_len l k y.1 p
          have hbs := HBp.out.size
          have HSN : Hid (soFar l k y.1 (p + 1) = soFar l k y.1 p ++ [((y.1 + p : Nat) : Int)]) := soFar_snoc l k y.1 p
          go_wp2_with (first | (go_at_call 46; refine Calls.mono (HS2.out _) ?_; rintro e w2 ⟨rfl, rfl⟩) | (at_builtin; refine wpList_append_own _ rfl _ _ 42 rfl (w.heap.size + 1) 2 i0 (.int .i64 0) 1 8 Try.underlying42 hi hz0 hz1 hz2 rfl (by decide) _ _ _ rfl (World.ownsRow.alloc HOWNp.out _) ⟨w2.heap.size, 0, none⟩ 1 1 [.int .i64 ((y.1 : Int) + (p : Int))] rfl rfl ?c1 ?c2 ?c3 ?c4 ?c5 ?_))
          case c1 =>
            intro j x hj
            match j, hj with
            | 0, hj => simp at hj; subst hj; simp [Addr.add]
          case c2 => intro x hx; simp at hx; subst hx; rfl
          case c3 => unfold maxLen; omega
          case c4 => omega
          case c5 => simp; omega
          intro v' w3 hown' hgrow _
          have e : (soFar l k y.1 p).length + 1 = (soFar l k y.1 (p + 1)).length := by rw [HSN.out]; simp
          have e2 : (soFar l k y.1 p).map (Value.int .i64) ++ [Value.int .i64 ((y.1 : Int) + (p : Int))] = (soFar l k y.1 (p + 1)).map (Value.int .i64) := by
            rw [HSN.out, ← map_snoc]
            congr 1
          rw [e, e2] at hown'
          have hb3 : Below w.heap.size w w3 := (HBp.out.alloc HBp.out.size _).grown hgrow (by simp; omega) (fun k e => by have := own_block HOWNp.out k e; omega)
          have hbx3 : Box w3 w.heap.size n (.slice (some ⟨gg, 0, none⟩) l.length c) :=
            (hgrow.block w.heap.size (by simp; have := HBXp.out.lt; omega) (fun e => by have := own_block HOWNp.out _ e.symm; omega)).trans (((Below.alloc (Below.refl _ w2) (Nat.le_refl _) _).block _ HBXp.out.lt).trans HBXp.out)
          have HB3 : Hid (Below w.heap.size w w3) := hb3
          have HX3 : Hid (Box w3 w.heap.size n (.slice (some ⟨gg, 0, none⟩) l.length c)) := hbx3
          have HO3 : Hid (w3.ownsRow (w.heap.size + 1) 2 1 v' (soFar l k y.1 (p + 1)).length ((soFar l k y.1 (p + 1)).map (Value.int .i64))) := hown'
          clear hown' hgrow hb3 hbx3 e2 e HOWNp HBXp HBp HSN
          go_wp2
          go_roundw
          case rel => exact ⟨p + 1, by go_num, by omega, HO3.out, HX3.out, HB3.out⟩
          case measure => simp [intOf]; omega
        · obtain rfl : p = s := by omega
          have hown := HOWNp.out
          rw [HNX.out] at hown
          have HOW2 : Hid (_ : Prop) := hown
          clear hown HOWNp
          go_wp2_with (first | (go_at_call 46; refine Calls.mono (HS2.out _) ?_; rintro e w' ⟨rfl, rfl⟩))
          go_roundw
          case rel => exact ⟨k + 1, by go_num, by omega, HOW2.out, HBXp.out, HBp.out⟩
          case measure => simp [intOf]; omega
    · obtain rfl : k = l.length := by omega
      have hown := HOWN.out
      rw [soFar_all] at hown
      go_wp2
      go_ret
      exact ⟨_, rfl, own_mono hown (by omega), HB.out⟩

/-- the pages of a buddy, as FreePages tells them -/
noncomputable def pagesI (m : Int) (xs : List Pr) : List Int := by
  classical
  exact if h : RightI m xs then (bd.pagesL h.choose_spec.choose).map fun i : Nat => (i : Int) else []
theorem map_emb_inj {l l' : List Blk} (h : l.map emb = l'.map emb) : l = l' := by
  induction l generalizing l' with
  | nil => cases l' with
    | nil => rfl
    | cons => simp at h
  | cons x t ih => cases l' with
    | nil => simp at h
    | cons y t' =>
      simp only [List.map_cons, List.cons.injEq] at h
      rw [emb_inj h.1, ih h.2]
theorem pagesI_of {n : Nat} {l : List Blk} (hr : bd.Right n l) : pagesI (n : Int) (l.map emb) = (bd.pagesL l).map fun i : Nat => (i : Int) := by
  have h : RightI (n : Int) (l.map emb) := ⟨n, l, rfl, rfl, hr⟩
  rw [pagesI, dif_pos h]
  have e := h.choose_spec.choose_spec.2.1
  rw [← map_emb_inj e]
theorem pagesI_none {m : Int} {xs : List Pr} (h : ¬ RightI m xs) : pagesI m xs = [] := by rw [pagesI, dif_neg h]

set_option maxHeartbeats 2000000 in
theorem spec_pages (m : Int) (v : Value) (xs : List Pr) (w : World) (hrd : Rd w v xs) : Calls Try.prog 25 #[.agg #[.int .i64 m, v]] w (Gives w (pagesI m xs)) := by
  obtain ⟨a, c, hv, _⟩ := hrd.form
  have HRD : Hid (Rd w v xs) := hrd
  have HRI : Hid (∀ W, Below w.heap.size w W → _) := fun W hW => spec_right m v xs W (HRD.out.below hW)
  have HPG : Hid (∀ (n : Nat) (l : List Blk), bd.Right n l → xs = l.map emb → ∀ W, Below w.heap.size w W → Calls Try.prog 55 #[.agg #[.int .i64 n, v]] W (Gives W ((bd.pagesL l).map fun i : Nat => (i : Int)))) := fun n l hr he W hW => spec_pages0 n l hr v W (he ▸ HRD.out.below hW)
  obtain ⟨L, hL⟩ : ∃ L, L = xs.length := ⟨_, rfl⟩
  rw [← hL] at hv
  subst hv
  clear hrd hL
  have hb0 : Below w.heap.size w (w.alloc (.cells #[.int .i64 m, .slice a L c] 29)) := (Below.refl _ _).alloc (Nat.le_refl _) _
  have HC : Hid _ := HRI.out _ hb0
  go_enter Try.func25, Try.ntmps25
  go_wp2_with fail
  refine Calls.mono HC.out ?_
  rintro e w1 ⟨rfl, hb1⟩
  have HB1 : Hid (Below w.heap.size w w1) := hb0.trans (hb1.mono (by simp))
  have b0 : w1.cell? ⟨w.heap.size, 0, none⟩ = some (.int .i64 m) := (hb1.cell (p := ⟨w.heap.size, 0, none⟩) (by simp)).trans (by simp)
  have b1 : w1.cell? ⟨w.heap.size, 1, none⟩ = some (.slice a L c) := (hb1.cell (p := ⟨w.heap.size, 1, none⟩) (by simp)).trans (by simp)
  clear hb0 hb1 HC HRI
  cases hri : rightB m xs with
  | false =>
    have HNR : Hid (pagesI m xs = []) := pagesI_none fun h => by rw [rightB_yes h] at hri; cases hri
    go_wp2
    go_ret
    refine ⟨_, rfl, ?_, HB1.out.alloc HB1.out.size _⟩
    rw [HNR.out]
    have := World.ownsRow_made (base := w.heap.size) (e := 2) (size := 1) w1 #[] 0 HB1.out.size (by unfold maxLen; omega) rfl
    simpa [irows.Row] using this
  | true =>
    obtain ⟨n, l, rfl, he, hr⟩ := rightB_iff.1 hri
    have HPE : Hid (pagesI (n : Int) xs = (bd.pagesL l).map fun i : Nat => (i : Int)) := by rw [Hid, he, pagesI_of hr]
    have HT : Hid _ := HPG.out n l hr he w1 HB1.out
    clear he
    go_wp2_with fail
    refine Calls.mono HT.out ?_
    rintro e w2 ⟨v2, rfl, hrow, hb2⟩
    have HRW : Hid (irows.Row w2 w1.heap.size v2 ((bd.pagesL l).map fun i : Nat => (i : Int))) := hrow
    have HB2 : Hid (Below w.heap.size w w2) := HB1.out.trans (hb2.mono HB1.out.size)
    clear hrow hb2 HT
    go_wp2
    go_ret
    exact ⟨_, rfl, by rw [HPE.out]; exact own_mono HRW.out HB1.out.size, HB2.out⟩
end Go.Proofs.Ytcokchfedaoccab.bspec
