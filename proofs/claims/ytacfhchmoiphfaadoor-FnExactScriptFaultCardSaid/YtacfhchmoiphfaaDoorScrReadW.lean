/-
  The walk of CallRead of the specification, at every text. No condition but that the text is one that can be.
-/
import Derived.Test.YtacfhchmoiphfaaDoorScrReadR
import Derived.Deep.CutRange
namespace Go.Proofs.YtacfhchmoiphfaaDoor.scr
open Go.RowKit Go.Deep Go.Sort
open Go.Proofs.YtacfhchmoiphfaaDoor
open Go.Proofs.YtacfhchmoiphfaaDoor.deep (Blk putW putL)
open Go.Proofs.YtacfhchmoiphfaaDoor.call (CallD ccall)
open Go.Proofs.YtacfhchmoiphfaaDoor.lread (outL)
set_option linter.unusedVariables false
set_option maxRecDepth 100000

def noCall : CallD := ⟨0, 0, 0, 0, 0, 0, 0, 0, 0⟩
/-- what is read of a text: a call and a code -/
def Reads (s : ByteArray) (c : CallD) (code : Int) : Prop :=
  (8000 < s.size ∧ c = noCall ∧ code = 2) ∨ (s.size ≤ 8000 ∧ s.size ≠ 0 ∧ callT c = s ∧ code = 0) ∨ (s.size ≤ 8000 ∧ (∀ d, callT d = s → s.size = 0) ∧ c = noCall ∧ code = 3)
theorem reads_one {s : ByteArray} {c d : CallD} {a b : Int} (h : Reads s c a) (k : Reads s d b) : c = d ∧ a = b := by
  rcases h with ⟨h1, rfl, rfl⟩ | ⟨h1, h0, h2, rfl⟩ | ⟨h1, h2, rfl, rfl⟩
  · rcases k with ⟨k1, rfl, rfl⟩ | ⟨k1, _⟩ | ⟨k1, _⟩
    · exact ⟨rfl, rfl⟩
    · omega
    · omega
  · rcases k with ⟨k1, _⟩ | ⟨k1, k0, k2, rfl⟩ | ⟨k1, k2, _⟩
    · omega
    · exact ⟨call_one (h2.trans k2.symm) (by rw [h2]; exact h0), rfl⟩
    · exact absurd (k2 c h2) h0
  · rcases k with ⟨k1, _⟩ | ⟨k1, k0, k2, _⟩ | ⟨k1, k2, rfl, rfl⟩
    · omega
    · exact absurd (h2 d k2) k0
    · exact ⟨rfl, rfl⟩
def lineV (c : CallD) (code : Int) : Value := .agg #[.int .i64 c.q0, .int .i64 c.q1, .int .i64 c.q2, .int .i64 c.q3, .int .i64 c.q4, .int .i64 c.q5, .int .i64 c.q6, .int .i64 c.q7, .int .i64 c.q8, .int .i64 code]
def ReadPost (s : ByteArray) (w : World) (e : Ending) (w' : World) : Prop := ∃ c code, e = .returned (lineV c code) ∧ Reads s c code ∧ Below w.heap.size w w'

/-- the texts that stand in a row -/
def RowF (g : Nat) (l : List ByteArray) (W : World) : Prop := g < W.heap.size ∧ ∀ i (hi : i < l.length), W.cell? ⟨g, i, none⟩ = some (.string l[i])
theorem RowF.later {g : Nat} {l : List ByteArray} {W W' : World} (h : RowF g l W) (hb : Below W.heap.size W W') : RowF g l W' := ⟨Nat.lt_of_lt_of_le h.1 hb.size, fun i hi => (hb.cell (p := ⟨g, i, none⟩) h.1).trans (h.2 i hi)⟩
theorem RowF.only {g B : Nat} {l : List ByteArray} {W W' : World} (h : RowF g l W) (hb : Only B W W') (hg : g ≠ B) : RowF g l W' := ⟨Nat.lt_of_lt_of_le h.1 hb.size, fun i hi => (World.cell?_of_block (w := W) (hb.other g hg h.1)).trans (h.2 i hi)⟩
theorem blk_only {B C t : Nat} {cs : List Value} {W W' : World} (h : Blk W C t cs) (hb : Only B W W') (hg : C ≠ B) : Blk W' C t cs := (hb.other C hg h.lt).trans h
theorem no_hits {s : ByteArray} (h : ∀ m : Int, 1 ≤ m → m ≤ 12 → ¬ hits s m) : ∀ d, callT d = s → s.size = 0 := fun d hd => by
  rcases Nat.eq_zero_or_pos s.size with e | e
  · exact e
  · have := (hit_own hd (by omega)).1
    exact absurd this (h d.q1 this.1 this.2.1)
theorem getD_at {l : List ByteArray} {i : Nat} (h : i < l.length) : l.getD i ⟨#[]⟩ = l[i] := by simp [List.getD_eq_getElem?_getD, h]
theorem size_of_name {n : Int} (h : (nameB n).size = 0) : ¬ (1 ≤ n ∧ n ≤ 12) := by
  intro hn
  obtain ⟨k, rfl⟩ : ∃ k : Nat, n = (k : Int) := ⟨n.toNat, by omega⟩
  have : ∀ k : Nat, k < 13 → 1 ≤ k → (nameB (k : Int)).size ≠ 0 := by decide +kernel
  exact this k (by omega) (by omega) h
theorem cut_empty {s : ByteArray} (h : s.size = 0) (b : Int) : (cutS s b).length = 1 := by
  have := cutS_len s b
  have := cutS_pos s b
  omega

set_option maxHeartbeats 2000000 in
/-- too long -/
theorem read_big (s : ByteArray) (h8 : 8000 < s.size) (hs : s.size ≤ 9223372036854775807) (w : World) : Calls Tryd.prog 12 #[.string s] w (ReadPost s w) := by
  have HR : Hid (Reads s noCall 2) := .inl ⟨h8, rfl, rfl⟩
  go_enter Tryd.func12, Tryd.ntmps12
  go_wp2
  exact bodyPost_ret (v := lineV noCall 2) (by simp [results, Tryd.results12, go_sem, lineV, noCall]) rfl ⟨_, _, rfl, HR.out, below_one _ _⟩

set_option maxHeartbeats 8000000 in
theorem read_small (s : ByteArray) (h8 : s.size ≤ 8000) (w : World) : Calls Tryd.prog 12 #[.string s] w (ReadPost s w) := by
  have HSP : Hid (∀ W, Calls Tryd.prog 35 #[.string s, .int .u8 32] W fun e w' => ∃ v, e = .returned v ∧ Strs W.heap.size w' v (cutS s 32) ∧ Below W.heap.size W w') := fun W => spec_split s 32 h8 W
  have hlen := cutS_len s 32
  have hpos := cutS_pos s 32
  have HSZ : Hid (∀ x ∈ cutS s 32, x.size ≤ 8000) := fun x hx => Nat.le_trans (cutS_size s 32 x hx) h8
  have HNO : Hid (∀ d, (∀ m : Int, 1 ≤ m → m ≤ 12 → ¬ hits s m) → d = noCall → Reads s d 3) := fun d h e => .inr (.inr ⟨h8, no_hits h, e, rfl⟩)
  have HYES : Hid (∀ n : Int, hits s n → Reads s (buildC n (cutS s 32)) 0) := fun n h => .inr (.inl ⟨h8, (by
    intro e
    have := h.2.2.1.2
    rw [cut_empty e] at this
    omega), h.2.2.2, rfl⟩)
  have HHI : Hid (∀ n : Int, hits s n ↔ 1 ≤ n ∧ n ≤ 12 ∧ looks n (cutS s 32) ∧ callT (buildC n (cutS s 32)) = s) := fun n => Iff.rfl
  obtain ⟨H, hH⟩ : ∃ H, H = hits s := ⟨_, rfl⟩
  rw [← hH] at HNO HYES HHI
  unfold ReadPost
  obtain ⟨R, hR⟩ : ∃ R, R = Reads s := ⟨_, rfl⟩
  rw [← hR] at HNO HYES ⊢
  clear hH hR
  obtain ⟨l, hl⟩ : ∃ l, l = cutS s 32 := ⟨_, rfl⟩
  rw [← hl] at HSP hlen hpos HSZ HYES HHI
  clear hl
  obtain ⟨n, hn⟩ : ∃ n, n = l.length := ⟨_, rfl⟩
  have HNL : Hid (n = l.length) := hn
  rw [← hn] at hlen hpos
  clear hn
  have HZ : Hid (Blk (w.alloc (.cells #[.int .i64 0, .int .i64 0, .int .i64 0, .int .i64 0, .int .i64 0, .int .i64 0, .int .i64 0, .int .i64 0, .int .i64 0, .int .i64 0] 31)) w.heap.size 31 [.int .i64 0, .int .i64 0, .int .i64 0, .int .i64 0, .int .i64 0, .int .i64 0, .int .i64 0, .int .i64 0, .int .i64 0, .int .i64 0]) := deep.blk_new w _ _
  have HW : Hid (Below w.heap.size w (w.alloc (.cells #[.int .i64 0, .int .i64 0, .int .i64 0, .int .i64 0, .int .i64 0, .int .i64 0, .int .i64 0, .int .i64 0, .int .i64 0, .int .i64 0] 31))) := below_one _ _
  go_enter Tryd.func12, Tryd.ntmps12
  go_wp2_with fail
  refine Calls.mono (HSP.out _) ?_
  rintro e w1 ⟨v, rfl, hst, hb1⟩
  obtain ⟨g, cp, rfl, hgb, hg, hc⟩ := hst.at (by rw [← HNL.out]; exact hpos)
  have hgw : w.heap.size < g := by simp at hgb; omega
  have HRW : Hid (RowF g l w1) := ⟨hg, hc⟩
  have HZ1 : Hid (Blk w1 w.heap.size 31 [.int .i64 0, .int .i64 0, .int .i64 0, .int .i64 0, .int .i64 0, .int .i64 0, .int .i64 0, .int .i64 0, .int .i64 0, .int .i64 0]) := HZ.out.later hb1
  have HB1 : Hid (Below w.heap.size w w1) := below_tr HW.out hb1
  rw [← HNL.out]
  clear hst hc hg hgb hb1 HSP HZ HW
  go_wp2_with fail
  go_loopw [4, 5, 6, 7, 8] (fun tw tn tg tc ti wr => ∃ k : Nat, k ≤ 12 ∧ tw = .int .i64 ((k : Int) + 1) ∧ Hid (∀ m : Int, 1 ≤ m → m ≤ k → ¬ H m) ∧ Hid (RowF g l wr) ∧ Hid (Blk wr w.heap.size 31 [.int .i64 0, .int .i64 0, .int .i64 0, .int .i64 0, .int .i64 0, .int .i64 0, .int .i64 0, .int .i64 0, .int .i64 0, .int .i64 0]) ∧ Hid (Below w.heap.size w wr)) (fun tw _ _ _ _ _ => 13 - (intOf tw).toNat)
  case atStart => exact ⟨0, by omega, rfl, fun m h1 h2 => absurd h1 (by omega), HRW.out, HZ1.out, HB1.out⟩
  case round =>
    obtain ⟨k, hk, rfl, HM, XR, XZ, XB⟩ := hrel
    clear HRW HZ1 HB1
    by_cases hgo : k < 12 ∧ 2 ≤ n
    · obtain ⟨hk12, hn2⟩ := hgo
      have hkw : ((k : Int) + 1) ≤ 12 := by omega
      have HNM : Hid (∀ W, Calls Tryd.prog 32 #[.int .i64 ((k : Int) + 1)] W fun e w' => e = .returned (.tuple #[.string (nameB ((k : Int) + 1)), .string (takesB ((k : Int) + 1))]) ∧ w' = W) := fun W => spec_name _ W
      have hzg := takes_size ((k : Int) + 1)
      have HLK : Hid (looks ((k : Int) + 1) l ↔ l.getD 1 ⟨#[]⟩ = nameB ((k : Int) + 1) ∧ l.length = (takesB ((k : Int) + 1)).size + 2) := Iff.rfl
      have e1 : wr.cell? ⟨g, 1, none⟩ = some (.string (l.getD 1 ⟨#[]⟩)) := by rw [getD_at (by rw [← HNL.out]; omega)]; exact XR.out.2 1 (by rw [← HNL.out]; omega)
      have HST : Hid (∀ i, i < (takesB ((k : Int) + 1)).size → buildTo ((k : Int) + 1) l (i + 1) = takeL (buildTo ((k : Int) + 1) l i) (((takesB ((k : Int) + 1)))[i]!.toNat : Int) (l.getD (i + 2) ⟨#[]⟩)) := fun i hi => by rw [build_step hi, getElem!_pos _ i hi]
      have H00 : Hid (buildTo ((k : Int) + 1) l 0 = ⟨(outL (l.getD 0 ⟨#[]⟩)).1, ((k : Int) + 1), 0, 0, 0, 0, 0, 0, 0⟩) := rfl
      have HEND : Hid (buildC ((k : Int) + 1) l = buildTo ((k : Int) + 1) l (takesB ((k : Int) + 1)).size) := rfl
      have HNX : Hid (¬ H ((k : Int) + 1) → ∀ m : Int, 1 ≤ m → m ≤ ((k + 1 : Nat) : Int) → ¬ H m) := fun h m h1 h2 => by
        by_cases e : m = (k : Int) + 1
        · rw [e]; exact h
        · exact HM.out m h1 (by omega)
      have HHK : Hid (H ((k : Int) + 1) ↔ looks ((k : Int) + 1) l ∧ callT (buildC ((k : Int) + 1) l) = s) := by
        have := HHI.out ((k : Int) + 1)
        show _ ↔ _
        rw [this]
        constructor
        · rintro ⟨_, _, a, b⟩; exact ⟨a, b⟩
        · rintro ⟨a, b⟩; exact ⟨by omega, by omega, a, b⟩
      have HYK : Hid (H ((k : Int) + 1) → R (buildC ((k : Int) + 1) l) 0) := HYES.out _
      generalize hgx : nameB ((k : Int) + 1) = nm at *
      generalize takesB ((k : Int) + 1) = gg at *
      generalize hy1 : l.getD 1 ⟨#[]⟩ = x1 at *
      clear hgx hy1
      by_cases hnm : nm = x1
      · by_cases hln : n = gg.size + 2
        · have HHK2 : Hid (looks ((k : Int) + 1) l) := HLK.out.2 ⟨hnm.symm, by rw [← HNL.out]; exact hln⟩
          have hq := str_eq hnm
          have heq : ((n : Int) != (gg.size : Int) + 2) = false := by simp; omega
          have e0 : wr.cell? ⟨g, 0, none⟩ = some (.string (l.getD 0 ⟨#[]⟩)) := by rw [getD_at (by rw [← HNL.out]; omega)]; exact XR.out.2 0 (by rw [← HNL.out]; omega)
          have HLR : Hid (∀ W, Calls Tryd.prog 36 #[.string (l.getD 0 ⟨#[]⟩)] W fun e w' => e = .returned (.agg #[.int .i64 (outL (l.getD 0 ⟨#[]⟩)).1, .int .i64 0, .int .i64 (outL (l.getD 0 ⟨#[]⟩)).2]) ∧ Below W.heap.size W w') := fun W => lread.spec_read _ W (by
            have : (l.getD 0 ⟨#[]⟩).size ≤ 8000 := by rw [getD_at (by rw [← HNL.out]; exact hpos)]; exact HSZ.out _ (List.getElem_mem _)
            unfold maxLen; omega)
          have hf0 := num_field0
          have HLN : Hid (n = gg.size + 2) := hln
          clear hln
          generalize (outL (l.getD 0 ⟨#[]⟩)).1 = m0 at *
          generalize (outL (l.getD 0 ⟨#[]⟩)).2 = m2 at *
          generalize l.getD 0 ⟨#[]⟩ = x0 at *
          go_wp2_with (go_at_call 32; refine Calls.mono (HNM.out _) ?_; rintro e w2 ⟨rfl, rfl⟩)
          refine Calls.mono (HLR.out _) ?_
          rintro e w3 ⟨rfl, hb3⟩
          have XR3 : Hid (RowF g l w3) := XR.out.later hb3
          have XZ3 : Hid (Blk w3 w.heap.size 31 [.int .i64 0, .int .i64 0, .int .i64 0, .int .i64 0, .int .i64 0, .int .i64 0, .int .i64 0, .int .i64 0, .int .i64 0, .int .i64 0]) := XZ.out.later hb3
          have XB3 : Hid (Below w.heap.size w w3) := below_tr XB.out hb3
          clear hb3 e0 e1 XR XZ XB HLR
          go_wp2_with fail
          obtain ⟨V4, hV4⟩ : ∃ V, V = w3.alloc (.cells #[.int .i64 m0, .int .i64 ((k : Int) + 1), .int .i64 0, .int .i64 0, .int .i64 0, .int .i64 0, .int .i64 0, .int .i64 0, .int .i64 0] 26) := ⟨_, rfl⟩
          have hb4 : Below w3.heap.size w3 V4 := by rw [hV4]; exact below_one _ _
          have XC4 : Hid (Blk V4 w3.heap.size 26 (ccall (buildTo ((k : Int) + 1) l 0))) := by rw [H00.out, hV4]; exact deep.blk_new w3 _ _
          have XR4 : Hid (RowF g l V4) := XR3.out.later hb4
          have XZ4 : Hid (Blk V4 w.heap.size 31 [.int .i64 0, .int .i64 0, .int .i64 0, .int .i64 0, .int .i64 0, .int .i64 0, .int .i64 0, .int .i64 0, .int .i64 0, .int .i64 0]) := XZ3.out.later hb4
          have XB4 : Hid (Below w.heap.size w V4) := below_tr XB3.out hb4
          have hgB : g ≠ w3.heap.size := by have := XR3.out.1; omega
          have hwB : w.heap.size < w3.heap.size := XZ3.out.lt
          rw [← hV4]
          clear hV4 hb4 XR3 XZ3 XB3 H00
          obtain ⟨B, hB⟩ : ∃ B, B = w3.heap.size := ⟨_, rfl⟩
          rw [← hB] at XC4 hgB hwB ⊢
          clear hB
          obtain ⟨T, hT⟩ : ∃ T, T = buildTo ((k : Int) + 1) l := ⟨_, rfl⟩
          have HHK4 : Hid (callT (T gg.size) = s → H ((k : Int) + 1)) := fun h => HHK.out.2 ⟨HHK2.out, by rw [HEND.out, ← hT]; exact h⟩
          have HHK5 : Hid (H ((k : Int) + 1) → callT (T gg.size) = s) := fun h => by have := (HHK.out.1 h).2; rw [HEND.out, ← hT] at this; exact this
          rw [HEND.out, ← hT] at HYK
          rw [← hT] at XC4 HST
          clear hT HEND HHK HHK2 HLK hnm hq heq
          go_loopw [8] (fun ti wi => ∃ i : Nat, i ≤ gg.size ∧ ti = .int .i64 i ∧ Hid (RowF g l wi) ∧ Hid (Blk wi w.heap.size 31 [.int .i64 0, .int .i64 0, .int .i64 0, .int .i64 0, .int .i64 0, .int .i64 0, .int .i64 0, .int .i64 0, .int .i64 0, .int .i64 0]) ∧ Hid (Blk wi B 26 (ccall (T i))) ∧ Hid (Below w.heap.size w wi)) (fun ti _ => gg.size - (intOf ti).toNat)
          case atStart => exact ⟨0, by omega, rfl, XR4.out, XZ4.out, XC4.out, XB4.out⟩
          case round =>
            obtain ⟨i, hi, rfl, YR, YZ, YC, YB⟩ := hrel
            clear XR4 XZ4 XC4 XB4
            by_cases hig : i < gg.size
            · have hil : i + 2 < n := by have := HLN.out; omega
              have f1 : wr.cell? ⟨g, i + 2, none⟩ = some (.string (l.getD (i + 2) ⟨#[]⟩)) := by rw [getD_at (by rw [← HNL.out]; exact hil)]; exact YR.out.2 (i + 2) (by rw [← HNL.out]; exact hil)
              have hx8 : (l.getD (i + 2) ⟨#[]⟩).size ≤ 8000 := by rw [getD_at (by rw [← HNL.out]; exact hil)]; exact HSZ.out _ (List.getElem_mem _)
              have HSI := HST.out i hig
              rw [getElem!_pos gg i hig] at HSI
              have HTK : Hid (∀ W, Blk W B 26 (ccall (T i)) → Calls Tryd.prog 37 #[.pointer (some ⟨B, 0, none⟩), .int .u8 (gg[i].toNat : Int), .string (l.getD (i + 2) ⟨#[]⟩)] W (Taken B W (T (i + 1)))) := fun W hW => by rw [HSI]; exact spec_take (T i) _ _ hx8 B W hW
              clear HSI hx8
              generalize l.getD (i + 2) ⟨#[]⟩ = x at *
              have hw2 : IntKind.i64.wrap ((i : Int) + 2) = (i : Int) + 2 := IntWalk.i64_in _ (by omega)
              have hw3 : ((i : Int) + 2).toNat = i + 2 := by omega
              have hw4 : (0 : Int) ≤ (i : Int) + 2 := by omega
              have hw5 : (i : Int) + 2 < (n : Int) := by have := HLN.out; omega
              go_wp2_with fail
              go_region_held3 (fun W => W.cell? ⟨g, i + 2, none⟩ = some (.string x))
                (first | assumption | exact f1 | exact Z)
                (first | (go_at_call 37; refine Calls.mono (HTK.out _ YC.out) ?_; rintro e wt ⟨rfl, hbt, hot⟩; have Z : wt.cell? ⟨g, i + 2, none⟩ = some (.string x) := (World.cell?_of_block (w := wr) (hot.other g hgB YR.out.1)).trans f1; have ZC : Hid (Blk wt B 26 (ccall (T (i + 1)))) := hbt; have ZR2 : Hid (RowF g l wt) := RowF.only (W := wr.drew) YR.out hot hgB; have ZZ : Hid (Blk wt w.heap.size 31 [.int .i64 0, .int .i64 0, .int .i64 0, .int .i64 0, .int .i64 0, .int .i64 0, .int .i64 0, .int .i64 0, .int .i64 0, .int .i64 0]) := blk_only (W := wr.drew) YZ.out hot (by omega); have ZB : Hid (Below w.heap.size w wt) := hot.below _ _ (Below.drew YB.out) (by omega); clear hbt hot))
              go_wp2_with fail
              go_roundw
              case rel => exact ⟨i + 1, by omega, by go_num, ZR2.out, ZZ.out, ZC.out, ZB.out⟩
              case measure => simp [intOf]; omega
            · obtain rfl : i = gg.size := by omega
              generalize T gg.size = D at *
              have HCT : Hid (∀ W, Calls Tryd.prog 11 #[.agg (ccall D).toArray] W fun e w' => e = .returned (.string (callT D)) ∧ Below W.heap.size W w') := fun W => spec_callt D W
              generalize callT D = tx at *
              obtain ⟨d0, d1, d2, d3, d4, d5, d6, d7, d8⟩ := D
              simp only [ccall] at YC HCT
              have c0 : wr.cell? ⟨B, 0, none⟩ = some (.int .i64 d0) := YC.out.cell 0
              have c1 : wr.cell? ⟨B, 1, none⟩ = some (.int .i64 d1) := YC.out.cell 1
              have c2 : wr.cell? ⟨B, 2, none⟩ = some (.int .i64 d2) := YC.out.cell 2
              have c3 : wr.cell? ⟨B, 3, none⟩ = some (.int .i64 d3) := YC.out.cell 3
              have c4 : wr.cell? ⟨B, 4, none⟩ = some (.int .i64 d4) := YC.out.cell 4
              have c5 : wr.cell? ⟨B, 5, none⟩ = some (.int .i64 d5) := YC.out.cell 5
              have c6 : wr.cell? ⟨B, 6, none⟩ = some (.int .i64 d6) := YC.out.cell 6
              have c7 : wr.cell? ⟨B, 7, none⟩ = some (.int .i64 d7) := YC.out.cell 7
              have c8 : wr.cell? ⟨B, 8, none⟩ = some (.int .i64 d8) := YC.out.cell 8
              clear HST
              go_wp2_with fail
              refine Calls.mono (HCT.out _) ?_
              rintro e w5 ⟨rfl, hb5⟩
              have YR5 : Hid (RowF g l w5) := YR.out.later hb5
              have YZ5 : Hid (Blk w5 w.heap.size 31 [.int .i64 0, .int .i64 0, .int .i64 0, .int .i64 0, .int .i64 0, .int .i64 0, .int .i64 0, .int .i64 0, .int .i64 0, .int .i64 0]) := YZ.out.later hb5
              have YC5 : Hid (Blk w5 B 26 [.int .i64 d0, .int .i64 d1, .int .i64 d2, .int .i64 d3, .int .i64 d4, .int .i64 d5, .int .i64 d6, .int .i64 d7, .int .i64 d8]) := YC.out.later hb5
              have YB5 : Hid (Below w.heap.size w w5) := below_tr YB.out hb5
              clear hb5 YR YZ YC YB HCT c0 c1 c2 c3 c4 c5 c6 c7 c8
              by_cases htx : tx = s
              · have HOK : Hid (R ⟨d0, d1, d2, d3, d4, d5, d6, d7, d8⟩ 0) := HYK.out (HHK4.out htx)
                have hqs := str_eq htx
                clear HHK4 HHK5 HYK htx HNX HM HNO HYES HHI HSZ
                have c0 : w5.cell? ⟨B, 0, none⟩ = some (.int .i64 d0) := YC5.out.cell 0
                have c1 : w5.cell? ⟨B, 1, none⟩ = some (.int .i64 d1) := YC5.out.cell 1
                have c2 : w5.cell? ⟨B, 2, none⟩ = some (.int .i64 d2) := YC5.out.cell 2
                have c3 : w5.cell? ⟨B, 3, none⟩ = some (.int .i64 d3) := YC5.out.cell 3
                have c4 : w5.cell? ⟨B, 4, none⟩ = some (.int .i64 d4) := YC5.out.cell 4
                have c5 : w5.cell? ⟨B, 5, none⟩ = some (.int .i64 d5) := YC5.out.cell 5
                have c6 : w5.cell? ⟨B, 6, none⟩ = some (.int .i64 d6) := YC5.out.cell 6
                have c7 : w5.cell? ⟨B, 7, none⟩ = some (.int .i64 d7) := YC5.out.cell 7
                have c8 : w5.cell? ⟨B, 8, none⟩ = some (.int .i64 d8) := YC5.out.cell 8
                have z0 : w5.cell? ⟨w.heap.size, 0, none⟩ = some (.int .i64 0) := YZ5.out.cell 0
                have y0 := YZ5.out.free 0
                have z1 : w5.cell? ⟨w.heap.size, 1, none⟩ = some (.int .i64 0) := YZ5.out.cell 1
                have y1 := YZ5.out.free 1
                have z2 : w5.cell? ⟨w.heap.size, 2, none⟩ = some (.int .i64 0) := YZ5.out.cell 2
                have y2 := YZ5.out.free 2
                have z3 : w5.cell? ⟨w.heap.size, 3, none⟩ = some (.int .i64 0) := YZ5.out.cell 3
                have y3 := YZ5.out.free 3
                have z4 : w5.cell? ⟨w.heap.size, 4, none⟩ = some (.int .i64 0) := YZ5.out.cell 4
                have y4 := YZ5.out.free 4
                have z5 : w5.cell? ⟨w.heap.size, 5, none⟩ = some (.int .i64 0) := YZ5.out.cell 5
                have y5 := YZ5.out.free 5
                have z6 : w5.cell? ⟨w.heap.size, 6, none⟩ = some (.int .i64 0) := YZ5.out.cell 6
                have y6 := YZ5.out.free 6
                have z7 : w5.cell? ⟨w.heap.size, 7, none⟩ = some (.int .i64 0) := YZ5.out.cell 7
                have y7 := YZ5.out.free 7
                have z8 : w5.cell? ⟨w.heap.size, 8, none⟩ = some (.int .i64 0) := YZ5.out.cell 8
                have y8 := YZ5.out.free 8
                have z9 : w5.cell? ⟨w.heap.size, 9, none⟩ = some (.int .i64 0) := YZ5.out.cell 9
                have y9 := YZ5.out.free 9
                go_wp2_with fail
                refine bodyPost_ret (v := lineV ⟨d0, d1, d2, d3, d4, d5, d6, d7, d8⟩ 0) (by simp [results, Tryd.results12, go_sem, lineV, z0, z1, z2, z3, z4, z5, z6, z7, z8, z9]) rfl ⟨_, _, rfl, HOK.out, ?_⟩
                exact deep.putW_below [.int .i64 d0, .int .i64 d1, .int .i64 d2, .int .i64 d3, .int .i64 d4, .int .i64 d5, .int .i64 d6, .int .i64 d7, .int .i64 d8, .int .i64 0] YB5.out (Nat.le_refl _) (b := 0)
              · have hqs := str_ne htx
                have HX : Hid _ := HNX.out (fun h => htx (HHK5.out h))
                clear HHK4 HHK5 HYK htx HNX HM
                go_wp2_with fail
                go_roundw
                case rel => exact ⟨k + 1, by omega, by go_num, HX.out, YR5.out, YZ5.out, YB5.out⟩
                case measure => simp [intOf]; omega
        · have hne : ((n : Int) != (gg.size : Int) + 2) = true := by simp; omega
          have hq := str_eq hnm
          have HX : Hid _ := HNX.out (fun h => hln (by rw [HNL.out]; exact ((HLK.out.1 (HHK.out.1 h).1)).2))
          clear HNX
          go_wp2_with (go_at_call 32; refine Calls.mono (HNM.out _) ?_; rintro e w2 ⟨rfl, rfl⟩)
          go_roundw
          case rel => exact ⟨k + 1, by omega, by go_num, HX.out, XR.out, XZ.out, XB.out⟩
          case measure => simp [intOf]; omega
      · have hq := str_ne hnm
        have HX : Hid _ := HNX.out (fun h => hnm ((HLK.out.1 (HHK.out.1 h).1)).1.symm)
        clear HNX
        go_wp2_with (go_at_call 32; refine Calls.mono (HNM.out _) ?_; rintro e w2 ⟨rfl, rfl⟩)
        go_roundw
        case rel => exact ⟨k + 1, by omega, by go_num, HX.out, XR.out, XZ.out, XB.out⟩
        case measure => simp [intOf]; omega
    · by_cases hk12 : k < 12
      · have hn1 : n = 1 := by omega
        subst hn1
        have z0 : wr.cell? ⟨w.heap.size, 0, none⟩ = some (.int .i64 0) := XZ.out.cell 0
        have y0 := XZ.out.free 0
        have z1 : wr.cell? ⟨w.heap.size, 1, none⟩ = some (.int .i64 0) := XZ.out.cell 1
        have y1 := XZ.out.free 1
        have z2 : wr.cell? ⟨w.heap.size, 2, none⟩ = some (.int .i64 0) := XZ.out.cell 2
        have y2 := XZ.out.free 2
        have z3 : wr.cell? ⟨w.heap.size, 3, none⟩ = some (.int .i64 0) := XZ.out.cell 3
        have y3 := XZ.out.free 3
        have z4 : wr.cell? ⟨w.heap.size, 4, none⟩ = some (.int .i64 0) := XZ.out.cell 4
        have y4 := XZ.out.free 4
        have z5 : wr.cell? ⟨w.heap.size, 5, none⟩ = some (.int .i64 0) := XZ.out.cell 5
        have y5 := XZ.out.free 5
        have z6 : wr.cell? ⟨w.heap.size, 6, none⟩ = some (.int .i64 0) := XZ.out.cell 6
        have y6 := XZ.out.free 6
        have z7 : wr.cell? ⟨w.heap.size, 7, none⟩ = some (.int .i64 0) := XZ.out.cell 7
        have y7 := XZ.out.free 7
        have z8 : wr.cell? ⟨w.heap.size, 8, none⟩ = some (.int .i64 0) := XZ.out.cell 8
        have y8 := XZ.out.free 8
        have z9 : wr.cell? ⟨w.heap.size, 9, none⟩ = some (.int .i64 0) := XZ.out.cell 9
        have y9 := XZ.out.free 9
        have HE : Hid (R noCall 3) := HNO.out _ (fun m h1 h2 hh => by have := ((HHI.out m).1 hh).2.2.1.2; rw [← HNL.out] at this; omega) rfl
        clear HNO HYES HHI HM HSZ
        go_wp2_with fail
        refine bodyPost_ret (v := lineV noCall 3) (by simp [results, Tryd.results12, go_sem, lineV, noCall, z0, z1, z2, z3, z4, z5, z6, z7, z8, z9]) rfl ⟨_, _, rfl, HE.out, ?_⟩
        exact deep.putW_below [.int .i64 0, .int .i64 0, .int .i64 0, .int .i64 0, .int .i64 0, .int .i64 0, .int .i64 0, .int .i64 0, .int .i64 0, .int .i64 3] XB.out (Nat.le_refl _) (b := 0)
      · obtain rfl : k = 12 := by omega
        have z0 : wr.cell? ⟨w.heap.size, 0, none⟩ = some (.int .i64 0) := XZ.out.cell 0
        have y0 := XZ.out.free 0
        have z1 : wr.cell? ⟨w.heap.size, 1, none⟩ = some (.int .i64 0) := XZ.out.cell 1
        have y1 := XZ.out.free 1
        have z2 : wr.cell? ⟨w.heap.size, 2, none⟩ = some (.int .i64 0) := XZ.out.cell 2
        have y2 := XZ.out.free 2
        have z3 : wr.cell? ⟨w.heap.size, 3, none⟩ = some (.int .i64 0) := XZ.out.cell 3
        have y3 := XZ.out.free 3
        have z4 : wr.cell? ⟨w.heap.size, 4, none⟩ = some (.int .i64 0) := XZ.out.cell 4
        have y4 := XZ.out.free 4
        have z5 : wr.cell? ⟨w.heap.size, 5, none⟩ = some (.int .i64 0) := XZ.out.cell 5
        have y5 := XZ.out.free 5
        have z6 : wr.cell? ⟨w.heap.size, 6, none⟩ = some (.int .i64 0) := XZ.out.cell 6
        have y6 := XZ.out.free 6
        have z7 : wr.cell? ⟨w.heap.size, 7, none⟩ = some (.int .i64 0) := XZ.out.cell 7
        have y7 := XZ.out.free 7
        have z8 : wr.cell? ⟨w.heap.size, 8, none⟩ = some (.int .i64 0) := XZ.out.cell 8
        have y8 := XZ.out.free 8
        have z9 : wr.cell? ⟨w.heap.size, 9, none⟩ = some (.int .i64 0) := XZ.out.cell 9
        have y9 := XZ.out.free 9
        have HE : Hid (R noCall 3) := HNO.out _ (fun m h1 h2 => HM.out m h1 h2) rfl
        clear HNO HYES HHI HM HSZ
        go_wp2_with fail
        refine bodyPost_ret (v := lineV noCall 3) (by simp [results, Tryd.results12, go_sem, lineV, noCall, z0, z1, z2, z3, z4, z5, z6, z7, z8, z9]) rfl ⟨_, _, rfl, HE.out, ?_⟩
        exact deep.putW_below [.int .i64 0, .int .i64 0, .int .i64 0, .int .i64 0, .int .i64 0, .int .i64 0, .int .i64 0, .int .i64 0, .int .i64 0, .int .i64 3] XB.out (Nat.le_refl _) (b := 0)
theorem spec_readc (s : ByteArray) (hs : s.size ≤ 9223372036854775807) (w : World) : Calls Tryd.prog 12 #[.string s] w (ReadPost s w) := by
  by_cases h : 8000 < s.size
  · exact read_big s h hs w
  · exact read_small s (by omega) w

end Go.Proofs.YtacfhchmoiphfaaDoor.scr
