/-
  The law FnExactReplyText answers true at every call, reply and number, and leaves them as they were: ReplyText answers as the specification. Condition: the library's table of powers starts as the library's text lays it; the card ties that to the text.
-/
import Derived.Test.YtlojigfhbfemfaaDoorCards
import Derived.Test.YtlojigfhbfemfaaDoorTie
import Derived.Test.YtlojigfhbfemfaaDoorScrLaid
import Derived.Test.YtlojigfhbfemfaaDoorScrReplyI
import Derived.Test.YtlojigfhbfemfaaDoorReplyOpen
import Derived.Test.YtlojigfhbfemfaaDoorCallOpen
import Derived.OpenShut
import Derived.ShutString
import Derived.Deep.DeepHandedRow
namespace Go.Proofs.YtlojigfhbfemfaaDoor.fnExactReplyText
open Go.ChangeShapes Go.WideShapes Go.ChangeAt Go.RowKit
open Go.ChangeMaps (open_string shut_string)
open Go.Proofs.YtlojigfhbfemfaaDoor
open Go.Proofs.YtlojigfhbfemfaaDoor.scr
open Go.Proofs.YtlojigfhbfemfaaDoor.call (CallD ccall)
open Go.Proofs.YtlojigfhbfemfaaDoor.deep
set_option linter.unusedVariables false

theorem own : ownKnob Tryd.prog.godebug = none := by kernel_rfl
theorem laidOutL : laidOutB Tryd.prog = true := by kernel_rfl

set_option maxRecDepth 100000 in
theorem nine_six {W W' : World} {B D t t' : Nat} {q0 q1 q2 q3 q4 q5 q6 q7 q8 r0 r1 r2 r3 r4 : Int} {a : Option Addr} {n c : Nat} (h : Blk W B t [.int .i64 q0, .int .i64 q1, .int .i64 q2, .int .i64 q3, .int .i64 q4, .int .i64 q5, .int .i64 q6, .int .i64 q7, .int .i64 q8]) (k : Blk W D t' [.int .i64 r0, .int .i64 r1, .int .i64 r2, .int .i64 r3, .int .i64 r4, .slice a n c]) (hb : Below W.heap.size W W') : W'.cell? ⟨B, 0, none⟩ = some (.int .i64 q0) ∧ W'.cell? ⟨B, 1, none⟩ = some (.int .i64 q1) ∧ W'.cell? ⟨B, 2, none⟩ = some (.int .i64 q2) ∧ W'.cell? ⟨B, 3, none⟩ = some (.int .i64 q3) ∧ W'.cell? ⟨B, 4, none⟩ = some (.int .i64 q4) ∧ W'.cell? ⟨B, 5, none⟩ = some (.int .i64 q5) ∧ W'.cell? ⟨B, 6, none⟩ = some (.int .i64 q6) ∧ W'.cell? ⟨B, 7, none⟩ = some (.int .i64 q7) ∧ W'.cell? ⟨B, 8, none⟩ = some (.int .i64 q8) ∧ W'.cell? ⟨D, 0, none⟩ = some (.int .i64 r0) ∧ W'.cell? ⟨D, 1, none⟩ = some (.int .i64 r1) ∧ W'.cell? ⟨D, 2, none⟩ = some (.int .i64 r2) ∧ W'.cell? ⟨D, 3, none⟩ = some (.int .i64 r3) ∧ W'.cell? ⟨D, 4, none⟩ = some (.int .i64 r4) ∧ W'.cell? ⟨D, 5, none⟩ = some (.slice a n c) := by
  have h' := h.later hb
  have k' := k.later hb
  exact ⟨h'.cell 0, h'.cell 1, h'.cell 2, h'.cell 3, h'.cell 4, h'.cell 5, h'.cell 6, h'.cell 7, h'.cell 8, k'.cell 0, k'.cell 1, k'.cell 2, k'.cell 3, k'.cell 4, k'.cell 5⟩
set_option maxRecDepth 100000 in
theorem six_six {W W' : World} {B D t t' : Nat} {r0 r1 r2 r3 r4 : Int} {a b : Option Addr} {n c d : Nat} (h : Blk W B t [.int .i64 r0, .int .i64 r1, .int .i64 r2, .int .i64 r3, .int .i64 r4, .slice b n d]) (k : Blk W D t' [.int .i64 r0, .int .i64 r1, .int .i64 r2, .int .i64 r3, .int .i64 r4, .slice a n c]) (hb : Below W.heap.size W W') : W'.cell? ⟨B, 0, none⟩ = some (.int .i64 r0) ∧ W'.cell? ⟨B, 1, none⟩ = some (.int .i64 r1) ∧ W'.cell? ⟨B, 2, none⟩ = some (.int .i64 r2) ∧ W'.cell? ⟨B, 3, none⟩ = some (.int .i64 r3) ∧ W'.cell? ⟨B, 4, none⟩ = some (.int .i64 r4) ∧ W'.cell? ⟨B, 5, none⟩ = some (.slice b n d) ∧ W'.cell? ⟨D, 0, none⟩ = some (.int .i64 r0) ∧ W'.cell? ⟨D, 1, none⟩ = some (.int .i64 r1) ∧ W'.cell? ⟨D, 2, none⟩ = some (.int .i64 r2) ∧ W'.cell? ⟨D, 3, none⟩ = some (.int .i64 r3) ∧ W'.cell? ⟨D, 4, none⟩ = some (.int .i64 r4) ∧ W'.cell? ⟨D, 5, none⟩ = some (.slice a n c) := by
  have h' := h.later hb
  have k' := k.later hb
  exact ⟨h'.cell 0, h'.cell 1, h'.cell 2, h'.cell 3, h'.cell 4, h'.cell 5, k'.cell 0, k'.cell 1, k'.cell 2, k'.cell 3, k'.cell 4, k'.cell 5⟩
set_option maxRecDepth 100000 in
theorem reply_bounds {H : Type} {enc : TypeId × Value → H} {W : World} (m : Nat) (x : RepD) (v : Value) (z : DataW H × List MemPlace) (h : DataW.trod enc Tryd.prog W 0 (fun _ => true) true m 44 (rcells x v) = some z) : I64 x.q0 ∧ I64 x.q1 := by
  obtain ⟨_, q, hf⟩ := open_struct Tryd.underlying44 h
  obtain ⟨z0, g0⟩ := hf 0 _ rfl
  obtain ⟨z1, g1⟩ := hf 1 _ rfl
  have g0' : DataW.trod enc Tryd.prog W 0 (fun _ => true) true q 2 (List.take 1 (List.drop 0 (rcells x v))) = some z0 := by rw [← repo.cells64]; exact g0
  have g1' : DataW.trod enc Tryd.prog W 0 (fun _ => true) true q 2 (List.take 1 (List.drop 1 (rcells x v))) = some z1 := by rw [← repo.cells64]; exact g1
  obtain ⟨a0, e0, _, k0⟩ := DataW.trod_int Tryd.underlying2 g0'
  obtain ⟨a1, e1, _, k1⟩ := DataW.trod_int Tryd.underlying2 g1'
  simp [rcells] at e0 e1
  subst e0 e1
  unfold I64
  exact ⟨by simpa [Lit.wf, IntKind.min, IntKind.max, IntKind.signed, IntKind.bits] using k0, by simpa [Lit.wf, IntKind.min, IntKind.max, IntKind.signed, IntKind.bits] using k1⟩

set_option maxRecDepth 100000 in
set_option maxHeartbeats 8000000 in
theorem walk (x : CallD) (y : RepD) (v : Value) (told : Int) (hit : -9223372036854775808 ≤ told ∧ told ≤ 9223372036854775807) (w : World) (hr : RowE (Plain chd) 3 0 w v y.hs) (hi0 : I64 y.q0) (hi1 : I64 y.q1) (hp : Pow w) :
    Calls Tryd.prog 6 #[.agg (ccall x).toArray, .agg (rcells y v).toArray, .int .i64 told] w fun e w' => e = .returned (.bool true) ∧ Below w.heap.size w w' := by
  obtain ⟨a, c, hv, hml⟩ := hr.form
  subst hv
  obtain ⟨r0, r1, r2, r3, r4, hs⟩ := y
  simp only [rcells] at *
  have hhn : (hs.length : Int) ≤ 9223372036854775807 := by unfold maxLen at hml; omega
  have HSZ : Hid (∀ W, Below w.heap.size w W → Calls Tryd.prog 16 #[.agg #[.int .i64 r0, .int .i64 r1, .int .i64 r2, .int .i64 r3, .int .i64 r4, .slice a hs.length c], .int .i64 1048576] W fun e w' => e = .returned (.int .i64 (if (hs.length : Int) ≤ 1048576 then 1048576 - hs.length else -1)) ∧ Below W.heap.size W w') := fun W hW => sz_rep r0 r1 r2 r3 r4 (hr.below (plain_stays _) hW) 1048576 (by omega) (by omega)
  have HT : Hid (∀ W, Calls Tryd.prog 11 #[.agg (ccall x).toArray] W fun e w' => e = .returned (.agg (ccall x).toArray) ∧ Below W.heap.size W w') := fun W => call.to_call _ _ _ _ _ _ _ _ _ W
  by_cases hk : (hs.length : Int) ≤ 1048576
  · rw [if_pos hk] at HSZ
    have HTR : Hid (∀ W, Below w.heap.size w W → Calls Tryd.prog 18 #[.agg #[.int .i64 r0, .int .i64 r1, .int .i64 r2, .int .i64 r3, .int .i64 r4, .slice a hs.length c]] W (ToRep ⟨r0, r1, r2, r3, r4, hs⟩ W)) := fun W hW => to_rep r0 r1 r2 r3 r4 (hr.below (plain_stays _) hW) (by omega)
    have HSP : Hid (∀ (b : Option Addr) (d : Nat) W, Calls Tryd.prog 17 #[.agg (ccall x).toArray, .agg #[.int .i64 r0, .int .i64 r1, .int .i64 r2, .int .i64 r3, .int .i64 r4, .slice b hs.length d], .int .i64 told] W fun e w' => e = .returned (.string (replyT x r0 r1 hs.length told)) ∧ Below W.heap.size W w') := fun b d W => spec_replyt x r0 r1 r2 r3 r4 told b hs.length d hhn hi0 hi1 W
    have HIM : Hid (∀ (b : Option Addr) (d : Nat) W, Pow W → Calls Tryd.prog 19 #[.agg (ccall x).toArray, .agg #[.int .i64 r0, .int .i64 r1, .int .i64 r2, .int .i64 r3, .int .i64 r4, .slice b hs.length d], .int .i64 told] W fun e w' => e = .returned (.string (replyT x r0 r1 hs.length told)) ∧ Below W.heap.size W w') := fun b d W h => impl_replyt x r0 r1 r2 r3 r4 told b hs.length d hhn hi0 hi1 W h
    have HEQ : Hid (∀ l1 l2 u1 u2 W, RowE (Plain chd) 3 l1 W u1 hs → RowE (Plain chd) 3 l2 W u2 hs → Calls Tryd.prog 20 #[.agg #[.int .i64 r0, .int .i64 r1, .int .i64 r2, .int .i64 r3, .int .i64 r4, u1], .agg #[.int .i64 r0, .int .i64 r1, .int .i64 r2, .int .i64 r3, .int .i64 r4, u2]] W fun e w' => e = .returned (.bool true) ∧ Below W.heap.size W w') := fun _ _ _ _ _ h1 h2 => eq_rep r0 r1 r2 r3 r4 hs h1 h2
    have HP : Hid (Pow w) := hp
    unfold ToRep at HTR
    generalize replyT x r0 r1 hs.length told = T at *
    obtain ⟨n, hn⟩ : ∃ n, n = hs.length := ⟨_, rfl⟩
    have HFM : Hid (∀ lo W u, RowE (Plain chd) 3 lo W u hs → ∃ b d, u = .slice b n d) := fun lo W u h => by
      obtain ⟨b, d, e, _⟩ := h.form
      exact ⟨b, d, by rw [e, hn]⟩
    rw [← hn] at HSZ HTR HSP HIM hk hhn ⊢
    have h1k : (0 : Int) ≤ 1048576 - (n : Int) := by omega
    clear hr hml hi0 hi1 hp hn
    obtain ⟨q0, q1, q2, q3, q4, q5, q6, q7, q8⟩ := x
    simp only [ccall, rcells] at *
    go_enter Tryd.func6, Tryd.ntmps6
    go_wp2_with fail
    have HB0 : Hid (Below w.heap.size w ((w.alloc (.cells #[.int .i64 q0, .int .i64 q1, .int .i64 q2, .int .i64 q3, .int .i64 q4, .int .i64 q5, .int .i64 q6, .int .i64 q7, .int .i64 q8] 29)).alloc (.cells #[.int .i64 r0, .int .i64 r1, .int .i64 r2, .int .i64 r3, .int .i64 r4, .slice a n c] 44))) := below2 w _ _
    have F := blk2 w [.int .i64 q0, .int .i64 q1, .int .i64 q2, .int .i64 q3, .int .i64 q4, .int .i64 q5, .int .i64 q6, .int .i64 q7, .int .i64 q8] [.int .i64 r0, .int .i64 r1, .int .i64 r2, .int .i64 r3, .int .i64 r4, .slice a n c] 29 44
    refine Calls.mono (HSZ.out _ HB0.out) ?_
    rintro e w1 ⟨rfl, hb1⟩
    have HL1 : Hid (Blk w1 w.heap.size 29 [.int .i64 q0, .int .i64 q1, .int .i64 q2, .int .i64 q3, .int .i64 q4, .int .i64 q5, .int .i64 q6, .int .i64 q7, .int .i64 q8]) := F.1.later hb1
    have HH1 : Hid (Blk w1 (w.heap.size + 1) 44 [.int .i64 r0, .int .i64 r1, .int .i64 r2, .int .i64 r3, .int .i64 r4, .slice a n c]) := F.2.later hb1
    have HB1 : Hid (Below w.heap.size w w1) := deep.below_tr HB0.out hb1
    clear hb1 F HSZ HB0
    have hM0 := nine_six HL1.out HH1.out (Below.refl _ _)
    have hMd := nine_six HL1.out HH1.out (Below.drew (Below.refl _ _))
    go_wp2_with fail
    go_cut [8] from 16 to 21 (fun x8 wx => x8 = .string T ∧ Hid (Below w1.heap.size w1 wx))
    case first =>
      go_region_held3 (fun W => W.cell? ⟨w.heap.size, 0, none⟩ = some (.int .i64 q0) ∧ W.cell? ⟨w.heap.size, 1, none⟩ = some (.int .i64 q1) ∧ W.cell? ⟨w.heap.size, 2, none⟩ = some (.int .i64 q2) ∧ W.cell? ⟨w.heap.size, 3, none⟩ = some (.int .i64 q3) ∧ W.cell? ⟨w.heap.size, 4, none⟩ = some (.int .i64 q4) ∧ W.cell? ⟨w.heap.size, 5, none⟩ = some (.int .i64 q5) ∧ W.cell? ⟨w.heap.size, 6, none⟩ = some (.int .i64 q6) ∧ W.cell? ⟨w.heap.size, 7, none⟩ = some (.int .i64 q7) ∧ W.cell? ⟨w.heap.size, 8, none⟩ = some (.int .i64 q8) ∧ W.cell? ⟨w.heap.size + 1, 0, none⟩ = some (.int .i64 r0) ∧ W.cell? ⟨w.heap.size + 1, 1, none⟩ = some (.int .i64 r1) ∧ W.cell? ⟨w.heap.size + 1, 2, none⟩ = some (.int .i64 r2) ∧ W.cell? ⟨w.heap.size + 1, 3, none⟩ = some (.int .i64 r3) ∧ W.cell? ⟨w.heap.size + 1, 4, none⟩ = some (.int .i64 r4) ∧ W.cell? ⟨w.heap.size + 1, 5, none⟩ = some (.slice a n c))
        (with_reducible first | assumption | exact hM0 | exact hMd)
        (first | (go_at_call 11; refine Calls.mono (HT.out _) ?_; rintro e wA ⟨rfl, hbA⟩; have hqA : Below w1.heap.size w1 wA := (by first | exact deep.below_tr HQR.out hbA | exact Below.trans (Below.drew (Below.refl w1.heap.size w1)) hbA | exact hbA); have HQA : Hid (Below w1.heap.size w1 wA) := hqA; have ZA := nine_six HL1.out HH1.out hqA; (first | (have HRB : Hid (RowE (Plain chd) 3 _ wA _ hs) := HRA.out.below (plain_stays _) hbA) | skip); clear hqA hbA) | (go_at_call 18; refine Calls.mono (HTR.out _ (by first | exact deep.below_tr HB1.out HQA.out | exact deep.below_tr HB1.out (Below.drew HQA.out) | exact Below.drew HB1.out | exact HB1.out)) ?_; rintro e wR ⟨vR, rfl, hrR, _, hbR⟩; have hqR : Below w1.heap.size w1 wR := (by first | exact deep.below_tr HQA.out hbR | exact Below.trans (Below.drew (Below.refl w1.heap.size w1)) hbR | exact hbR); have HQR : Hid (Below w1.heap.size w1 wR) := hqR; have ZR := nine_six HL1.out HH1.out hqR; obtain ⟨bR, dR, hvR⟩ := HFM.out _ _ _ hrR; subst hvR; have HRA : Hid (RowE (Plain chd) 3 _ wR _ hs) := hrR; clear hqR hbR hrR) | (go_at_call 17; refine Calls.mono (HSP.out _ _ _) ?_; rintro e wS ⟨rfl, hbS⟩; have hqS : Below w1.heap.size w1 wS := (by first | exact deep.below_tr HQR.out hbS | exact deep.below_tr HQA.out hbS); have HQS : Hid (Below w1.heap.size w1 wS) := hqS; have ZS := nine_six HL1.out HH1.out hqS; clear hqS hbS))
      all_goals (go_wp2_with fail)
      all_goals go_meet
      all_goals (first | exact ⟨rfl, HQS.out⟩)
    case rest =>
      obtain ⟨rfl, HQ⟩ := hcut
      obtain ⟨w2, rfl⟩ : ∃ W, W = wc := ⟨_, rfl⟩
      have HL2 : Hid (Blk w2 w.heap.size 29 [.int .i64 q0, .int .i64 q1, .int .i64 q2, .int .i64 q3, .int .i64 q4, .int .i64 q5, .int .i64 q6, .int .i64 q7, .int .i64 q8]) := HL1.out.later HQ.out
      have HH2 : Hid (Blk w2 (w.heap.size + 1) 44 [.int .i64 r0, .int .i64 r1, .int .i64 r2, .int .i64 r3, .int .i64 r4, .slice a n c]) := HH1.out.later HQ.out
      have HB2 : Hid (Below w.heap.size w w2) := deep.below_tr HB1.out HQ.out
      clear HQ HL1 HH1 HB1 hM0 hMd
      obtain ⟨c0, c1, c2, c3, c4, c5, c6, c7, c8, d0, d1, d2, d3, d4, d5⟩ := nine_six HL2.out HH2.out (Below.refl _ _)
      go_wp2_with fail
      refine Calls.mono (HTR.out _ HB2.out) ?_
      rintro e w3 ⟨v3, rfl, hr3, _, hb3⟩
      obtain ⟨b3, e3, hv3⟩ := HFM.out _ _ _ hr3
      subst hv3
      have HR3 : Hid (RowE (Plain chd) 3 w2.heap.size w3 (.slice b3 n e3) hs) := hr3
      have HL3 : Hid (Blk w3 w.heap.size 29 [.int .i64 q0, .int .i64 q1, .int .i64 q2, .int .i64 q3, .int .i64 q4, .int .i64 q5, .int .i64 q6, .int .i64 q7, .int .i64 q8]) := HL2.out.later hb3
      have HH3 : Hid (Blk w3 (w.heap.size + 1) 44 [.int .i64 r0, .int .i64 r1, .int .i64 r2, .int .i64 r3, .int .i64 r4, .slice a n c]) := HH2.out.later hb3
      have HB3 : Hid (Below w.heap.size w w3) := deep.below_tr HB2.out hb3
      clear hr3 hb3 HL2 HH2 HB2 c0 c1 c2 c3 c4 c5 c6 c7 c8 d0 d1 d2 d3 d4 d5
      go_wp2_with fail
      obtain ⟨V, hV⟩ : ∃ V, V = w3.alloc (.cells #[.int .i64 r0, .int .i64 r1, .int .i64 r2, .int .i64 r3, .int .i64 r4, .slice b3 n e3] 50) := ⟨_, rfl⟩
      have hb4 : Below w3.heap.size w3 V := by rw [hV]; exact deep.below_one _ _
      have HX4 : Hid (Blk V w3.heap.size 50 [.int .i64 r0, .int .i64 r1, .int .i64 r2, .int .i64 r3, .int .i64 r4, .slice b3 n e3]) := by rw [hV]; exact blk_new w3 _ _
      have HL4 : Hid (Blk V w.heap.size 29 [.int .i64 q0, .int .i64 q1, .int .i64 q2, .int .i64 q3, .int .i64 q4, .int .i64 q5, .int .i64 q6, .int .i64 q7, .int .i64 q8]) := HL3.out.later hb4
      have HH4 : Hid (Blk V (w.heap.size + 1) 44 [.int .i64 r0, .int .i64 r1, .int .i64 r2, .int .i64 r3, .int .i64 r4, .slice a n c]) := HH3.out.later hb4
      have HR4 : Hid (RowE (Plain chd) 3 w2.heap.size V (.slice b3 n e3) hs) := HR3.out.below (plain_stays _) hb4
      have HB4 : Hid (Below w.heap.size w V) := deep.below_tr HB3.out hb4
      have HP4 : Hid (Pow V) := HP.out.later HB4.out
      rw [← hV]
      clear hb4 hV HL3 HH3 HR3 HB3 HSP
      generalize w3.heap.size = G at *
      skip
      have hM0 := nine_six HL4.out HX4.out (Below.refl _ _)
      have hMd := nine_six HL4.out HX4.out (Below.drew (Below.refl _ _))
      go_cut [10] from 24 to 28 (fun x10 wx => x10 = .string T ∧ Hid (Below V.heap.size V wx))
      case first =>
        go_region_held3 (fun W => W.cell? ⟨w.heap.size, 0, none⟩ = some (.int .i64 q0) ∧ W.cell? ⟨w.heap.size, 1, none⟩ = some (.int .i64 q1) ∧ W.cell? ⟨w.heap.size, 2, none⟩ = some (.int .i64 q2) ∧ W.cell? ⟨w.heap.size, 3, none⟩ = some (.int .i64 q3) ∧ W.cell? ⟨w.heap.size, 4, none⟩ = some (.int .i64 q4) ∧ W.cell? ⟨w.heap.size, 5, none⟩ = some (.int .i64 q5) ∧ W.cell? ⟨w.heap.size, 6, none⟩ = some (.int .i64 q6) ∧ W.cell? ⟨w.heap.size, 7, none⟩ = some (.int .i64 q7) ∧ W.cell? ⟨w.heap.size, 8, none⟩ = some (.int .i64 q8) ∧ W.cell? ⟨G, 0, none⟩ = some (.int .i64 r0) ∧ W.cell? ⟨G, 1, none⟩ = some (.int .i64 r1) ∧ W.cell? ⟨G, 2, none⟩ = some (.int .i64 r2) ∧ W.cell? ⟨G, 3, none⟩ = some (.int .i64 r3) ∧ W.cell? ⟨G, 4, none⟩ = some (.int .i64 r4) ∧ W.cell? ⟨G, 5, none⟩ = some (.slice b3 n e3))
          (with_reducible first | assumption | exact hM0 | exact hMd)
          (first | (go_at_call 11; refine Calls.mono (HT.out _) ?_; rintro e wA ⟨rfl, hbA⟩; have hqA : Below V.heap.size V wA := (by first | exact Below.trans (Below.drew (Below.refl V.heap.size V)) hbA | exact hbA); have HQA : Hid (Below V.heap.size V wA) := hqA; have ZA := nine_six HL4.out HX4.out hqA; clear hqA hbA) | (go_at_call 19; refine Calls.mono (HIM.out _ _ _ (HP4.out.later (by first | exact HQA.out | exact Below.drew HQA.out))) ?_; rintro e wS ⟨rfl, hbS⟩; have hqS : Below V.heap.size V wS := (by first | exact deep.below_tr HQA.out hbS | exact deep.below_tr (Below.drew HQA.out) hbS); have HQS : Hid (Below V.heap.size V wS) := hqS; have ZS := nine_six HL4.out HX4.out hqS; clear hqS hbS))
        all_goals (go_wp2_with fail)
        all_goals go_meet
        all_goals (first | exact ⟨rfl, HQS.out⟩)
      case rest =>
        obtain ⟨rfl, HQ⟩ := hcut
        obtain ⟨w5, rfl⟩ : ∃ W, W = wc := ⟨_, rfl⟩
        have HX5 : Hid (Blk w5 G 50 [.int .i64 r0, .int .i64 r1, .int .i64 r2, .int .i64 r3, .int .i64 r4, .slice b3 n e3]) := HX4.out.later HQ.out
        have HH5 : Hid (Blk w5 (w.heap.size + 1) 44 [.int .i64 r0, .int .i64 r1, .int .i64 r2, .int .i64 r3, .int .i64 r4, .slice a n c]) := HH4.out.later HQ.out
        have HR5 : Hid (RowE (Plain chd) 3 w2.heap.size w5 (.slice b3 n e3) hs) := HR4.out.below (plain_stays _) HQ.out
        have HB5 : Hid (Below w.heap.size w w5) := deep.below_tr HB4.out HQ.out
        clear HQ HX4 HL4 HH4 HR4 HB4 hM0 hMd HIM HT HP HP4
        have hN0 := six_six HX5.out HH5.out (Below.refl _ _)
        have hNd := six_six HX5.out HH5.out (Below.drew (Below.refl _ _))
        go_wp2_with fail
        go_cut [35, 36] from 32 to 36 (fun x35 x36 wx => x36 = .bool false ∧ Hid (Below w5.heap.size w5 wx))
        case first =>
          go_region_held3 (fun W => W.cell? ⟨G, 0, none⟩ = some (.int .i64 r0) ∧ W.cell? ⟨G, 1, none⟩ = some (.int .i64 r1) ∧ W.cell? ⟨G, 2, none⟩ = some (.int .i64 r2) ∧ W.cell? ⟨G, 3, none⟩ = some (.int .i64 r3) ∧ W.cell? ⟨G, 4, none⟩ = some (.int .i64 r4) ∧ W.cell? ⟨G, 5, none⟩ = some (.slice b3 n e3) ∧ W.cell? ⟨w.heap.size + 1, 0, none⟩ = some (.int .i64 r0) ∧ W.cell? ⟨w.heap.size + 1, 1, none⟩ = some (.int .i64 r1) ∧ W.cell? ⟨w.heap.size + 1, 2, none⟩ = some (.int .i64 r2) ∧ W.cell? ⟨w.heap.size + 1, 3, none⟩ = some (.int .i64 r3) ∧ W.cell? ⟨w.heap.size + 1, 4, none⟩ = some (.int .i64 r4) ∧ W.cell? ⟨w.heap.size + 1, 5, none⟩ = some (.slice a n c))
            (with_reducible first | assumption | exact hN0 | exact hNd)
            (first | (go_at_call 18; refine Calls.mono (HTR.out _ (by first | exact HB5.out | exact Below.drew HB5.out)) ?_; rintro e wR ⟨vR, rfl, hrR, _, hbR⟩; have hqR : Below w5.heap.size w5 wR := (by first | exact Below.trans (Below.drew (Below.refl w5.heap.size w5)) hbR | exact hbR); have HQR : Hid (Below w5.heap.size w5 wR) := hqR; have ZR := six_six HX5.out HH5.out hqR; have HRA : Hid (RowE (Plain chd) 3 _ wR vR hs) := hrR; have HRB : Hid (RowE (Plain chd) 3 _ wR _ hs) := HR5.out.below (plain_stays _) hqR; clear hqR hbR hrR) | (go_at_call 20; refine Calls.mono (HEQ.out _ _ _ _ _ HRB.out HRA.out) ?_; rintro e wS ⟨rfl, hbS⟩; have hqS : Below w5.heap.size w5 wS := (by first | exact deep.below_tr HQR.out hbS | exact deep.below_tr (Below.drew HQR.out) hbS); have HQS : Hid (Below w5.heap.size w5 wS) := hqS; have ZS := six_six HX5.out HH5.out hqS; clear hqS hbS))
          all_goals (go_wp2_with fail)
          all_goals go_meet
          all_goals (first | exact ⟨rfl, HQS.out⟩)
        case rest =>
          obtain ⟨rfl, HQ⟩ := hcut
          obtain ⟨w6, rfl⟩ : ∃ W, W = wc := ⟨_, rfl⟩
          have HB6 : Hid (Below w.heap.size w w6) := deep.below_tr HB5.out HQ.out
          go_wp2
          go_ret
          exact ⟨rfl, HB6.out⟩
  · rw [if_neg hk] at HSZ
    have HB0 : Hid (Below w.heap.size w ((w.alloc (.cells #[.int .i64 x.q0, .int .i64 x.q1, .int .i64 x.q2, .int .i64 x.q3, .int .i64 x.q4, .int .i64 x.q5, .int .i64 x.q6, .int .i64 x.q7, .int .i64 x.q8] 29)).alloc (.cells #[.int .i64 r0, .int .i64 r1, .int .i64 r2, .int .i64 r3, .int .i64 r4, .slice a hs.length c] 44))) := below2 w _ _
    simp only [ccall]
    clear HT hr
    go_enter Tryd.func6, Tryd.ntmps6
    go_wp2_with fail
    refine Calls.mono (HSZ.out _ HB0.out) ?_
    rintro e w1 ⟨rfl, hb1⟩
    have HB1 : Hid (Below w.heap.size w w1) := deep.below_tr HB0.out hb1
    clear hb1
    go_wp2_with fail
    go_ret
    exact ⟨rfl, HB1.out⟩

set_option maxRecDepth 100000 in
theorem agg_of_call {W : World} {base : Nat} {v : Value} {cs : List Value} (h : Value.okWide Tryd.prog W .any base 29 v) (hc : v.cells.toList = cs) : v = .agg cs.toArray := by
  cases v with
  | agg c =>
    have e : c.toList = cs := hc
    rw [← e]
  | _ => simp [Value.okWide, Tryd.underlying29] at h

set_option maxRecDepth 100000 in
theorem agg_of_reply {W : World} {base : Nat} {v : Value} {cs : List Value} (h : Value.okWide Tryd.prog W .any base 44 v) (hc : v.cells.toList = cs) : v = .agg cs.toArray := by
  cases v with
  | agg c =>
    have e : c.toList = cs := hc
    rw [← e]
  | _ => simp [Value.okWide, Tryd.underlying44] at h

set_option maxRecDepth 100000 in
theorem contract (H : Type) (enc : TypeId × Value → H) (W : World) (base : Nat) (args : Array Value) (ds gs : List (DataW H)) (before : List MemPlace)
    (hval : ∀ (j : Nat) t v, Tryd.f6.params[j]? = some t → args[j]? = some v → Value.okWide Tryd.prog W .any base t v)
    (hW : DataW.Whole enc Tryd.prog Tryd.f6.params.toList Rows.fnExactReplyTextSpec.vars false W args.toList ds gs before) (hL : laidMet Tryd.prog Rows.fnExactReplyTextRow.laid W) (hsh : World.ShapedOpen Tryd.prog W) :
    Calls Tryd.prog 6 args W fun e W' => ∃ v, e = .returned v ∧ Rows.fnExactReplyTextSpec.post enc Tryd.prog Tryd.f6 false true false false W args v W' := by
  have hW' := hW
  obtain ⟨p, q, hA0, hV, rfl, hfz, hnd⟩ := hW
  have hA : DataW.TrodAll enc Tryd.prog W 0 (fun _ => true) true Tryd.f6.params.toList args.toList ds p := hA0
  rw [Tryd.params6] at hA hval
  obtain ⟨v0, vs0, d0, ds0, p0, q0, hargs, rfl, rfl, h0, r0⟩ := trodAll_cons hA
  obtain ⟨v1, vs1, d1, ds1, p1, q1, rfl, rfl, rfl, h1, r1⟩ := trodAll_cons r0
  obtain ⟨v2, vs2, d2, ds2, p2, q2, rfl, rfl, rfl, h2, r2⟩ := trodAll_cons r1
  obtain ⟨rfl, rfl, rfl⟩ := trodAll_nil r2
  obtain rfl : args = #[v0, v1, v2] := by cases args; simp_all
  obtain ⟨rfl, rfl⟩ := trodVars_none hV
  have k0 := h0
  obtain ⟨fuel0, hf0⟩ := k0
  obtain ⟨hlen0, _⟩ := open_struct Tryd.underlying29 hf0
  rw [call.cells_cl] at hlen0
  obtain ⟨x0, hcs0⟩ := call.open_cl fuel0 _ _ hlen0 hf0
  obtain rfl : v0 = .agg (ccall x0).toArray := agg_of_call (hval 0 29 v0 rfl rfl) hcs0
  have k1 := h1
  obtain ⟨fuel1, hf1⟩ := k1
  obtain ⟨hlen1, _⟩ := open_struct Tryd.underlying44 hf1
  rw [repo.cells_rp] at hlen1
  obtain ⟨y1, u1, hcs1, hrow1⟩ := repo.open_rp fuel1 _ _ hlen1 hf1
  rw [hcs1] at hf1
  have hrb1 := reply_bounds fuel1 y1 u1 _ hf1
  obtain rfl : v1 = .agg (rcells y1 u1).toArray := agg_of_reply (hval 1 44 v1 rfl rfl) hcs1
  obtain ⟨a2, rfl, rfl, rfl, w2⟩ := open_int Tryd.underlying2 (hval 2 2 v2 rfl rfl) h2
  have i2 : -9223372036854775808 ≤ a2 ∧ a2 ≤ 9223372036854775807 := by simpa [Lit.wf, IntKind.min, IntKind.max, IntKind.signed, IntKind.bits] using w2
  clear hA0
  simp only [List.append_nil] at hW'
  have hlt0 : ∀ y ∈ p0, y.block < W.heap.size := fun y hy => by
    refine hW'.lt y ?_
    simp [hy]
  have hlt1 : ∀ y ∈ p1, y.block < W.heap.size := fun y hy => by
    refine hW'.lt y ?_
    simp [hy]
  refine (walk x0 y1 u1 a2 i2 W hrow1 hrb1.1 hrb1.2 ⟨pow_third hL⟩).mono fun e W' ⟨he, hg⟩ => ?_
  subst he
  have harg1 : DataW.Trod enc Tryd.prog W' 0 (fun b => decide (b < W.heap.size)) true 44 (.agg (rcells y1 u1).toArray) d1 p1 :=
    Below.trod laidOutL (by kernel_rfl) (of_decide_eq_true (by kernel_rfl)) h1 hg (fun y hy => hlt1 y hy)
  have harg0 : DataW.Trod enc Tryd.prog W' 0 (fun b => decide (b < W.heap.size)) true 29 (.agg (ccall x0).toArray) d0 p0 :=
    Below.trod laidOutL (by kernel_rfl) (of_decide_eq_true (by kernel_rfl)) h0 hg (fun y hy => hlt0 y hy)
  exact ⟨_, rfl, _, _, _, [], _, [], hW', (trodAll_cons_mk (shut_bool Tryd.underlying4 _) trodAll_mk0), (trodAll_cons_mk harg0 (trodAll_cons_mk harg1 (trodAll_cons_mk (shut_int Tryd.underlying2 w2) trodAll_mk0))), rfl, hg.frame _, fun h => by cases h⟩

set_option maxRecDepth 100000 in
theorem lifted (os : Os) (started : os.Started) (H : Type) (enc : TypeId × Value → H) (F : Stop.Interp) :
    ReturnsInHanded {} Tryd.checked os 6 .any ((OpenSpec.ofChange Rows.fnExactReplyTextSpec).preRow enc Tryd.prog Tryd.f6 Rows.fnExactReplyTextRow.domain false Rows.fnExactReplyTextRow.laid) (((OpenSpec.ofChange Rows.fnExactReplyTextSpec).at F).post enc Tryd.prog Tryd.f6 false true false false) := by
  refine returnsInHanded_of_row (C := Tryd.checked) (s := OpenSpec.ofChange Rows.fnExactReplyTextSpec) own started (by kernel_rfl) Tryd.func6
    (witness_row_at (enc := enc) (C := Tryd.checked) false (laidWorld os) #[.agg #[.int .i64 0, .int .i64 0, .int .i64 0, .int .i64 0, .int .i64 0, .int .i64 0, .int .i64 0, .int .i64 0, .int .i64 0], .agg #[.int .i64 0, .int .i64 0, .int .i64 0, .int .i64 0, .int .i64 0, .slice none 0 0], .int .i64 0] rfl (by kernel_rfl) (by kernel_rfl) (by kernel_rfl)
      (OpenSpec.preRow_of_B rfl 8 (by kernel_rfl) (by kernel_rfl) (met_replyt os _))) ?_
  intro W base args ds gs before hval hW _ _ _ hL hsh _
  exact contract H enc W base args ds gs before hval hW hL hsh

theorem said : Rows.FnExactReplyTextSaid :=
  OpenClaim.holds_of_cond 6 Tryd.f6 rfl rfl rfl rfl rfl rfl rfl ⟨rfl, rfl, rfl, rfl, rfl⟩ rfl rfl rfl rfl rfl (by kernel_rfl) Tryd.func6 (by kernel_rfl)
    (of_decide_eq_true (by kernel_rfl)) (by unfold Func.isWrapper; first | (rw [if_pos (by decide +kernel)]; kernel_rfl) | (rw [if_neg (by decide +kernel)]; exact ⟨rfl, rfl⟩))
    (fun os started H enc _ F => by rw [OpenClaim.pre_eq_preRow]; exact lifted os started H enc F)

theorem plain (f : FuncId) (fn : Func) (hf : Tryd.pinned.checked.prog.funcNamed "loop.example/g00740/laws.FnExactReplyText" = some f) (hfn : Tryd.pinned.checked.prog.funcs[f]? = some fn) :
    true = Tryd.pinned.checked.prog.looks [] ∧ ∀ (j : Nat) t, fn.params[j]? = some t → Tryd.pinned.checked.prog.wantsStandIn t = false := by
  obtain rfl : f = 6 := Option.some.inj ((show Tryd.prog.funcNamed "loop.example/g00740/laws.FnExactReplyText" = some 6 by kernel_rfl).symm.trans hf) |>.symm
  obtain rfl : fn = Tryd.f6 := (Option.some.inj (Tryd.func6.symm.trans hfn)).symm
  refine ⟨by kernel_rfl, fun j t ht => ?_⟩
  rw [Tryd.params6] at ht
  have h2 : t = 29 ∨ t = 44 ∨ t = 2 := by simpa using Array.mem_of_getElem? ht
  rcases h2 with rfl | rfl | rfl
  · exact (show Tryd.prog.wantsStandIn 29 = false by kernel_rfl)
  · exact (show Tryd.prog.wantsStandIn 44 = false by kernel_rfl)
  · exact (show Tryd.prog.wantsStandIn 2 = false by kernel_rfl)

/-- the card -/
theorem proved : Rows.FnExactReplyTextCardSaid :=
  Claim7.holds_tied_plain_at .later [] _ _ _ _ said (fun _ h => by cases h) (by kernel_rfl) (fun _ h => by cases h) fnExactReplyText_row_tie rfl ⟨rfl, rfl⟩ (by kernel_rfl) rfl plain (by kernel_rfl)
#print axioms proved
end Go.Proofs.YtlojigfhbfemfaaDoor.fnExactReplyText
