/-
  What the walk of the law FnSeal stands on: the bytes of a text as a row, one of them turned; the CRCs at its end.
-/
import Derived.Test.YtjiihkdnpblilaaSealDraws
import Derived.Test.YtjiihkdnpblilaaCrcFacts
import Derived.Laws.IdiomStrings
namespace Go.Proofs.Ytjiihkdnpblilaa.sealed
open Go.RowKit Go.Deep
open Go.Proofs.Ytjiihkdnpblilaa
set_option linter.unusedVariables false

def nums (s : ByteArray) : List Int := s.data.toList.map fun u => (u.toNat : Int)
theorem nums_len (s : ByteArray) : (nums s).length = s.size := by simp [nums]

/-- a row of bytes, from its head -/
def RowB (W : World) (g : Nat) (xs : List Int) : Prop := ∀ i, i < xs.length → W.cell? ⟨g, i, none⟩ = some (.int .u8 (xs.getD i 0))

/-- a text as a row of bytes, in new memory -/
structure Row1 (s : ByteArray) (W W' : World) (cp : Nat) : Prop where
  run : (convert 9 22 (.string s)).run Try.prog W = .ok (.slice (some ⟨W.heap.size, 0, none⟩) s.size cp) W'
  row : RowB W' W.heap.size (nums s)
  free : ∀ i, i < s.size → W'.frozen? ⟨W.heap.size, i, none⟩ = false
  below : Below W.heap.size W W'
  size : W.heap.size < W'.heap.size

theorem to_bytes (s : ByteArray) (W : World) : ∃ cp W', Row1 s W W' cp := by
  refine ⟨_, _, run_bytes_of_string W 9 22 5 s Try.underlying9 Try.underlying22 Try.underlying5, ?_, ?_, ?_, ?_⟩
  · intro i hi
    rw [nums_len] at hi
    have hh : (W.drew.alloc (.cells (bytesRow s (grownCap W s.size 0 5)) 5 ((bytesRow s (grownCap W s.size 0 5)).size, (bytesRow s (grownCap W s.size 0 5)).size + 1))).heap[W.heap.size]? = some (.cells (bytesRow s (grownCap W s.size 0 5)) 5 ((bytesRow s (grownCap W s.size 0 5)).size, (bytesRow s (grownCap W s.size 0 5)).size + 1)) := (MapKept.heap_alloc W.drew _).1
    rw [cell_of_row _ W.heap.size i _ _ _ hh, bytesRow_at s _ i hi]
    simp [nums, List.getD, hi]
  · intro i hi
    have hh : (W.drew.alloc (.cells (bytesRow s (grownCap W s.size 0 5)) 5 ((bytesRow s (grownCap W s.size 0 5)).size, (bytesRow s (grownCap W s.size 0 5)).size + 1))).heap[W.heap.size]? = some (.cells (bytesRow s (grownCap W s.size 0 5)) 5 ((bytesRow s (grownCap W s.size 0 5)).size, (bytesRow s (grownCap W s.size 0 5)).size + 1)) := (MapKept.heap_alloc W.drew _).1
    have hz : s.size ≤ (bytesRow s (grownCap W s.size 0 5)).size := by simp [bytesRow]
    unfold World.frozen?
    simp only [hh]
    simp
    omega
  · exact (Below.refl W.heap.size W).drew.alloc (Nat.le_refl _) _
  · show W.drew.heap.size < _
    simp

theorem RowB.below {W W' : World} {g B : Nat} {xs : List Int} (h : RowB W g xs) (hb : Below B W W') (hg : g < B) : RowB W' g xs :=
  fun i hi => (hb.cell (p := ⟨g, i, none⟩) hg).trans (h i hi)
theorem RowB.set {W : World} {g k : Nat} {xs : List Int} (h : RowB W g xs) (hk : k < xs.length) (z : Int) : RowB (W.setCell ⟨g, k, none⟩ (.int .u8 z)) g (xs.set k z) := by
  intro i hi
  rw [List.length_set] at hi
  by_cases e : k = i
  · subst e
    rw [World.cell?_setCell_same W _ _ (h k hk)]
    simp [List.getD, hk]
  · rw [World.cell?_setCell_other W ⟨g, k, none⟩ ⟨g, i, none⟩ _ (fun h => e (congrArg Addr.off h)), h i hi]
    simp [List.getD, List.getElem?_set_ne e]
theorem RowB.back {W : World} {g n cap : Nat} {xs : List Int} (h : RowB W g xs) (hn : xs.length = n) :
    (convert 22 9 (.slice (some ⟨g, 0, none⟩) n cap)).run Try.prog W = .ok (.string (strOfNums xs)) W :=
  run_convert_bytes_arg (P := Try.prog) W 22 5 Try.underlying22 Try.underlying5 g 0 n cap xs hn (fun i hi => by rw [Nat.zero_add]; exact h i (by omega)) 9 Try.underlying9

/-- a byte turned by a number from 1 to 255 is another byte -/
theorem xor_u8 (a k : Nat) (ha : a < 256) (hk : k < 256) : bits .xor .u8 (a : Int) (k : Int) = ((a ^^^ k : Nat) : Int) := by
  have hx : a ^^^ k < 256 := Nat.xor_lt_two_pow (n := 8) ha hk
  show IntKind.u8.wrap ((BitVec.ofInt 8 (a : Int) ^^^ BitVec.ofInt 8 (k : Int)).toNat : Int) = _
  rw [BitVec.toNat_xor, BitVec.ofInt_natCast, BitVec.ofInt_natCast, BitVec.toNat_ofNat, BitVec.toNat_ofNat, Nat.mod_eq_of_lt ha, Nat.mod_eq_of_lt hk]
  simp [IntKind.wrap, IntKind.bits, IntKind.signed]
  omega
theorem xor_other (a k : Nat) (hk : 0 < k) : a ^^^ k ≠ a := by
  intro h
  have h2 : k ^^^ a = 0 ^^^ a := by rw [Nat.xor_comm, h, Nat.zero_xor]
  have := reg.xor_inj h2
  omega

/-- what Unseal tells of the text with one byte turned -/
theorem turned (t : ByteArray) (ht : t.size ≤ 7996) (i k : Nat) (hi : i < (t ++ four.bytes4 (reg.crcN 0 t.data.toList)).size) (hk : 0 < k) (hk2 : k < 256) (z : Int)
    (hz : z = bits .xor .u8 ((nums (t ++ four.bytes4 (reg.crcN 0 t.data.toList))).getD i 0) (k : Int)) :
    opening.told (strOfNums ((nums (t ++ four.bytes4 (reg.crcN 0 t.data.toList))).set i z)) = (⟨#[]⟩, 5) := by
  have hi' : i < (t ++ four.bytes4 (reg.crcN 0 t.data.toList)).data.toList.length := by simpa using hi
  have hu := ((t ++ four.bytes4 (reg.crcN 0 t.data.toList)).data.toList[i]).toNat_lt
  have hx : (t ++ four.bytes4 (reg.crcN 0 t.data.toList)).data.toList[i].toNat ^^^ k < 256 := Nat.xor_lt_two_pow (n := 8) hu hk2
  have hg : (nums (t ++ four.bytes4 (reg.crcN 0 t.data.toList))).getD i 0 = ((t ++ four.bytes4 (reg.crcN 0 t.data.toList)).data.toList[i].toNat : Int) := by
    unfold nums
    rw [List.getD, List.getElem?_map, List.getElem?_eq_getElem hi']
    rfl
  rw [hg, xor_u8 _ _ hu hk2] at hz
  refine reg.told_turned t _ ht i (UInt8.ofNat ((t ++ four.bytes4 (reg.crcN 0 t.data.toList)).data.toList[i].toNat ^^^ k)) hi' ?_ ?_
  · rw [strOfNums_data, List.map_set, hz, Int.toNat_natCast]
    congr 1
    unfold nums
    rw [List.map_map]
    have : ((fun x : Int => UInt8.ofNat x.toNat) ∘ fun u : UInt8 => (u.toNat : Int)) = id := by funext u; simp
    rw [this, List.map_id]
  · intro h
    have := congrArg UInt8.toNat h
    rw [UInt8.toNat_ofNat', Nat.mod_eq_of_lt hx] at this
    exact xor_other _ k hk this

/-- the CRC goes on -/
theorem goes_on (t u : ByteArray) (h : t.size + u.size ≤ 8000) : crc.moreN (crc.moreN 0 t) u = crc.moreN 0 (t ++ u) := by
  have h0 : crc.moreN 0 t = (reg.crcN 0 t.data.toList : Nat) := if_neg (by omega)
  have hlt := reg.crcN_lt 0 t.data.toList (by omega)
  have h1 : crc.moreN (crc.moreN 0 t) u = (reg.crcN (crc.moreN 0 t).toNat u.data.toList : Nat) := if_neg (by rw [h0]; omega)
  have h2 : crc.moreN 0 (t ++ u) = (reg.crcN 0 (t ++ u).data.toList : Nat) := if_neg (by rw [ByteArray.size_append]; omega)
  rw [h1, h2, h0, Int.toNat_natCast, reg.crcN_go]
  simp
end Go.Proofs.Ytjiihkdnpblilaa.sealed
