import Derived.Test.YtfiipfcdddaceaaDoorC
namespace Go.Proofs.YtfiipfcdddaceaaDoor
open Go.RowKit

/-- All that lay in w lies in w' as it was, but for the block r; nothing outside memory has turned. -/
structure Keep (r : Nat) (w w' : World) : Prop where
  below : Below r w w'
  above : ∀ k, r < k → k < w.heap.size → w'.heap[k]? = w.heap[k]?

theorem Keep.refl (r : Nat) (w : World) : Keep r w w := ⟨Below.refl _ _, fun _ _ _ => rfl⟩
theorem Keep.size {r : Nat} {w w' : World} (h : Keep r w w') : w.heap.size ≤ w'.heap.size := h.below.size
theorem Keep.trans {r : Nat} {a b c : World} (h : Keep r a b) (k : Keep r b c) : Keep r a c :=
  ⟨h.below.trans k.below, fun j h1 h2 => (k.above j h1 (Nat.lt_of_lt_of_le h2 h.size)).trans (h.above j h1 h2)⟩
theorem Keep.of_below {r : Nat} {a b c : World} (h : Keep r a b) (hr : r ≤ b.heap.size) (k : Below b.heap.size b c) : Keep r a c :=
  ⟨h.below.trans (k.mono hr), fun j h1 h2 => (k.block j (Nat.lt_of_lt_of_le h2 h.size)).trans (h.above j h1 h2)⟩
theorem Keep.drew {r : Nat} {a w : World} (h : Keep r a w) : Keep r a w.drew := ⟨h.below.drew, h.above⟩
theorem Keep.drewN {r : Nat} {a w : World} (h : Keep r a w) (n : Nat) : Keep r a (w.drewN n) :=
  ⟨⟨h.below.os, h.below.tape, h.below.output, h.below.size, h.below.block⟩, h.above⟩
theorem Keep.alloc {r : Nat} {a w : World} (h : Keep r a w) (hr : r ≤ w.heap.size) (o : Obj) : Keep r a (w.alloc o) :=
  ⟨h.below.alloc hr o, fun j h1 h2 => (Below.heap_alloc w o j (Nat.lt_of_lt_of_le h2 h.size)).trans (h.above j h1 h2)⟩
theorem Keep.setCell {r : Nat} {a w : World} (h : Keep r a w) (o : Nat) (u : Value) : Keep r a (w.setCell ⟨r, o, none⟩ u) :=
  ⟨h.below.setCell (Nat.le_refl _) u, fun j h1 h2 => (Below.heap_setCell w ⟨r, o, none⟩ u j (fun e => by simp at e; omega)).trans (h.above j h1 h2)⟩
theorem Keep.setNew {r : Nat} {a w : World} (h : Keep r a w) {p : Addr} (hp : a.heap.size ≤ p.block) (hr : r ≤ a.heap.size) (u : Value) : Keep r a (w.setCell p u) :=
  ⟨h.below.setCell (Nat.le_trans hr hp) u, fun j h1 h2 => (Below.heap_setCell w p u j (by omega)).trans (h.above j h1 h2)⟩
theorem Keep.block {r : Nat} {w w' : World} (h : Keep r w w') {b : Nat} (hb : b ≠ r) (hs : b < w.heap.size) : w'.heap[b]? = w.heap[b]? := by
  by_cases hlt : b < r
  · exact h.below.block b hlt
  · exact h.above b (by omega) hs
theorem Keep.cell {r : Nat} {w w' : World} (h : Keep r w w') {b o : Nat} (hb : b ≠ r) (hs : b < w.heap.size) : w'.cell? ⟨b, o, none⟩ = w.cell? ⟨b, o, none⟩ :=
  World.cell?_of_block (w := w) (h.block hb hs)
theorem Keep.frozen {r : Nat} {w w' : World} (h : Keep r w w') {b o : Nat} (hb : b ≠ r) (hs : b < w.heap.size) : w'.frozen? ⟨b, o, none⟩ = w.frozen? ⟨b, o, none⟩ :=
  World.frozen?_of_block (w := w) (h.block hb hs)
theorem Keep.all {r : Nat} {w w' : World} (h : Keep r w w') (hr : w.heap.size ≤ r) : Below w.heap.size w w' := h.below.mono hr

/-- The reader in the block r: it reads s, and stands at i. -/
structure Rd (r : Nat) (s : ByteArray) (i : Nat) (w : World) : Prop where
  lt : r < w.heap.size
  c0 : w.cell? ⟨r, 0, none⟩ = some (.string s)
  c1 : w.cell? ⟨r, 1, none⟩ = some (.int .i64 i)
  f1 : w.frozen? ⟨r, 1, none⟩ = false

theorem Rd.below {r : Nat} {s : ByteArray} {i : Nat} {w w' : World} (h : Rd r s i w) (hb : Below w.heap.size w w') : Rd r s i w' :=
  ⟨Nat.lt_of_lt_of_le h.lt hb.size, (hb.cell (p := ⟨r, 0, none⟩) h.lt).trans h.c0, (hb.cell (p := ⟨r, 1, none⟩) h.lt).trans h.c1, (hb.frozen (p := ⟨r, 1, none⟩) h.lt).trans h.f1⟩

def marksL : List (List UInt8) := [[58, 45], [63, 45], [33, 61], [60, 61], [62, 61], [61], [60], [62], [33], [40], [41], [44], [46]]
def markB (k : Nat) : ByteArray := ⟨(marksL.getD k []).toArray⟩

/-- The table of the marks, as its initialiser lays it. -/
def Mk (w : World) : Prop := 0 < w.heap.size ∧ ∀ k, k < 13 → w.cell? ⟨0, k, none⟩ = some (.string (markB k))

theorem Mk.keep {r : Nat} {w w' : World} (h : Mk w) (k : Keep r w w') (hr : 0 < r) : Mk w' :=
  ⟨Nat.lt_of_lt_of_le h.1 k.size, fun j hj => (k.cell (by omega) h.1).trans (h.2 j hj)⟩
theorem Mk.below {w w' : World} (h : Mk w) (k : Below w.heap.size w w') : Mk w' :=
  ⟨Nat.lt_of_lt_of_le h.1 k.size, fun j hj => (k.cell (p := ⟨0, j, none⟩) h.1).trans (h.2 j hj)⟩

/-- Which mark stands first in a text; 13: none. -/
def mk (l : List UInt8) : Nat := marksL.findIdx fun m => m.isPrefixOf l
end Go.Proofs.YtfiipfcdddaceaaDoor
