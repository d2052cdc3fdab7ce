import Derived.Test.YtfiipfcdddaceaaGreatDoorQ9Mb
namespace Go.Proofs.YtfiipfcdddaceaaGreatDoor
open Go.RowKit

/-- The block b holds a name and a slice. -/
structure Has2 (b : Nat) (s : ByteArray) (v : Value) (w : World) : Prop where
  c0 : w.cell? ⟨b, 0, none⟩ = some (.string s)
  c1 : w.cell? ⟨b, 1, none⟩ = some v
  lt : b < w.heap.size
theorem Has2.below {b : Nat} {s : ByteArray} {v : Value} {w w' : World} (h : Has2 b s v w) (hb : Below w.heap.size w w') : Has2 b s v w' :=
  ⟨(hb.cell (p := ⟨b, 0, none⟩) h.lt).trans h.c0, (hb.cell (p := ⟨b, 1, none⟩) h.lt).trans h.c1, Nat.lt_of_lt_of_le h.lt hb.size⟩
theorem Has2.alloc {b : Nat} {s : ByteArray} {v : Value} {w : World} (h : Has2 b s v w) (o : Obj) : Has2 b s v (w.alloc o) := h.below ((Below.refl _ _).alloc (Nat.le_refl _) o)
theorem Has2.new {s : ByteArray} {v : Value} {w : World} : Has2 w.heap.size s v (w.alloc (.cells #[.string s, v] 47)) := ⟨by simp, by simp, by simp⟩
/-- The block b holds an atom as it came in. -/
structure Has4 (b : Nat) (s : ByteArray) (v : Value) (n : Int) (w : World) : Prop where
  c0 : w.cell? ⟨b, 0, none⟩ = some (.string s)
  c1 : w.cell? ⟨b, 1, none⟩ = some v
  c2 : w.cell? ⟨b, 2, none⟩ = some (.int .i64 n)
  lt : b < w.heap.size
theorem Has4.below {b : Nat} {s : ByteArray} {v : Value} {n : Int} {w w' : World} (h : Has4 b s v n w) (hb : Below w.heap.size w w') : Has4 b s v n w' :=
  ⟨(hb.cell (p := ⟨b, 0, none⟩) h.lt).trans h.c0, (hb.cell (p := ⟨b, 1, none⟩) h.lt).trans h.c1, (hb.cell (p := ⟨b, 2, none⟩) h.lt).trans h.c2, Nat.lt_of_lt_of_le h.lt hb.size⟩
theorem Has4.alloc {b : Nat} {s : ByteArray} {v : Value} {n : Int} {w : World} (h : Has4 b s v n w) (o : Obj) : Has4 b s v n (w.alloc o) := h.below ((Below.refl _ _).alloc (Nat.le_refl _) o)
theorem Has4.new {s : ByteArray} {v : Value} {n : Int} {w : World} (b : Nat) (hb : b = w.heap.size) : Has4 b s v n (w.alloc (.cells #[.string s, v, .int .i64 n] 44)) := by
  subst hb; exact ⟨by simp, by simp, by simp, by simp⟩
end Go.Proofs.YtfiipfcdddaceaaGreatDoor
