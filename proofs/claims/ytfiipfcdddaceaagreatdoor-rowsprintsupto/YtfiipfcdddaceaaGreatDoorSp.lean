import Derived.Test.YtfiipfcdddaceaaGreatDoorIc
namespace Go.Proofs.YtfiipfcdddaceaaGreatDoor
open Go.RowKit Go.Sort Go.Shelf

theorem Atoms.shape {B : Nat} {w : World} {v : Value} {l : List Atm} (h : Atoms B w v l) : ∃ p c, v = .slice p l.length c := by
  obtain ⟨_, ⟨rfl, rfl⟩ | ⟨g, c, rfl, _⟩⟩ := h
  · exact ⟨_, _, rfl⟩
  · exact ⟨_, _, rfl⟩
end Go.Proofs.YtfiipfcdddaceaaGreatDoor
