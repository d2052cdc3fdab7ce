import Derived.Test.YtfiipfcdddaceaaGreatDoorQ9Sb
namespace Go.Proofs.YtfiipfcdddaceaaGreatDoor
open Go.RowKit

theorem Fr.keep {b : Nat} {w w' : World} (h : Fr b (.slice none 0 0) w w') (hb : b < w.heap.size) : Keep b w w' :=
  ⟨h.below (Nat.le_refl _) (fun k hk => by cases hk) (Nat.le_of_lt hb), fun k h1 h2 => h.block k h2 (by omega) (fun e => by cases e)⟩

set_option maxHeartbeats 2000000 in
theorem print2 (pb n m c cb : Nat) (nm S : ByteArray) (a ab : Option Addr) (w : World) (hb : Bd pb pb [] (.slice none 0 0) w) (hS : S.size ≤ 10000)
    (HS : ∀ W, Below w.heap.size w W → Calls Tryz.prog 62 #[.agg #[.string nm, .slice a n c, .slice ab m cb]] W fun e w' => e = .returned (.string S) ∧ Below W.heap.size W w') :
    Calls Tryz.prog 60 #[.agg #[.string nm, .slice a n c, .slice ab m cb], .pointer (some ⟨pb, 0, none⟩)] w fun e w' => e = .returned (.tuple #[]) ∧ Keep pb w w' ∧ ∃ v, Bd pb pb S.data.toList v w' := by
  have hlt := hb.lt
  have HB := hide hb
  have H1 := hide HS
  clear hb HS
  go_enter Tryz.func60, Tryz.ntmps60
  go_wp2_with fail
  refine (H1.out _ ((Below.refl _ _).alloc (Nat.le_refl _) _)).mono ?_
  rintro x w1 ⟨rfl, hb1⟩
  have hbw : Below w.heap.size w w1 := ((Below.refl _ _).alloc (Nat.le_refl _) _).trans (hb1.mono (by simp))
  have hbd : Bd pb pb [] (.slice none 0 0) w1 := by
    obtain ⟨h1, ⟨p, hp, h2⟩, h3⟩ := HB.out
    exact ⟨h1, ⟨p, hp, (hbw.block pb hlt).trans h2⟩, ⟨rfl, .inl ⟨rfl, rfl⟩⟩⟩
  have hz := hbw.size
  have HW := hide hbw
  clear hb1 hbw
  go_wp2_with fail
  refine (writeString pb pb [] (.slice none 0 0) S _ hbd (by simp; omega) (by omega)).mono ?_
  rintro x w2 ⟨rfl, v, hb2, hf2⟩
  have H2 := hide hb2
  have HK := hide ((Keep.start HW.out (Nat.le_of_lt hlt)).trans (hf2.keep (by omega)))
  clear hb2 hf2
  go_wp2_with fail
  go_end0
  exact ⟨rfl, HK.out, v, by have := H2.out; exact this⟩
end Go.Proofs.YtfiipfcdddaceaaGreatDoor
