import Derived.Test.YtfiipfcdddaceaaDoorGn
namespace Go.Proofs.YtfiipfcdddaceaaDoor
open Go.RowKit

/-- What a comparison is: -1, 0 or 1, turned round the other way, and it goes on over a third one. -/
structure Cmp {α : Type} (f : α → α → Int) : Prop where
  three : ∀ a b, f a b = -1 ∨ f a b = 0 ∨ f a b = 1
  turn : ∀ a b, f a b = - f b a
  refl : ∀ a, f a a = 0
  zero : ∀ a b c, f a b = 0 → f a c = f b c
  less : ∀ a b c, f a b = -1 → f b c = -1 → f a c = -1

theorem cmpI_cmp : Cmp Lib.compareInt := by
  refine ⟨fun a b => ?_, fun a b => ?_, fun a => ?_, fun a b c h => ?_, fun a b c h k => ?_⟩
  all_goals simp only [Lib.compareInt] at *
  · split
    · simp
    · split <;> simp
  · by_cases h1 : a < b
    · have h2 : ¬ b < a := by omega
      simp [h1, h2]
    · by_cases h2 : b < a <;> simp [h1, h2]
  · simp
  · split at h
    · simp at h
    · split at h
      · simp at h
      · obtain rfl : a = b := by omega
        rfl
  · split at h
    · split at k
      · rw [if_pos (by omega)]
      · split at k <;> simp at k
    · split at h <;> simp at h

theorem lt_irrefl' (l : List UInt8) : ¬ l < l := List.lt_irrefl l
theorem bl_eq : ∀ (x y : List UInt8), Op.bytesLess x y = decide (x < y)
  | [], [] => by simp [Op.bytesLess]
  | [], _ :: _ => by simp [Op.bytesLess]
  | _ :: _, [] => by simp [Op.bytesLess]
  | a :: x, b :: y => by
    have ih := bl_eq x y
    simp only [Op.bytesLess, ih, List.cons_lt_cons_iff]
    by_cases h1 : a < b
    · simp [h1]
    · by_cases h2 : a = b
      · subst h2; simp
      · simp [h1, h2]

theorem cmpS_cmp : Cmp cmpS := by
  have tl : ∀ a b : ByteArray, (a.toList == b.toList) = decide (a.toList = b.toList) := fun a b => by
    rw [Bool.eq_iff_iff]; simp
  have e : ∀ a b, cmpS a b = if a.toList < b.toList then -1 else if a.toList = b.toList then 0 else 1 := fun a b => by
    simp only [cmpS, bl_eq, tl, decide_eq_true_eq]
  refine ⟨fun a b => ?_, fun a b => ?_, fun a => ?_, fun a b c h => ?_, fun a b c h k => ?_⟩
  all_goals simp only [e] at *
  · split
    · simp
    · split <;> simp
  · by_cases h1 : a.toList < b.toList
    · have h2 : ¬ b.toList < a.toList := List.lt_asymm h1
      have h3 : ¬ b.toList = a.toList := fun e => by rw [e] at h1; exact List.lt_irrefl _ h1
      simp [h1, h2, h3]
    · by_cases h2 : a.toList = b.toList
      · simp [h2, List.lt_irrefl]
      · have h3 : b.toList < a.toList := by
          rcases Std.lt_trichotomy a.toList b.toList with h | h | h
          · exact absurd h h1
          · exact absurd h h2
          · exact h
        simp [h1, h2, h3]
  · simp [List.lt_irrefl]
  · split at h
    · simp at h
    · split at h
      · rename_i h2
        rw [h2]
      · simp at h
  · split at h
    · split at k
      · rename_i h1 h2
        rw [if_pos (List.lt_trans h1 h2)]
      · split at k <;> simp at k
    · split at h <;> simp at h
end Go.Proofs.YtfiipfcdddaceaaDoor
