import Derived.Test.YtfiipfcdddaceaaGreatDoorRows
import Derived.WalkKit
import Derived.WalkSpells
import Derived.WalkLawsBesides
import Derived.Deep.QuietTactic
import Derived.BigQuiet
namespace Go.Proofs.YtfiipfcdddaceaaGreatDoor
open Go.RowKit

theorem hide {p : Prop} (h : p) : Hid p := h

def smallB (c : Int) : Bool := decide (97 ≤ c ∧ c ≤ 122)
def bigB (c : Int) : Bool := decide (65 ≤ c ∧ c ≤ 90)
def letterB (c : Int) : Bool := smallB c || bigB c
def digitB (c : Int) : Bool := decide (48 ≤ c ∧ c ≤ 57)

set_option maxHeartbeats 400000 in
theorem small_any (c : Int) (w : World) :
    Calls Tryz.prog 144 #[.int .u8 c] w fun e w' => e = .returned (.bool (smallB c)) ∧ w' = w := by
  by_cases h1 : 97 ≤ c
  · by_cases h2 : c ≤ 122
    · go_enter Tryz.func144, Tryz.ntmps144
      go_wp2
      go_ret
      exact ⟨by simp [smallB, h1, h2], rfl⟩
    · go_enter Tryz.func144, Tryz.ntmps144
      go_wp2
      go_ret
      exact ⟨by simp [smallB, h1, h2], rfl⟩
  · have e : smallB c = false := by simp [smallB]; omega
    go_enter Tryz.func144, Tryz.ntmps144
    go_wp2
    go_ret
    exact ⟨rfl, rfl⟩

set_option maxHeartbeats 400000 in
theorem digit_any (c : Int) (w : World) :
    Calls Tryz.prog 158 #[.int .u8 c] w fun e w' => e = .returned (.bool (digitB c)) ∧ w' = w := by
  by_cases h1 : 48 ≤ c
  · by_cases h2 : c ≤ 57
    · go_enter Tryz.func158, Tryz.ntmps158
      go_wp2
      go_ret
      exact ⟨by simp [digitB, h1, h2], rfl⟩
    · go_enter Tryz.func158, Tryz.ntmps158
      go_wp2
      go_ret
      exact ⟨by simp [digitB, h1, h2], rfl⟩
  · have e : digitB c = false := by simp [digitB]; omega
    go_enter Tryz.func158, Tryz.ntmps158
    go_wp2
    go_ret
    exact ⟨rfl, rfl⟩

set_option maxHeartbeats 400000 in
theorem letter_any (c : Int) (w : World) :
    Calls Tryz.prog 157 #[.int .u8 c] w fun e w' => e = .returned (.bool (letterB c)) ∧ w' = w := by
  cases hs : smallB c
  · have h0 : smallB c = false := hs
    by_cases h1 : 65 ≤ c
    · by_cases h2 : c ≤ 90
      · go_enter Tryz.func157, Tryz.ntmps157
        go_wp2_with (go_at_call 144; refine (small_any _ _).mono ?_; rintro e w' ⟨rfl, rfl⟩)
        go_ret
        exact ⟨by simp [letterB, bigB, h1, h2], rfl⟩
      · go_enter Tryz.func157, Tryz.ntmps157
        go_wp2_with (go_at_call 144; refine (small_any _ _).mono ?_; rintro e w' ⟨rfl, rfl⟩)
        go_ret
        exact ⟨by simp [letterB, bigB, hs, h1], rfl⟩
    · have e : letterB c = false := by simp [letterB, bigB, hs]; omega
      go_enter Tryz.func157, Tryz.ntmps157
      go_wp2_with (go_at_call 144; refine (small_any _ _).mono ?_; rintro e w' ⟨rfl, rfl⟩)
      go_ret
      exact ⟨rfl, rfl⟩
  · have h0 : smallB c = true := hs
    go_enter Tryz.func157, Tryz.ntmps157
    go_wp2_with (go_at_call 144; refine (small_any _ _).mono ?_; rintro e w' ⟨rfl, rfl⟩)
    go_ret
    exact ⟨by simp [letterB, hs], rfl⟩

end Go.Proofs.YtfiipfcdddaceaaGreatDoor
