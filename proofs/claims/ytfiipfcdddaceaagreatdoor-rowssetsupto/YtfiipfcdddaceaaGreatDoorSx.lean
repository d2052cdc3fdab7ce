import Derived.Test.YtfiipfcdddaceaaGreatDoorSw
namespace Go.Proofs.YtfiipfcdddaceaaGreatDoor
open Go.RowKit Go.Sort Go.Shelf
variable {α : Type} [Inhabited α] {T : Two α}

set_option maxHeartbeats 4000000 in
set_option maxRecDepth 1000000 in
theorem rotate_any (g : Nat) (cb : Array Value) (blk cap a m b : Nat) (d0 d : Array α) (w0 w : World) (R : RowK (enc2 T) 2 w0 blk 0 d0) (hs : d0.size = d.size)
    (S : SWK (enc2 T) 2 w0 blk 0 d w) (ham : a < m) (hmb : m < b) (hb : b ≤ d.size) (hsz : d.size < 1099511627776) :
    Calls Tryz.prog 166 #[.slice (some ⟨blk, 0, none⟩) d.size cap, .int .i64 a, .int .i64 m, .int .i64 b, .func (.func g) #[] cb] w fun e w' => e = .returned (.tuple #[]) ∧ ∃ d', Rotd a m b d d' ∧ SWK (enc2 T) 2 w0 blk 0 d' w' := by
  have S0 := hide S
  clear S
  have x1 : ((m : Int) - (a : Int)) = ((m - a : Nat) : Int) := by omega
  have x2 : ((b : Int) - (m : Int)) = ((b - m : Nat) : Int) := by omega
  go_enter Tryz.func166, Tryz.ntmps166
  go_wp2_with fail
  go_loopw [10, 11] (fun v u wr => ∃ i j : Nat, ∃ dk : Array α, v = .int .i64 i ∧ u = .int .i64 j ∧ 0 < i ∧ 0 < j ∧ i ≤ m ∧ m + j ≤ d.size ∧ dk.size = d.size ∧ Hid (∀ d', Rotd (m - i) m (m + j) dk d' → Rotd a m b d d') ∧ Hid (SWK (enc2 T) 2 w0 blk 0 dk wr)) (fun v u _ => (intOf v).toNat + (intOf u).toNat)
  case atStart =>
    refine ⟨m - a, b - m, d, by first | rfl | go_num, by first | rfl | go_num, by omega, by omega, by omega, by omega, rfl, ?_, S0.out⟩
    intro d' h
    rw [show m - (m - a) = a by omega, show m + (b - m) = b by omega] at h
    exact h
  case round =>
    clear S0 x1 x2
    obtain ⟨i, j, dk, rfl, rfl, hi0, hj0, him, hmj, hds, H1, S1⟩ := hrel
    by_cases heq : i = j
    · subst heq
      have hcall := swapRange_any g cb blk cap (m - i) m i d0 dk w0 wr R (by omega) S1.out (by omega) (by omega) (by omega)
      rw [hds, show ((m - i : Nat) : Int) = (m : Int) - (i : Int) by omega] at hcall
      have HC := hide hcall
      clear hcall S1
      go_wp2_with (go_at_call 176; refine HC.out.mono ?_; rintro e w1 ⟨rfl, d1, H2, S3⟩)
      go_end0
      exact ⟨rfl, d1, H1.out _ (Rotd.of_eq (by omega) H2), S3⟩
    · by_cases hlt : j < i
      · have hcall := swapRange_any g cb blk cap (m - i) m j d0 dk w0 wr R (by omega) S1.out (by omega) (by omega) (by omega)
        rw [hds, show ((m - i : Nat) : Int) = (m : Int) - (i : Int) by omega] at hcall
        have HC := hide hcall
        clear hcall S1
        go_wp2_with (go_at_call 176; refine HC.out.mono ?_; rintro e w1 ⟨rfl, d1, H2, S3⟩)
        refine ⟨⟨i - j, j, d1, by go_num, by first | rfl | go_num, by omega, by omega, by omega, by omega, ?_, ?_, S3⟩, by simp [intOf]; omega⟩
        · rw [H2.size]; exact hds
        · intro d' h
          exact H1.out _ (Rotd.of_gt (by omega) hlt (by omega) H2 h)
      · have hcall := swapRange_any g cb blk cap (m - i) (m + j - i) i d0 dk w0 wr R (by omega) S1.out (by omega) (by omega) (by omega)
        rw [hds, show ((m - i : Nat) : Int) = (m : Int) - (i : Int) by omega, show ((m + j - i : Nat) : Int) = (m : Int) + (j : Int) - (i : Int) by omega] at hcall
        have HC := hide hcall
        clear hcall S1
        go_wp2_with (go_at_call 176; refine HC.out.mono ?_; rintro e w1 ⟨rfl, d1, H2, S3⟩)
        refine ⟨⟨i, j - i, d1, by first | rfl | go_num, by go_num, by omega, by omega, by omega, by omega, ?_, ?_, S3⟩, by simp [intOf]; omega⟩
        · rw [H2.size]; exact hds
        · intro d' h
          exact H1.out _ (Rotd.of_lt (by omega) (by omega) (by omega) H2 h)
end Go.Proofs.YtfiipfcdddaceaaGreatDoor
