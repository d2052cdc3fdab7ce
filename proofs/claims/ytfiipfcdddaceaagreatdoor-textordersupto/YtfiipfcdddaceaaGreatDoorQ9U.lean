import Derived.Test.YtfiipfcdddaceaaGreatDoorQ9S
namespace Go.Proofs.YtfiipfcdddaceaaGreatDoor
open Go.RowKit

set_option maxHeartbeats 1000000 in
theorem op_no (r : Nat) (s : ByteArray) (i : Nat) (w : World) (h : Ok r s i w) (hm : mk (s.data.toList.drop i) < 2 ∨ 7 < mk (s.data.toList.drop i)) :
    Calls Tryz.prog 148 #[.pointer (some ⟨r, 0, none⟩)] w fun e w' => e = .returned (.tuple #[.string ⟨#[]⟩, .bool false]) ∧ ∃ n, w' = w.drewN n := by
  have HC := hide (mark_any r s i w h.size h.le h.rd h.mks)
  generalize mk (s.data.toList.drop i) = q at *
  rcases hm with hm | hm
  · go_enter Tryz.func148, Tryz.ntmps148
    go_wp2_with fail
    refine HC.out.mono ?_
    rintro e w1 ⟨rfl, n, hw⟩
    go_wp2_with fail
    go_ret2
    exact ⟨rfl, n, rfl⟩
  · have hm2 : ¬ q < 2 := by omega
    go_enter Tryz.func148, Tryz.ntmps148
    go_wp2_with fail
    refine HC.out.mono ?_
    rintro e w1 ⟨rfl, n, hw⟩
    go_wp2_with fail
    go_ret2
    exact ⟨rfl, n, rfl⟩

set_option maxHeartbeats 2000000 in
theorem op_yes (r : Nat) (s : ByteArray) (i m : Nat) (w : World) (h : Ok r s i w) (hm : mk (s.data.toList.drop i) = m) (h2 : 2 ≤ m) (h7 : m ≤ 7) :
    Calls Tryz.prog 148 #[.pointer (some ⟨r, 0, none⟩)] w fun e w' => e = .returned (.tuple #[.string (markB m), .bool true]) ∧ Ok r s (ps s (i + mlen m)) w' ∧ Keep r w w' := by
  have HC := hide (mark_any r s i w h.size h.le h.rd h.mks)
  have hl := mk_len s i m h.le (by omega) hm
  rw [hm] at HC
  clear hm
  go_enter Tryz.func148, Tryz.ntmps148
  go_wp2_with fail
  refine HC.out.mono ?_
  rintro e w1 ⟨rfl, n, hw⟩
  have HO : Hid (Ok r s i w1) := by rw [hw]; exact h.drewN _
  have HK : Hid (Keep r w w1) := by rw [hw]; exact (Keep.refl _ _).drewN _
  clear hw h
  have hm1 := HO.out.mks.2 m (by omega)
  have HZ : Hid ((markB m).size = mlen m) := rfl
  obtain ⟨_, c0, c1, f1⟩ := HO.out.rd
  have hs := HO.out.size
  unfold maxLen at hs
  go_upto_region 4 with fail
  go_cut [4] (fun p4 wx => p4 = .int .i64 m ∧ Ok r s (ps s (i + mlen m)) wx ∧ Keep r w wx)
  case first =>
    go_region_with (go_at_call 93; refine (pass_at r s i (i + mlen m) _ _ hl ?_ ?_).mono ?_; (rw [IntKind.wrap_i64, HZ.out]; omega); (exact HO.out.drew); rintro e w' ⟨rfl, k1, k2⟩)
    all_goals
      go_wp2_with fail
      go_meet
      case rel => exact ⟨rfl, k1, HK.out.drew.trans k2⟩
  case rest =>
    obtain ⟨rfl, k1, k2⟩ := hcut
    have hm3 := k1.mks.2 m (by omega)
    have K1 := hide k1
    have K2 := hide k2
    clear k1 k2
    go_wp2_with fail
    go_ret2
    exact ⟨rfl, K1.out, K2.out⟩
end Go.Proofs.YtfiipfcdddaceaaGreatDoor
