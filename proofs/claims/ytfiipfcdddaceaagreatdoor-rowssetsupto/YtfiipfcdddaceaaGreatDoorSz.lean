import Derived.Test.YtfiipfcdddaceaaGreatDoorSy
namespace Go.Proofs.YtfiipfcdddaceaaGreatDoor
open Go.RowKit Go.Sort Go.Shelf
variable {α : Type} [Inhabited α] {T : Two α}

set_option maxHeartbeats 4000000 in
set_option maxRecDepth 1000000 in
theorem sym_right (cf : α → α → Int) (hO : SWO (ltOf cf)) (blk cap a m b : Nat) (hm : b = m + 1) (d0 d : Array α) (w0 w : World) (hC : CmpLays Tryz.prog 22 #[] (enc2 T) 2 cf blk 0 d0.size w0) (R : RowK (enc2 T) 2 w0 blk 0 d0) (hs : d0.size = d.size)
    (S : SWK (enc2 T) 2 w0 blk 0 d w) (ham : a + 1 < m) (hb : b ≤ d.size) (hsz : d.size < 1099511627776) (hA : SortedIn (ltOf cf) a m d) :
    Calls Tryz.prog 156 #[.slice (some ⟨blk, 0, none⟩) d.size cap, .int .i64 a, .int .i64 m, .int .i64 b, .func (.func 22) #[] #[]] w fun e w' => e = .returned (.tuple #[]) ∧ ∃ d', (PermIn a b d d' ∧ SortedIn (ltOf cf) a b d') ∧ SWK (enc2 T) 2 w0 blk 0 d' w' := by
  have mixed := mixed_z
  have HM0 := hide hm
  have hbz : (b : Int) - (m : Int) = 1 := by omega
  have hmz : ((m : Int) - (a : Int) == 1) = false := by simp; omega
  have S0 := hide S
  have HA := hide hA
  have HO := hide hO
  have HC := hide hC
  have hmd : m < d.size := by omega
  clear S hA hO hC hm
  obtain ⟨xm, hxm⟩ : ∃ x, d[m]! = x := ⟨_, rfl⟩
  have XM := hide hxm
  clear hxm
  go_enter Tryz.func156, Tryz.ntmps156
  go_wp2_with fail
  go_loopw [14, 15] (fun v u wr => ∃ i j : Nat, v = .int .i64 i ∧ u = .int .i64 j ∧ a ≤ i ∧ i ≤ j ∧ j ≤ m ∧ Hid (i = a ∨ ltOf cf d[m]! d[i - 1]! = false) ∧ Hid (j = m ∨ ltOf cf d[m]! d[j]! = true) ∧ Hid (SWK (enc2 T) 2 w0 blk 0 d wr)) (fun v u _ => (intOf u).toNat - (intOf v).toNat)
  case atStart => exact ⟨a, m, rfl, rfl, Nat.le_refl _, by omega, Nat.le_refl _, Or.inl rfl, Or.inl rfl, S0.out⟩
  case round =>
    clear S0
    obtain ⟨i, j, rfl, rfl, hai, hij, hjb, H1, H2, S1⟩ := hrel
    by_cases hlt : i < j
    · obtain ⟨h, hh⟩ : ∃ h, (i + j) / 2 = h := ⟨_, rfl⟩
      have ehz : ((i : Int) + (j : Int)) / 2 = (h : Int) := by omega
      obtain ⟨xh, hxh⟩ : ∃ x, d[h]! = x := ⟨_, rfl⟩
      have XH := hide hxh
      obtain ⟨c0, c1⟩ := swk_cells S1.out R (by omega) h (by omega) xh hxh
      obtain ⟨a0, a1⟩ := swk_cells S1.out R (by omega) m (by omega) xm XM.out
      have hc := fun n os => swk_cmp S1.out HC.out (by omega) xm xh n os
      have hih : i ≤ h ∧ h < j := by omega
      have bh : (h : Int) < (d.size : Int) := by omega
      have ba : (m : Int) < (d.size : Int) := by omega
      clear hxh hh
      by_cases hlv : cf xm xh < 0
      · go_wp2_with fail
        go_quiet_grown (first | (go_at_call 22; refine Calls.grown_of (hc _ _)))
        go_wp2_with fail
        refine ⟨⟨i, h, rfl, rfl, by omega, by omega, by omega, H1, ?_, S1.out.grown nq osq⟩, by simp [intOf]; omega⟩
        refine Or.inr ?_
        rw [XH.out, XM.out]
        exact decide_eq_true hlv
      · have hnl : decide (cf xm xh < 0) = false := decide_eq_false (by omega)
        go_wp2_with fail
        go_quiet_grown (first | (go_at_call 22; refine Calls.grown_of (hc _ _)))
        go_wp2_with fail
        refine ⟨⟨h + 1, j, by go_num, rfl, by omega, by omega, by omega, ?_, H2, S1.out.grown nq osq⟩, by simp [intOf]; omega⟩
        refine Or.inr ?_
        rw [Nat.add_sub_cancel, XH.out, XM.out]
        exact decide_eq_false (by omega)
    · obtain rfl : i = j := by omega
      have HM : Hid (∀ d', Rotd i m (m + 1) d d' → PermIn a b d d' ∧ SortedIn (ltOf cf) a b d') := fun d' h => by
        have e := HM0.out
        rw [e]
        exact merge_one_right HO.out HA.out hai hjb (by omega) H1.out H2.out h
      clear HA HO HC H1 H2
      go_wp2_with fail
      go_loopw [17] (fun v wr2 => ∃ k : Nat, ∃ dk : Array α, v = .int .i64 k ∧ i ≤ k ∧ k ≤ m ∧ dk.size = d.size ∧ Hid (Rotd k m (m + 1) d dk) ∧ Hid (SWK (enc2 T) 2 w0 blk 0 dk wr2)) (fun v _ => (intOf v).toNat)
      case atStart => exact ⟨m, d, rfl, by omega, Nat.le_refl _, rfl, Rotd.left m (m + 1) d, S1.out⟩
      case round =>
        clear S1
        obtain ⟨k, dk, rfl, hak, hki, hds, H3, S1⟩ := hrel
        by_cases hlt2 : i < k
        · obtain ⟨kp, rfl⟩ : ∃ kp, k = kp + 1 := ⟨k - 1, by omega⟩
          obtain ⟨x0, x1, xf0, xf1⟩ := swk_two S1.out R (by omega) (kp + 1) (by omega)
          obtain ⟨y0, y1, yf0, yf1⟩ := swk_two S1.out R (by omega) kp (by omega)
          have S2 : Hid (SWK (enc2 T) 2 w0 blk 0 (swp dk (kp + 1) kp) ((wr.drew.setCells blk (0 + (kp + 1) * 2) (enc2 T dk[kp]!)).setCells blk (0 + kp * 2) (enc2 T dk[kp + 1]!))) := S1.out.swapped R (kp + 1) kp (by omega) (by omega)
          have e0 : ((kp : Int) + 1).toNat = kp + 1 := by omega
          have jz : (kp : Int) + 1 < (d.size : Int) := by omega
          have jz1 : (kp : Int) < (d.size : Int) := by omega
          clear S1
          go_wp2_with fail
          go_big_region
          clear x0 x1 xf0 xf1 y0 y1 yf0 yf1
          go_wp2_with fail
          refine ⟨⟨kp, swp dk (kp + 1) kp, by go_num, by omega, by omega, by rw [size_swp]; exact hds, H3.out.down (by omega) hmd, ?_⟩, by simp [intOf]⟩
          have h := S2.out
          simp only [World.setCells, enc2, Nat.zero_add] at h
          exact h
        · obtain rfl : i = k := by omega
          go_wp2_with fail
          refine bodyPost_ret (v := .tuple #[]) (by simp [results, go_sem]) rfl ?_
          exact ⟨rfl, dk, HM.out _ H3.out, S1.out⟩
end Go.Proofs.YtfiipfcdddaceaaGreatDoor
