import Derived.Test.YtfiipfcdddaceaaGreatDoorOr
namespace Go.Proofs.YtfiipfcdddaceaaGreatDoor
open Go.RowKit

theorem cmpI_eq (n m : Int) (h : Lib.compareInt n m = 0) : n = m := by
  unfold Lib.compareInt at h
  split at h
  · simp at h
  · split at h
    · simp at h
    · omega

set_option maxRecDepth 100000 in
set_option maxHeartbeats 8000000 in
theorem order_loop (na nb : ByteArray) (n ca cb ga gb : Nat) (ta tb : Nat → Tm) (w : World) (hn : n ≤ 1099511627776) (h0 : ¬ n = 0) (hga : ga < w.heap.size) (hgb : gb < w.heap.size) (hca : n ≤ ca) (hcb : n ≤ cb) (hta : Terms w ga n ta) (htb : Terms w gb n tb)
    (HS : Calls Tryz.prog 67 #[.string na, .string nb] ((w.alloc (.cells #[.string na, .slice (some ⟨ga, 0, none⟩) n ca] 47)).alloc (.cells #[.string nb, .slice (some ⟨gb, 0, none⟩) n cb] 47)) fun e w' => e = .returned (.int .i64 0) ∧ w' = ((w.alloc (.cells #[.string na, .slice (some ⟨ga, 0, none⟩) n ca] 47)).alloc (.cells #[.string nb, .slice (some ⟨gb, 0, none⟩) n cb] 47)))
    (HI : ∀ w, Calls Tryz.prog 68 #[.int .i64 n, .int .i64 n] w fun e w' => e = .returned (.int .i64 0) ∧ w' = w) :
    Calls Tryz.prog 22 #[.agg #[.string na, .slice (some ⟨ga, 0, none⟩) n ca], .agg #[.string nb, .slice (some ⟨gb, 0, none⟩) n cb]] w fun e w' => e = .returned (.int .i64 (cmpTs ta tb n)) ∧ Gr w w' := by
  have HS0 := hide HS
  have HI0 := hide HI
  have HA := hide hta
  have HB := hide htb
  have HT := hide (fun a b w => cmpT_any a b w)
  clear HS HI hta htb
  go_enter Tryz.func22, Tryz.ntmps22
  go_wp2_with fail
  refine HS0.out.mono ?_
  rintro x w1 ⟨rfl, rfl⟩
  go_wp2_with fail
  refine (HI0.out _).mono ?_
  rintro x w1 ⟨rfl, rfl⟩
  go_wp2_with fail
  go_loopw [31] (fun i wr => ∃ k : Nat, k ≤ n ∧ i = .int .i64 k ∧ (∀ j, j < k → cmpT (ta j) (tb j) = 0) ∧ Gr ((w.alloc (.cells #[.string na, .slice (some ⟨ga, 0, none⟩) n ca] 47)).alloc (.cells #[.string nb, .slice (some ⟨gb, 0, none⟩) n cb] 47)) wr) (fun i _ => n - (intOf i).toNat)
  case atStart => exact ⟨0, by omega, rfl, fun j hj => by omega, Gr.refl _⟩
  case round =>
    obtain ⟨k, hk, rfl, hall, hgw⟩ := hrel
    have hbw := hgw.below
    simp only [World.size_alloc] at hbw
    have hz := hbw.size
    simp at hz
    have b1 : wr.cell? ⟨w.heap.size + 1, 1, none⟩ = some (.slice (some ⟨gb, 0, none⟩) n cb) := (hbw.cell (p := ⟨w.heap.size + 1, 1, none⟩) (by show w.heap.size + 1 < _; omega)).trans (by simp)
    have hzz : w.heap.size + 1 < wr.heap.size := by omega
    have HW := hide hgw
    have HA2 := hide hall
    have HW0 : Hid (Below w.heap.size w wr) := ((two_gr w _ _).trans hgw).below
    clear hbw hgw hall
    by_cases hlt : k < n
    · obtain ⟨c0, c1, c2⟩ := HA.out k hlt
      obtain ⟨f0, f1, f2⟩ := HB.out k hlt
      have d0 : wr.cell? ⟨ga, k * 3, none⟩ = some (.int .i64 (ta k).kind) := by rw [Nat.mul_comm]; exact (HW0.out.cell (p := ⟨ga, 3 * k, none⟩) hga).trans c0
      have d1 : wr.cell? ⟨ga, k * 3 + 1, none⟩ = some (.int .i64 (ta k).num) := by rw [Nat.mul_comm]; exact (HW0.out.cell (p := ⟨ga, 3 * k + 1, none⟩) hga).trans c1
      have d2 : wr.cell? ⟨ga, k * 3 + 2, none⟩ = some (.string (ta k).text) := by rw [Nat.mul_comm]; exact (HW0.out.cell (p := ⟨ga, 3 * k + 2, none⟩) hga).trans c2
      have e0 : wr.cell? ⟨gb, k * 3, none⟩ = some (.int .i64 (tb k).kind) := by rw [Nat.mul_comm]; exact (HW0.out.cell (p := ⟨gb, 3 * k, none⟩) hgb).trans f0
      have e1 : wr.cell? ⟨gb, k * 3 + 1, none⟩ = some (.int .i64 (tb k).num) := by rw [Nat.mul_comm]; exact (HW0.out.cell (p := ⟨gb, 3 * k + 1, none⟩) hgb).trans f1
      have e2 : wr.cell? ⟨gb, k * 3 + 2, none⟩ = some (.string (tb k).text) := by rw [Nat.mul_comm]; exact (HW0.out.cell (p := ⟨gb, 3 * k + 2, none⟩) hgb).trans f2
      clear c0 c1 c2 f0 f1 f2
      have hgbw : gb < wr.heap.size := by omega
      have hgaw : ga < wr.heap.size := by omega
      have HK : Hid (∀ w, Calls Tryz.prog 69 #[.agg #[.int .i64 (ta k).kind, .int .i64 (ta k).num, .string (ta k).text], .agg #[.int .i64 (tb k).kind, .int .i64 (tb k).num, .string (tb k).text]] w fun e w' => e = .returned (.int .i64 (cmpT (ta k) (tb k))) ∧ Gr w w') := fun w => cmpT_any (ta k) (tb k) w
      go_upto_region 10 with fail
      go_cut [9, 31] (fun p9 p31 wx => p31 = .int .i64 k ∧ p9 = .int .i64 (cmpT (ta k) (tb k)) ∧ Gr ((w.alloc (.cells #[.string na, .slice (some ⟨ga, 0, none⟩) n ca] 47)).alloc (.cells #[.string nb, .slice (some ⟨gb, 0, none⟩) n cb] 47)) wx)
      case first =>
        go_region_with (go_at_call 69; refine (HK.out _).mono ?_; rintro x w2 ⟨rfl, hb2⟩)
        all_goals
          go_wp2_with fail
          go_meet
          case rel => exact ⟨rfl, rfl, (HW.out.alloc _).drew.trans hb2⟩
      case rest =>
        obtain ⟨rfl, rfl, hbx⟩ := hcut
        have HX := hide hbx
        clear hbx
        cases hq : (cmpT (ta k) (tb k) != 0)
        · have hq0 : cmpT (ta k) (tb k) = 0 := by simpa using hq
          have HQ := hide hq0
          clear hq0
          go_wp2_with fail
          refine ⟨⟨k + 1, by omega, by go_num, fun j hj => ?_, HX.out⟩, by simp [intOf]; omega⟩
          by_cases hjk : j < k
          · exact HA2.out j hjk
          · obtain rfl : j = k := by omega
            exact HQ.out
        · have HF : Hid (cmpTs ta tb n = cmpT (ta k) (tb k)) := by
            show cmpTs ta tb n = cmpT (ta k) (tb k)
            have hl : ((List.range n).map fun j => cmpT (ta j) (tb j)).length = n := by simp
            have hn0 : cmpT (ta k) (tb k) ≠ 0 := by simpa using hq
            unfold cmpTs
            rw [firstN_at _ k (by omega) (fun j hj => by simp; exact HA2.out j hj) (by simpa using hn0)]
            simp
          go_wp2_with fail
          go_ret
          exact ⟨by rw [HF.out]; rfl, (two_gr w _ _).trans HX.out⟩
    · obtain rfl : k = n := by omega
      have HF : Hid (cmpTs ta tb k = 0) := by
        show cmpTs ta tb k = 0
        unfold cmpTs
        refine firstN_zero _ fun x hx => ?_
        simp at hx
        obtain ⟨j, hj, rfl⟩ := hx
        exact HA2.out j hj
      go_wp2_with fail
      go_ret
      exact ⟨by rw [HF.out]; rfl, (two_gr w _ _).trans HW.out⟩

set_option maxRecDepth 100000 in
set_option maxHeartbeats 4000000 in
theorem order_gr (na nb : ByteArray) (va vb : Value) (n m : Nat) (ta tb : Nat → Tm) (w : World) (ha : IsTerms w va n ta) (hb : IsTerms w vb m tb) :
    Calls Tryz.prog 22 #[.agg #[.string na, va], .agg #[.string nb, vb]] w fun e w' => e = .returned (.int .i64 (cmpA na nb n m ta tb)) ∧ Gr w w' := by
  obtain ⟨aa, ca, hva⟩ := ha.shape
  obtain ⟨ab, cb, hvb⟩ := hb.shape
  subst hva hvb
  have HI := hide (fun x y w => cmpI_any x y w)
  have HS := hide (cmpS_any na nb ((w.alloc (.cells #[.string na, .slice aa n ca] 47)).alloc (.cells #[.string nb, .slice ab m cb] 47)))
  cases h1 : (cmpS na nb != 0)
  · have e1 : cmpS na nb = 0 := by simpa using h1
    rw [e1] at HS
    cases h2 : (Lib.compareInt n m != 0)
    · have e2 : Lib.compareInt n m = 0 := by simpa using h2
      have e3 := cmpI_eq _ _ e2
      obtain rfl : n = m := by omega
      have e : cmpA na nb n n ta tb = cmpTs ta tb n := by simp [cmpA, e1, e2]
      rw [e]
      have HI0 : Hid (∀ w, Calls Tryz.prog 68 #[.int .i64 n, .int .i64 n] w fun e w' => e = .returned (.int .i64 0) ∧ w' = w) := fun w => by have := HI.out n n w; rw [e2] at this; exact this
      clear h1 h2 e1 e2 e3 e HI
      by_cases h0 : n = 0
      · subst h0
        have ez : cmpTs ta tb 0 = 0 := rfl
        rw [ez]
        clear ha hb
        go_enter Tryz.func22, Tryz.ntmps22
        go_wp2_with fail
        refine HS.out.mono ?_
        rintro x w1 ⟨rfl, rfl⟩
        go_wp2_with fail
        refine (HI0.out _).mono ?_
        rintro x w1 ⟨rfl, rfl⟩
        go_wp2_with fail
        go_loop [31] (fun i => i = .int .i64 0) (fun _ => 0)
        case atStart => rfl
        case round =>
          subst hrel
          go_wp2_with fail
          go_ret
          exact ⟨rfl, two_gr _ _ _⟩
      · obtain ⟨hn, ⟨_, _, _, hz⟩ | ⟨ga, c1, e1, hga, hca, hta⟩⟩ := ha
        · exact absurd hz h0
        obtain ⟨_, ⟨_, _, _, hz⟩ | ⟨gb, c2, e2, hgb, hcb, htb⟩⟩ := hb
        · exact absurd hz h0
        simp only [Value.slice.injEq] at e1 e2
        obtain ⟨rfl, _, rfl⟩ := e1
        obtain ⟨rfl, _, rfl⟩ := e2
        exact order_loop na nb n ca cb ga gb ta tb w hn h0 hga hgb hca hcb hta htb HS.out HI0.out
    · have e : cmpA na nb n m ta tb = Lib.compareInt n m := by
        have e2 : ¬ Lib.compareInt n m = 0 := by simpa using h2
        simp [cmpA, e1, e2]
      rw [e]
      have HQ := hide (fun w => HI.out n m w)
      generalize Lib.compareInt n m = q at *
      clear HI e e1 h1
      go_enter Tryz.func22, Tryz.ntmps22
      go_wp2_with fail
      refine HS.out.mono ?_
      rintro x w1 ⟨rfl, rfl⟩
      go_wp2_with fail
      refine (HQ.out _).mono ?_
      rintro x w1 ⟨rfl, rfl⟩
      go_wp2_with fail
      go_ret
      exact ⟨rfl, two_gr _ _ _⟩
  · have e : cmpA na nb n m ta tb = cmpS na nb := by
      have e1 : ¬ cmpS na nb = 0 := by simpa using h1
      simp [cmpA, e1]
    rw [e]
    go_enter Tryz.func22, Tryz.ntmps22
    go_wp2_with fail
    refine HS.out.mono ?_
    rintro x w1 ⟨rfl, rfl⟩
    go_wp2_with fail
    go_ret
    exact ⟨rfl, two_gr _ _ _⟩
theorem order_any (na nb : ByteArray) (va vb : Value) (n m : Nat) (ta tb : Nat → Tm) (w : World) (ha : IsTerms w va n ta) (hb : IsTerms w vb m tb) :
    Calls Tryz.prog 22 #[.agg #[.string na, va], .agg #[.string nb, vb]] w fun e w' => e = .returned (.int .i64 (cmpA na nb n m ta tb)) ∧ Below w.heap.size w w' :=
  (order_gr na nb va vb n m ta tb w ha hb).mono fun _ _ h => ⟨h.1, h.2.below⟩
end Go.Proofs.YtfiipfcdddaceaaGreatDoor
