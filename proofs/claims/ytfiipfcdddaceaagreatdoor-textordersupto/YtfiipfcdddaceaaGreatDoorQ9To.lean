import Derived.Test.YtfiipfcdddaceaaGreatDoorQ9Rf
import Derived.Test.YtfiipfcdddaceaaGreatDoorQ9Hs
namespace Go.Proofs.YtfiipfcdddaceaaGreatDoor
open Go.RowKit

set_option maxRecDepth 100000 in
set_option maxHeartbeats 8000000 in
theorem textOrders_true (na nb : ByteArray) (va vb : Value) (n m : Nat) (ata atb : Int) (ta tb : Nat → Tm) (qa qb : Nat → Int) (w : World) (hT : Tabs w)
    (ha : IsR4 w va n ta qa) (hb : IsR4 w vb m tb qb) (sa : Small na n ta) :
    Calls Tryz.prog 5 #[.agg #[.string na, va, .int .i64 ata], .agg #[.string nb, vb, .int .i64 atb]] w fun e w' => e = .returned (.bool true) ∧ Below w.heap.size w w' := by
  have HA := hide ha
  have HB := hide hb
  have HT := hide hT
  have HN := hide (fun va vb w h k => order_any na nb va vb n m ta tb w h k)
  have hn := ha.1
  obtain ⟨aa, ka, rfl⟩ := ha.shape
  obtain ⟨ab, kb, rfl⟩ := hb.shape
  have HR : Hid (∀ W, Below w.heap.size w W → Calls Tryz.prog 23 #[.agg #[.string na, .slice aa n ka, .int .i64 ata], .agg #[.string nb, .slice ab m kb, .int .i64 atb]] W fun e w' => e = .returned (.int .i64 (cmpA na nb n m ta tb)) ∧ Below W.heap.size W w') :=
    fun W hW => rorder_any na nb aa ab n m ka kb ata atb ta tb qa qb W hn sa.name (fun j hj => (sa.terms j hj).2.2) (HA.out.below hW).some (HB.out.below hW).some
  have HZ : Hid (∀ W, Below w.heap.size w W → Calls Tryz.prog 25 #[.agg #[.string na, .slice aa n ka, .int .i64 ata]] W fun e w' => e = .returned (.string (showA na ta n)) ∧ Below W.heap.size W w') :=
    fun W hW => rshow_any na aa n ka ata ta qa W hn sa (HA.out.below hW).some (tab_below HT.out.pow hW)
  clear ha hb hT hn
  have A2 : Has4 w.heap.size na (.slice aa n ka) ata ((w.alloc (.cells #[.string na, .slice aa n ka, .int .i64 ata] 44)).alloc (.cells #[.string nb, .slice ab m kb, .int .i64 atb] 44)) := (Has4.new _ (by simp)).alloc _
  have B2 : Has4 (w.heap.size + 1) nb (.slice ab m kb) atb ((w.alloc (.cells #[.string na, .slice aa n ka, .int .i64 ata] 44)).alloc (.cells #[.string nb, .slice ab m kb, .int .i64 atb] 44)) := Has4.new _ (by simp)
  have HA2 := hide A2
  have HB2 := hide B2
  clear A2 B2
  generalize cmpA na nb n m ta tb = q at *
  go_enter Tryz.func5, Tryz.ntmps5
  go_wp2_with fail
  refine (given_any na _ n ata ta _ (HA.out.plain.below (two_alloc w _ _))).mono ?_
  rintro x w1 ⟨vx, rfl, hx, hb⟩
  obtain ⟨xa, xc, hvx⟩ := hx.shape
  subst hvx
  have HX1 := hide hx
  have HW1 := hide ((two_alloc w _ _).trans (hb.mono (by simp; omega)))
  have HA1 := hide (HA2.out.below hb)
  have HB1 := hide (HB2.out.below hb)
  clear hx hb
  obtain ⟨b0, b1, b2, b3⟩ := HB1.out
  go_wp2_with fail
  refine (given_any nb _ m atb tb _ (HB.out.plain.below (HW1.out.alloc HW1.out.size _))).mono ?_
  rintro x w2 ⟨vy, rfl, hy, hb⟩
  obtain ⟨ya, yc, hvy⟩ := hy.shape
  subst hvy
  have HY2 := hide hy
  have HX2 := hide ((HX1.out.below ((Below.refl _ _).alloc (Nat.le_refl _) _)).below hb)
  have HW2 := hide ((HW1.out.alloc HW1.out.size _).trans (hb.mono (by have := HW1.out.size; simp; omega)))
  have HA3 := hide ((HA1.out.alloc _).below hb)
  have HB3 := hide ((HB1.out.alloc _).below hb)
  have X2 := hide (Has2.new.below hb)
  clear hy hb b0 b1 b2 b3
  obtain ⟨p0, p1, p2⟩ := X2.out
  have HX4 := hide (HX2.out.below ((Below.refl _ _).alloc (Nat.le_refl _) (.cells #[.string nb, .slice ya m yc] 47)))
  have HY4 := hide (HY2.out.below ((Below.refl _ _).alloc (Nat.le_refl _) (.cells #[.string nb, .slice ya m yc] 47)))
  have X4 := hide (X2.out.alloc (.cells #[.string nb, .slice ya m yc] 47))
  have HA4 := hide (HA3.out.alloc (.cells #[.string nb, .slice ya m yc] 47))
  have HB4 := hide (HB3.out.alloc (.cells #[.string nb, .slice ya m yc] 47))
  have HW4 := hide (HW2.out.alloc HW2.out.size (.cells #[.string nb, .slice ya m yc] 47))
  go_wp2_with fail
  refine (HN.out _ _ _ HX4.out HY4.out).mono ?_
  rintro x w4 ⟨rfl, hb⟩
  have HX5 := hide (HX4.out.below hb)
  have X5 := hide (X4.out.below hb)
  have HA5 := hide (HA4.out.below hb)
  have HB5 := hide (HB4.out.below hb)
  have HW5 := hide (HW4.out.trans (hb.mono HW4.out.size))
  clear hb p0 p1 p2 HX4 HY4 X4 HA4 HB4 HW4 HX2 HY2 X2 HA3 HB3 HW2 HX1 HW1 HA1 HB1 HA2 HB2 HN
  have HAL : Hid (∀ W, Below w4.heap.size w4 W → Calls Tryz.prog 18 #[] W fun e w' => e = .returned (.bool true) ∧ Below W.heap.size W w') := fun W hW => alive_true W (HT.out.below (HW5.out.trans (hW.mono HW5.out.size)))
  have HSX : Hid (∀ W, Below w4.heap.size w4 W → Calls Tryz.prog 24 #[.agg #[.string na, .slice xa n xc]] W fun e w' => e = .returned (.string (showA na ta n)) ∧ Below W.heap.size W w') := fun W hW => show_any na _ n ta W (HX5.out.below hW) sa (tab_below HT.out.pow (HW5.out.trans (hW.mono HW5.out.size)))
  have HRX : Hid (∀ W, Below w4.heap.size w4 W → Calls Tryz.prog 23 #[.agg #[.string na, .slice aa n ka, .int .i64 ata], .agg #[.string nb, .slice ab m kb, .int .i64 atb]] W fun e w' => e = .returned (.int .i64 q) ∧ Below W.heap.size W w') := fun W hW => HR.out W (HW5.out.trans (hW.mono HW5.out.size))
  have HZX : Hid (∀ W, Below w4.heap.size w4 W → Calls Tryz.prog 25 #[.agg #[.string na, .slice aa n ka, .int .i64 ata]] W fun e w' => e = .returned (.string (showA na ta n)) ∧ Below W.heap.size W w') := fun W hW => HZ.out W (HW5.out.trans (hW.mono HW5.out.size))
  clear HR HZ HX5 HA HB HT
  generalize showA na ta n = S at *
  obtain ⟨a0, a1, a2, a3⟩ := HA5.out
  obtain ⟨b0, b1, b2, b3⟩ := HB5.out
  obtain ⟨p0, p1, p2⟩ := X5.out
  go_wp2_with fail
  go_region_with (first
    | (go_at_call 23; refine (HRX.out _ ?_).mono ?_; (exact (Below.refl _ _).drew); rintro x wx ⟨rfl, hbx⟩; obtain ⟨c0, c1, c2, _⟩ := (HA5.out.below (Below.refl _ _).drew).below hbx; obtain ⟨e0, e1, _⟩ := (X5.out.below (Below.refl _ _).drew).below hbx)
    | (go_at_call 24; refine (HSX.out _ ?_).mono ?_; (exact (Below.refl _ _).drew.trans hbx); rintro x wy ⟨rfl, hby⟩; obtain ⟨d0, d1, d2, _⟩ := ((HA5.out.below (Below.refl _ _).drew).below hbx).below hby)
    | (go_at_call 25; refine (HZX.out _ ?_).mono ?_; (exact ((Below.refl _ _).drew.trans hbx).trans (hby.mono hbx.size)); rintro x wz ⟨rfl, hbz⟩)
    | (go_at_call 18; refine (HAL.out _ ?_).mono ?_; (exact (((Below.refl _ _).drew.trans hbx).trans (hby.mono hbx.size)).trans (hbz.mono (Nat.le_trans hbx.size hby.size))); rintro x wu ⟨rfl, hbu⟩))
  all_goals
    go_wp2_with fail
    go_ret
    exact ⟨rfl, HW5.out.trans (((((Below.refl _ _).drew.trans hbx).trans (hby.mono hbx.size)).trans (hbz.mono (Nat.le_trans hbx.size hby.size))).trans (hbu.mono (Nat.le_trans hbx.size (Nat.le_trans hby.size hbz.size))) |>.mono HW5.out.size)⟩
end Go.Proofs.YtfiipfcdddaceaaGreatDoor
