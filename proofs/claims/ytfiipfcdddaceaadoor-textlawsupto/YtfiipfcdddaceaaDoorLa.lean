import Derived.Test.YtfiipfcdddaceaaDoorMb
namespace Go.Proofs.YtfiipfcdddaceaaDoor
open Go.RowKit

/-- What the order's answers may be, of three atoms. -/
theorem order_facts (na nb nc : ByteArray) (n m l : Nat) (ta tb tc : Nat → Tm) :
    cmpA na nb n m ta tb = - cmpA nb na m n tb ta ∧ cmpA na na n n ta ta = 0 ∧ (-1 ≤ cmpA na nb n m ta tb ∧ cmpA na nb n m ta tb ≤ 1) ∧ (-1 ≤ cmpA nb nc m l tb tc ∧ cmpA nb nc m l tb tc ≤ 1) ∧ (-1 ≤ cmpA na nc n l ta tc ∧ cmpA na nc n l ta tc ≤ 1) ∧
      (cmpA na nb n m ta tb ≤ 0 → cmpA nb nc m l tb tc ≤ 0 → cmpA na nc n l ta tc < 0 ∨ (cmpA na nc n l ta tc = 0 ∧ cmpA na nb n m ta tb = 0 ∧ cmpA nb nc m l tb tc = 0)) := by
  simp only [cmpA_eq]
  generalize (na, tlist ta n) = a
  generalize (nb, tlist tb m) = b
  generalize (nc, tlist tc l) = c
  have h1 := cmpAt_cmp.three a b
  have h2 := cmpAt_cmp.three b c
  have h3 := cmpAt_cmp.three a c
  refine ⟨cmpAt_cmp.turn a b, cmpAt_cmp.refl a, by omega, by omega, by omega, fun k1 k2 => ?_⟩
  have z1 := cmpAt_cmp.zero a b c
  have z2 := cmpAt_cmp.zero c b a
  have l1 := cmpAt_cmp.less a b c
  have t1 := cmpAt_cmp.turn a b
  have t2 := cmpAt_cmp.turn b c
  have t3 := cmpAt_cmp.turn a c
  by_cases e1 : cmpAt a b = 0
  · have := z1 e1; omega
  · by_cases e2 : cmpAt b c = 0
    · have := z2 (by omega); omega
    · have := l1 (by omega) (by omega); omega

/-- The block b holds a name and a slice. -/
structure Has2 (b : Nat) (s : ByteArray) (v : Value) (w : World) : Prop where
  c0 : w.cell? ⟨b, 0, none⟩ = some (.string s)
  c1 : w.cell? ⟨b, 1, none⟩ = some v
  lt : b < w.heap.size
theorem Has2.below {b : Nat} {s : ByteArray} {v : Value} {w w' : World} (h : Has2 b s v w) (hb : Below w.heap.size w w') : Has2 b s v w' :=
  ⟨(hb.cell (p := ⟨b, 0, none⟩) h.lt).trans h.c0, (hb.cell (p := ⟨b, 1, none⟩) h.lt).trans h.c1, Nat.lt_of_lt_of_le h.lt hb.size⟩
theorem Has2.alloc {b : Nat} {s : ByteArray} {v : Value} {w : World} (h : Has2 b s v w) (o : Obj) : Has2 b s v (w.alloc o) := h.below ((Below.refl _ _).alloc (Nat.le_refl _) o)
theorem Has2.new {s : ByteArray} {v : Value} {w : World} : Has2 w.heap.size s v (w.alloc (.cells #[.string s, v] 27)) := ⟨by simp, by simp, by simp⟩
/-- The block b holds an atom as it came in. -/
structure Has4 (b : Nat) (s : ByteArray) (v : Value) (n : Int) (w : World) : Prop where
  c0 : w.cell? ⟨b, 0, none⟩ = some (.string s)
  c1 : w.cell? ⟨b, 1, none⟩ = some v
  c2 : w.cell? ⟨b, 2, none⟩ = some (.int .i64 n)
  lt : b < w.heap.size
theorem Has4.below {b : Nat} {s : ByteArray} {v : Value} {n : Int} {w w' : World} (h : Has4 b s v n w) (hb : Below w.heap.size w w') : Has4 b s v n w' :=
  ⟨(hb.cell (p := ⟨b, 0, none⟩) h.lt).trans h.c0, (hb.cell (p := ⟨b, 1, none⟩) h.lt).trans h.c1, (hb.cell (p := ⟨b, 2, none⟩) h.lt).trans h.c2, Nat.lt_of_lt_of_le h.lt hb.size⟩
theorem Has4.alloc {b : Nat} {s : ByteArray} {v : Value} {n : Int} {w : World} (h : Has4 b s v n w) (o : Obj) : Has4 b s v n (w.alloc o) := h.below ((Below.refl _ _).alloc (Nat.le_refl _) o)
theorem Has4.new {s : ByteArray} {v : Value} {n : Int} {w : World} (b : Nat) (hb : b = w.heap.size) : Has4 b s v n (w.alloc (.cells #[.string s, v, .int .i64 n] 24)) := by
  subst hb; exact ⟨by simp, by simp, by simp, by simp⟩

set_option maxRecDepth 100000 in
set_option maxHeartbeats 8000000 in
theorem textLaws_true (na nb nc : ByteArray) (va vb vc : Value) (n m l : Nat) (ata atb atc : Int) (ta tb tc : Nat → Tm) (w : World) (hT : Tabs w)
    (ha : IsRTerms w va n ta) (hb : IsRTerms w vb m tb) (hc : IsRTerms w vc l tc) (sa : Small na n ta) (sb : Small nb m tb) :
    Calls Tryd.prog 3 #[.agg #[.string na, va, .int .i64 ata], .agg #[.string nb, vb, .int .i64 atb], .agg #[.string nc, vc, .int .i64 atc]] w fun e w' => e = .returned (.bool true) ∧ Below w.heap.size w w' := by
  obtain ⟨f1, f2, f3, f4, f5, f6⟩ := order_facts na nb nc n m l ta tb tc
  have HA := hide ha
  have HB := hide hb
  have HC := hide hc
  have HT := hide hT
  have HS := hide (show_alike na nb n m ta tb)
  have HN := hide (fun va vb w h k => order_any na nb va vb n m ta tb w h k)
  have HM := hide (fun va vb w h k => order_any nb na va vb m n tb ta w h k)
  have HK := hide (fun va vb w h k => order_any nb nc va vb m l tb tc w h k)
  have HL := hide (fun va vb w h k => order_any na nc va vb n l ta tc w h k)
  have HX := hide (fun va vb w h k => order_any na na va vb n n ta ta w h k)
  rw [f2] at HX
  have exA : ∃ a k, va = .slice a n k := by
    obtain ⟨_, ⟨a, k, hv, h0⟩ | ⟨g, off, k, hv, _⟩⟩ := ha
    · subst h0; exact ⟨a, k, hv⟩
    · exact ⟨_, _, hv⟩
  have exB : ∃ a k, vb = .slice a m k := by
    obtain ⟨_, ⟨a, k, hv, h0⟩ | ⟨g, off, k, hv, _⟩⟩ := hb
    · subst h0; exact ⟨a, k, hv⟩
    · exact ⟨_, _, hv⟩
  have exC : ∃ a k, vc = .slice a l k := by
    obtain ⟨_, ⟨a, k, hv, h0⟩ | ⟨g, off, k, hv, _⟩⟩ := hc
    · subst h0; exact ⟨a, k, hv⟩
    · exact ⟨_, _, hv⟩
  obtain ⟨aa, ka, rfl⟩ := exA
  obtain ⟨ab, kb, rfl⟩ := exB
  obtain ⟨ac, kc, rfl⟩ := exC
  clear ha hb hc hT f2
  generalize cmpA na nb n m ta tb = qn at *
  generalize cmpA nb na m n tb ta = qm at *
  generalize cmpA nb nc m l tb tc = qk at *
  generalize cmpA na nc n l ta tc = ql at *
  obtain rfl : qm = - qn := by omega
  clear f1
  have B3 : Has4 (w.heap.size + 1) nb (.slice ab m kb) atb (((w.alloc (.cells #[.string na, .slice aa n ka, .int .i64 ata] 24)).alloc (.cells #[.string nb, .slice ab m kb, .int .i64 atb] 24)).alloc (.cells #[.string nc, .slice ac l kc, .int .i64 atc] 24)) := (Has4.new _ (by simp)).alloc _
  have C3 : Has4 (w.heap.size + 1 + 1) nc (.slice ac l kc) atc (((w.alloc (.cells #[.string na, .slice aa n ka, .int .i64 ata] 24)).alloc (.cells #[.string nb, .slice ab m kb, .int .i64 atb] 24)).alloc (.cells #[.string nc, .slice ac l kc, .int .i64 atc] 24)) := Has4.new _ (by simp)
  have HB3 := hide B3
  have HC3 := hide C3
  clear B3 C3
  go_enter Tryd.func3, Tryd.ntmps3
  go_wp2_with fail
  refine (given_any na _ n ata ta _ (HA.out.below (below3 w _ _ _))).mono ?_
  rintro x w1 ⟨vx, rfl, hx, hb⟩
  obtain ⟨xa, xc, hvx⟩ := hx.shape
  subst hvx
  have HX1 := hide hx
  have HW1 := hide ((below3 w _ _ _).trans (hb.mono (by simp; omega)))
  have HB1 := hide (HB3.out.below hb)
  have HC1 := hide (HC3.out.below hb)
  clear hx hb
  obtain ⟨b0, b1, b2, b3⟩ := HB1.out
  go_wp2_with fail
  refine (given_any nb _ m atb tb _ (HB.out.below (HW1.out.alloc HW1.out.size _))).mono ?_
  rintro x w2 ⟨vy, rfl, hy, hb⟩
  obtain ⟨ya, yc, hvy⟩ := hy.shape
  subst hvy
  have HY2 := hide hy
  have HX2 := hide ((HX1.out.below ((Below.refl _ _).alloc (Nat.le_refl _) _)).below hb)
  have HW2 := hide ((HW1.out.alloc HW1.out.size _).trans (hb.mono (by have := HW1.out.size; simp; omega)))
  have HC2 := hide ((HC1.out.alloc _).below hb)
  have X2 := hide (Has2.new.below hb)
  clear hy hb b0 b1 b2 b3
  obtain ⟨b0, b1, b2, b3⟩ := HC2.out
  obtain ⟨p0, p1, p2⟩ := X2.out
  go_wp2_with fail
  refine (given_any nc _ l atc tc _ (HC.out.below (HW2.out.alloc HW2.out.size _))).mono ?_
  rintro x w3 ⟨vz, rfl, hzz, hb⟩
  obtain ⟨za, zc, hvz⟩ := hzz.shape
  subst hvz
  have HZ3 := hide hzz
  have HY3 := hide ((HY2.out.below ((Below.refl _ _).alloc (Nat.le_refl _) _)).below hb)
  have HX3 := hide ((HX2.out.below ((Below.refl _ _).alloc (Nat.le_refl _) _)).below hb)
  have HW3 := hide ((HW2.out.alloc HW2.out.size _).trans (hb.mono (by have := HW2.out.size; simp; omega)))
  have X3 := hide ((X2.out.alloc _).below hb)
  have Y3 := hide (Has2.new.below hb)
  clear hzz hb b0 b1 b2 b3 p0 p1 p2
  obtain ⟨p0, p1, p2⟩ := X3.out
  obtain ⟨q0, q1, q2⟩ := Y3.out
  have HX4 := hide (HX3.out.below ((Below.refl _ _).alloc (Nat.le_refl _) (.cells #[.string nc, .slice za l zc] 27)))
  have HY4 := hide (HY3.out.below ((Below.refl _ _).alloc (Nat.le_refl _) (.cells #[.string nc, .slice za l zc] 27)))
  have HZ4 := hide (HZ3.out.below ((Below.refl _ _).alloc (Nat.le_refl _) (.cells #[.string nc, .slice za l zc] 27)))
  have X4 := hide (X3.out.alloc (.cells #[.string nc, .slice za l zc] 27))
  have Y4 := hide (Y3.out.alloc (.cells #[.string nc, .slice za l zc] 27))
  have HW4 := hide (HW3.out.alloc HW3.out.size (.cells #[.string nc, .slice za l zc] 27))
  have Z4 : Hid (Has2 w3.heap.size nc (.slice za l zc) (w3.alloc (.cells #[.string nc, .slice za l zc] 27))) := Has2.new
  go_wp2_with fail
  refine (HN.out _ _ _ HX4.out HY4.out).mono ?_
  rintro x w4 ⟨rfl, hb⟩
  have HX5 := hide (HX4.out.below hb)
  have HY5 := hide (HY4.out.below hb)
  have HZ5 := hide (HZ4.out.below hb)
  have X5 := hide (X4.out.below hb)
  have Y5 := hide (Y4.out.below hb)
  have Z5 := hide (Z4.out.below hb)
  have HW5 := hide (HW4.out.trans (hb.mono HW4.out.size))
  clear hb p0 p1 p2 q0 q1 q2
  obtain ⟨p0, p1, p2⟩ := X5.out
  obtain ⟨q0, q1, q2⟩ := Y5.out
  go_wp2_with fail
  refine (HM.out _ _ _ HY5.out HX5.out).mono ?_
  rintro x w5 ⟨rfl, hb⟩
  have HX6 := hide (HX5.out.below hb)
  have HY6 := hide (HY5.out.below hb)
  have HZ6 := hide (HZ5.out.below hb)
  have X6 := hide (X5.out.below hb)
  have Y6 := hide (Y5.out.below hb)
  have Z6 := hide (Z5.out.below hb)
  have HW6 := hide (HW5.out.trans (hb.mono HW5.out.size))
  clear hb p0 p1 p2 q0 q1 q2
  obtain ⟨q0, q1, q2⟩ := Y6.out
  obtain ⟨r0, r1, r2⟩ := Z6.out
  go_wp2_with fail
  refine (HK.out _ _ _ HY6.out HZ6.out).mono ?_
  rintro x w6 ⟨rfl, hb⟩
  have HX7 := hide (HX6.out.below hb)
  have HY7 := hide (HY6.out.below hb)
  have HZ7 := hide (HZ6.out.below hb)
  have X7 := hide (X6.out.below hb)
  have Y7 := hide (Y6.out.below hb)
  have Z7 := hide (Z6.out.below hb)
  have HW7 := hide (HW6.out.trans (hb.mono HW6.out.size))
  clear hb q0 q1 q2 r0 r1 r2
  obtain ⟨p0, p1, p2⟩ := X7.out
  obtain ⟨r0, r1, r2⟩ := Z7.out
  go_wp2_with fail
  refine (HL.out _ _ _ HX7.out HZ7.out).mono ?_
  rintro x w7 ⟨rfl, hb⟩
  have HX8 := hide (HX7.out.below hb)
  have HY8 := hide (HY7.out.below hb)
  have X8 := hide (X7.out.below hb)
  have Y8 := hide (Y7.out.below hb)
  have HW8 := hide (HW7.out.trans (hb.mono HW7.out.size))
  clear hb p0 p1 p2 r0 r1 r2
  clear HB3 HC3 HX1 HW1 HB1 HC1 HY2 HX2 HW2 HC2 X2 HZ3 HY3 HX3 HW3 X3 Y3 HX4 HY4 HZ4 X4 Y4 HW4 Z4 HX5 HY5 HZ5 X5 Y5 Z5 HW5 HX6 HY6 HZ6 X6 Y6 Z6 HW6 HX7 HY7 HZ7 X7 Y7 Z7 HW7 HN HM HK HL HA HB HC
  obtain ⟨p0, p1, p2⟩ := X8.out
  obtain ⟨q0, q1, q2⟩ := Y8.out
  go_wp2_with fail
  refine (HX.out _ _ _ HX8.out HX8.out).mono ?_
  rintro x w8 ⟨rfl, hb⟩
  have HX9 := hide (HX8.out.below hb)
  have HY9 := hide (HY8.out.below hb)
  have X9 := hide (X8.out.below hb)
  have Y9 := hide (Y8.out.below hb)
  have HW9 := hide (HW8.out.trans (hb.mono HW8.out.size))
  clear hb p0 p1 p2 q0 q1 q2 HX8 HY8 X8 Y8 HW8 HX
  obtain ⟨p0, p1, p2⟩ := X9.out
  obtain ⟨q0, q1, q2⟩ := Y9.out
  have HF6 := hide f6
  clear f6
  have HAL : Hid (∀ W, Below w8.heap.size w8 W → Calls Tryd.prog 7 #[] W fun e w' => e = .returned (.bool true) ∧ Below W.heap.size W w') := fun W hW => alive_true W (HT.out.below (HW9.out.trans (hW.mono HW9.out.size)))
  by_cases hq : qn = 0
  · subst hq
    have HSA := hide (HS.out rfl)
    have HSX : Hid (∀ W, Below w8.heap.size w8 W → Calls Tryd.prog 6 #[.agg #[.string na, .slice xa n xc]] W fun e w' => e = .returned (.string (showA na ta n)) ∧ Below W.heap.size W w') := fun W hW => show_any na _ n ta W (HX9.out.below hW) sa (tab_below HT.out.pow (HW9.out.trans (hW.mono HW9.out.size)))
    have HSY : Hid (∀ W, Below w8.heap.size w8 W → Calls Tryd.prog 6 #[.agg #[.string nb, .slice ya m yc]] W fun e w' => e = .returned (.string (showA na ta n)) ∧ Below W.heap.size W w') := fun W hW => by have := show_any nb _ m tb W (HY9.out.below hW) sb (tab_below HT.out.pow (HW9.out.trans (hW.mono HW9.out.size))); rw [HSA.out] at this; exact this
    generalize showA na ta n = S at *
    clear HSA HS
    by_cases hk : qk ≤ 0
    · rcases HF6.out (by omega) hk with hl | ⟨hl, _, hk0⟩
      · go_wp2_with fail
        go_region_with (first | (go_at_call_of 6 (Value.string na); refine (HSX.out _ ?_).mono ?_; (exact (Below.refl _ _).drew); rintro x wx ⟨rfl, hbx⟩; obtain ⟨y0, y1, _⟩ := (Y9.out.below (Below.refl _ _).drew).below hbx) | (go_at_call_of 6 (Value.string nb); refine (HSY.out _ ?_).mono ?_; (exact (Below.refl _ _).drew.trans hbx); rintro x wy ⟨rfl, hby⟩) | (go_at_call 7; refine (HAL.out _ ?_).mono ?_; (exact ((Below.refl _ _).drew.trans hbx).trans (hby.mono hbx.size)); rintro x wz ⟨rfl, hbz⟩))
        all_goals
          go_wp2_with fail
          go_ret
          exact ⟨rfl, HW9.out.trans ((((Below.refl _ _).drew.trans hbx).trans (hby.mono hbx.size)).trans (hbz.mono (Nat.le_trans hbx.size hby.size)) |>.mono HW9.out.size)⟩
      · subst hl
        subst hk0
        go_wp2_with fail
        go_region_with (first | (go_at_call_of 6 (Value.string na); refine (HSX.out _ ?_).mono ?_; (exact (Below.refl _ _).drew); rintro x wx ⟨rfl, hbx⟩; obtain ⟨y0, y1, _⟩ := (Y9.out.below (Below.refl _ _).drew).below hbx) | (go_at_call_of 6 (Value.string nb); refine (HSY.out _ ?_).mono ?_; (exact (Below.refl _ _).drew.trans hbx); rintro x wy ⟨rfl, hby⟩) | (go_at_call 7; refine (HAL.out _ ?_).mono ?_; (exact ((Below.refl _ _).drew.trans hbx).trans (hby.mono hbx.size)); rintro x wz ⟨rfl, hbz⟩))
        all_goals
          go_wp2_with fail
          go_ret
          exact ⟨rfl, HW9.out.trans ((((Below.refl _ _).drew.trans hbx).trans (hby.mono hbx.size)).trans (hbz.mono (Nat.le_trans hbx.size hby.size)) |>.mono HW9.out.size)⟩
    · go_wp2_with fail
      go_region_with (first | (go_at_call_of 6 (Value.string na); refine (HSX.out _ ?_).mono ?_; (exact (Below.refl _ _).drew); rintro x wx ⟨rfl, hbx⟩; obtain ⟨y0, y1, _⟩ := (Y9.out.below (Below.refl _ _).drew).below hbx) | (go_at_call_of 6 (Value.string nb); refine (HSY.out _ ?_).mono ?_; (exact (Below.refl _ _).drew.trans hbx); rintro x wy ⟨rfl, hby⟩) | (go_at_call 7; refine (HAL.out _ ?_).mono ?_; (exact ((Below.refl _ _).drew.trans hbx).trans (hby.mono hbx.size)); rintro x wz ⟨rfl, hbz⟩))
      all_goals
        go_wp2_with fail
        go_ret
        exact ⟨rfl, HW9.out.trans ((((Below.refl _ _).drew.trans hbx).trans (hby.mono hbx.size)).trans (hbz.mono (Nat.le_trans hbx.size hby.size)) |>.mono HW9.out.size)⟩
  · have hq1 : (qn != 0) = true := by simpa using hq
    clear HS
    by_cases hn : qn ≤ 0
    · by_cases hk : qk ≤ 0
      · have hl : ql < 0 := by rcases HF6.out hn hk with hl | ⟨_, h0, _⟩ <;> omega
        go_wp2_with fail
        go_region_with (go_at_call 7; refine (HAL.out _ ?_).mono ?_; (exact (Below.refl _ _).drew); rintro x wz ⟨rfl, hbz⟩)
        all_goals
          go_wp2_with fail
          go_ret
          exact ⟨rfl, HW9.out.trans (((Below.refl _ _).drew.trans hbz).mono HW9.out.size)⟩
      · go_wp2_with fail
        go_region_with (go_at_call 7; refine (HAL.out _ ?_).mono ?_; (exact (Below.refl _ _).drew); rintro x wz ⟨rfl, hbz⟩)
        all_goals
          go_wp2_with fail
          go_ret
          exact ⟨rfl, HW9.out.trans (((Below.refl _ _).drew.trans hbz).mono HW9.out.size)⟩
    · go_wp2_with fail
      go_region_with (go_at_call 7; refine (HAL.out _ ?_).mono ?_; (exact (Below.refl _ _).drew); rintro x wz ⟨rfl, hbz⟩)
      all_goals
        go_wp2_with fail
        go_ret
        exact ⟨rfl, HW9.out.trans (((Below.refl _ _).drew.trans hbz).mono HW9.out.size)⟩
end Go.Proofs.YtfiipfcdddaceaaDoor
