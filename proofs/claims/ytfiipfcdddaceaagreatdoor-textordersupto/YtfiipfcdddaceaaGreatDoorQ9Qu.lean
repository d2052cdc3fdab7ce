import Derived.Test.YtfiipfcdddaceaaGreatDoorQ9Bv
namespace Go.Proofs.YtfiipfcdddaceaaGreatDoor
open Go.RowKit

def qb (c : UInt8) : List UInt8 := if c = 34 ∨ c = 92 then [92, c] else if c = 10 then [92, 110] else [c]
def quoteL (l : List UInt8) : List UInt8 := 34 :: (l.flatMap qb ++ [34])

theorem qb_le (c : UInt8) : (qb c).length ≤ 2 := by unfold qb; split <;> (try split) <;> simp
theorem flat_le (l : List UInt8) : (l.flatMap qb).length ≤ 2 * l.length := by
  induction l with
  | nil => simp
  | cons c l ih => have := qb_le c; simp only [List.flatMap_cons, List.length_append, List.length_cons]; omega
theorem flat_snoc (s : ByteArray) (k : Nat) (h : k < s.size) : (s.data.toList.take (k + 1)).flatMap qb = (s.data.toList.take k).flatMap qb ++ qb s[k] := by
  rw [List.take_succ_eq_append_getElem (by simpa using h), List.flatMap_append]
  simp
  rfl

theorem Bd.step {B b : Nat} {l : List UInt8} {v : Value} {w w' : World} {w0 : World} (h : Bd B b l v w) (hf : Fr b v w w') (h0 : Below B w0 w) (hB : B ≤ w0.heap.size) : Below B w0 w' :=
  h0.trans (hf.below h.hB (fun k hk => own_lt h.row k hk) (Nat.le_trans hB h0.size))

theorem byte_is (c : UInt8) (n : Nat) (hn : n < 256) : ((c.toNat : Int) == (n : Int)) = true ↔ c = UInt8.ofNat n := by
  simp only [beq_iff_eq]
  constructor
  · intro h
    have h' : c.toNat = n := by omega
    rw [← h']; simp
  · intro h
    subst h
    simp
    omega
theorem qb_two (c : UInt8) (h : ((c.toNat : Int) == 34) = true ∨ ((c.toNat : Int) == 92) = true) : qb c = [92, c] := by
  unfold qb
  rw [if_pos]
  rcases h with h | h
  · exact .inl ((byte_is c 34 (by omega)).1 h)
  · exact .inr ((byte_is c 92 (by omega)).1 h)
theorem qb_nl (c : UInt8) (h : ((c.toNat : Int) == 10) = true) : qb c = [92, 110] := by
  have e : c = 10 := (byte_is c 10 (by omega)).1 h
  subst e
  rfl
theorem qb_one (c : UInt8) (h1 : ((c.toNat : Int) == 34) = false) (h2 : ((c.toNat : Int) == 92) = false) (h3 : ((c.toNat : Int) == 10) = false) : qb c = [c] := by
  have e1 : ¬ c = 34 := fun e => by subst e; simp at h1
  have e2 : ¬ c = 92 := fun e => by subst e; simp at h2
  have e3 : ¬ c = 10 := fun e => by subst e; simp at h3
  simp [qb, e1, e2, e3]

set_option maxHeartbeats 2000000 in
theorem quote_any (s : ByteArray) (w : World) (hs : s.size ≤ 1099511627776) :
    Calls Tryz.prog 112 #[.string s] w fun e w' => e = .returned (.string ⟨(quoteL s.data.toList).toArray⟩) ∧ Below w.heap.size w w' := by
  have hsl : s.data.toList.length = s.size := by simp
  go_enter Tryz.func112, Tryz.ntmps112
  go_wp2_with fail
  refine (writeByte w.heap.size w.heap.size [] (.slice none 0 0) 34 _ _ Bd.new (by simp) (by simp) rfl).mono ?_
  rintro x w1 ⟨rfl, v1, hb1, hf1⟩
  have HB1 := hide hb1
  have HW1 : Hid (Below w.heap.size w w1) := Bd.new.step hf1 ((Below.refl _ _).alloc (Nat.le_refl _) _) (Nat.le_refl _)
  clear hb1 hf1
  go_wp2_with fail
  go_loopw [9] (fun i wr => ∃ (k : Nat) (v : Value), k ≤ s.size ∧ i = .int .i64 k ∧ Bd w.heap.size w.heap.size (34 :: (s.data.toList.take k).flatMap qb) v wr ∧ Below w.heap.size w wr) (fun i _ => s.size - (intOf i).toNat)
  case atStart => exact ⟨0, v1, by omega, rfl, HB1.out, HW1.out⟩
  case round =>
    obtain ⟨k, v, hk, rfl, hbd, hbw⟩ := hrel
    have HB := hide hbd
    have HW := hide hbw
    have hfl := flat_le (s.data.toList.take k)
    have htl : (s.data.toList.take k).length ≤ s.size := by rw [← hsl]; exact (List.take_sublist _ _).length_le
    have hz := hbw.size
    clear hbd hbw
    by_cases hlt : k < s.size
    · have HS := hide (flat_snoc s k hlt)
      cases h1 : ((s[k].toNat : Int) == 34)
      · cases h2 : ((s[k].toNat : Int) == 92)
        · cases h3 : ((s[k].toNat : Int) == 10)
          · go_wp2_with fail
            refine (writeByte w.heap.size w.heap.size _ v s[k] _ _ HB.out (by simp only [List.length_cons]; omega) hz rfl).mono ?_
            rintro x w2 ⟨rfl, v2, hb2, hf2⟩
            have HB2 := hide hb2
            have HW2 := hide (HB.out.step hf2 HW.out (Nat.le_refl _))
            clear hb2 hf2
            go_wp2_with fail
            refine ⟨⟨k + 1, v2, by omega, by go_num, ?_, HW2.out⟩, by simp [intOf]; omega⟩
            rw [HS.out, qb_one s[k] h1 h2 h3]
            exact HB2.out
          · go_wp2_with fail
            refine (writeString w.heap.size w.heap.size _ v ⟨#[92, 110]⟩ _ HB.out (by rw [show (ByteArray.mk #[92, 110]).size = 2 from rfl]; simp only [List.length_cons]; omega) hz).mono ?_
            rintro x w2 ⟨rfl, v2, hb2, hf2⟩
            have HB2 := hide hb2
            have HW2 := hide (HB.out.step hf2 HW.out (Nat.le_refl _))
            clear hb2 hf2
            go_wp2_with fail
            refine ⟨⟨k + 1, v2, by omega, by go_num, ?_, HW2.out⟩, by simp [intOf]; omega⟩
            rw [HS.out, qb_nl s[k] h3]
            exact HB2.out
        · go_wp2_with fail
          refine (writeByte w.heap.size w.heap.size _ v 92 _ _ HB.out (by simp only [List.length_cons]; omega) hz rfl).mono ?_
          rintro x w2 ⟨rfl, v2, hb2, hf2⟩
          have HB2 := hide hb2
          have HW2 := hide (HB.out.step hf2 HW.out (Nat.le_refl _))
          have hz2 := HW2.out.size
          clear hb2 hf2
          go_wp2_with fail
          refine (writeByte w.heap.size w.heap.size _ v2 s[k] _ _ HB2.out (by simp only [List.length_cons, List.length_append, List.length_nil]; omega) hz2 rfl).mono ?_
          rintro x w3 ⟨rfl, v3, hb3, hf3⟩
          have HB3 := hide hb3
          have HW3 := hide (HB2.out.step hf3 HW2.out (Nat.le_refl _))
          clear hb3 hf3
          go_wp2_with fail
          refine ⟨⟨k + 1, v3, by omega, by go_num, ?_, HW3.out⟩, by simp [intOf]; omega⟩
          rw [HS.out, qb_two s[k] (.inr h2)]
          have := HB3.out
          rw [List.append_assoc] at this
          exact this
      · go_wp2_with fail
        refine (writeByte w.heap.size w.heap.size _ v 92 _ _ HB.out (by simp only [List.length_cons]; omega) hz rfl).mono ?_
        rintro x w2 ⟨rfl, v2, hb2, hf2⟩
        have HB2 := hide hb2
        have HW2 := hide (HB.out.step hf2 HW.out (Nat.le_refl _))
        have hz2 := HW2.out.size
        clear hb2 hf2
        go_wp2_with fail
        refine (writeByte w.heap.size w.heap.size _ v2 s[k] _ _ HB2.out (by simp only [List.length_cons, List.length_append, List.length_nil]; omega) hz2 rfl).mono ?_
        rintro x w3 ⟨rfl, v3, hb3, hf3⟩
        have HB3 := hide hb3
        have HW3 := hide (HB2.out.step hf3 HW2.out (Nat.le_refl _))
        clear hb3 hf3
        go_wp2_with fail
        refine ⟨⟨k + 1, v3, by omega, by go_num, ?_, HW3.out⟩, by simp [intOf]; omega⟩
        rw [HS.out, qb_two s[k] (.inl h1)]
        have := HB3.out
        rw [List.append_assoc] at this
        exact this
    · obtain rfl : k = s.size := by omega
      have et : s.data.toList.take s.size = s.data.toList := by rw [← hsl]; exact List.take_length
      have HB0 : Hid (Bd w.heap.size w.heap.size (34 :: s.data.toList.flatMap qb) v wr) := by have := HB.out; rw [et] at this; exact this
      have hfl2 := flat_le s.data.toList
      go_wp2_with fail
      refine (writeByte w.heap.size w.heap.size _ v 34 _ _ HB0.out (by simp only [List.length_cons]; omega) hz rfl).mono ?_
      rintro x w2 ⟨rfl, v2, hb2, hf2⟩
      have HB2 := hide hb2
      have HW2 := hide (HB0.out.step hf2 HW.out (Nat.le_refl _))
      have hz2 := HW2.out.size
      clear hb2 hf2
      go_wp2_with fail
      refine (Tryz.Builder_String_any w.heap.size w.heap.size _ _ HB2.out.is hz2).mono ?_
      rintro x w3 ⟨rfl, hb3⟩
      have HB3 := hide hb3
      clear hb3
      go_wp2_with fail
      go_ret
      exact ⟨rfl, HW2.out.trans HB3.out⟩
end Go.Proofs.YtfiipfcdddaceaaGreatDoor
