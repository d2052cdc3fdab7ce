import Derived.Test.YtfiipfcdddaceaaDoorPl
namespace Go.Proofs.YtfiipfcdddaceaaDoor
open Go.RowKit

/-- The texts of a list, a sign between each two of them. -/
def joinL (sep : List UInt8) (ss : List ByteArray) : List UInt8 := match ss with
  | [] => []
  | x :: r => x.data.toList ++ r.flatMap fun y => sep ++ y.data.toList
def sumL (ss : List ByteArray) : Nat := (ss.map (·.size)).sum

theorem sum_take (ss : List ByteArray) (k : Nat) (h : k < ss.length) : sumL (ss.take (k + 1)) = sumL (ss.take k) + ss[k].size := by
  unfold sumL
  rw [List.take_succ_eq_append_getElem h, List.map_append, List.sum_append]
  rfl
theorem sum_take_le (ss : List ByteArray) (k : Nat) : sumL (ss.take k) ≤ sumL ss := by
  have e : ss = ss.take k ++ ss.drop k := (List.take_append_drop k ss).symm
  have : sumL ss = sumL (ss.take k) + sumL (ss.drop k) := by
    conv => lhs; rw [e]
    unfold sumL
    rw [List.map_append, List.sum_append]
  omega
theorem big_div (m : Int) (h1 : 1 ≤ m) (h2 : m ≤ 1099511627776) : 1 < 9223372036854775807 / m := by
  have h : 2 * m ≤ 9223372036854775807 := by omega
  have := Int.le_ediv_of_mul_le (by omega : (0 : Int) < m) h
  omega

theorem join_snoc (sep : List UInt8) (ss : List ByteArray) (k : Nat) (h : k + 1 < ss.length) : joinL sep (ss.take (k + 1 + 1)) = joinL sep (ss.take (k + 1)) ++ (sep ++ ss[k + 1].data.toList) := by
  cases ss with
  | nil => simp at h
  | cons x r =>
    have h' : k < r.length := by simpa using h
    simp only [List.take_succ_cons, joinL]
    rw [List.take_succ_eq_append_getElem h', List.flatMap_append]
    simp
theorem join_len (sep : List UInt8) (ss : List ByteArray) : (joinL sep ss).length ≤ sumL ss + sep.length * ss.length := by
  have h : ∀ r : List ByteArray, (r.flatMap fun y => sep ++ y.data.toList).length = sumL r + sep.length * r.length := by
    intro r
    induction r with
    | nil => rfl
    | cons y r ih =>
      rw [List.flatMap_cons, List.length_append, ih, List.length_append, List.length_cons, Nat.mul_succ]
      have : sumL (y :: r) = y.size + sumL r := by simp [sumL]
      have hy : y.data.toList.length = y.size := by simp
      omega
  cases ss with
  | nil => simp [joinL]
  | cons x r =>
    simp only [joinL]
    rw [List.length_append, h r, List.length_cons, Nat.mul_succ]
    have : sumL (x :: r) = x.size + sumL r := by simp [sumL]
    have hx : x.data.toList.length = x.size := by simp
    omega

set_option maxHeartbeats 1000000 in
theorem join_one (sep s : ByteArray) (a : Addr) (c : Nat) (w : World) (hc : w.cell? a = some (.string s)) :
    Calls Tryd.prog 12 #[.slice (some a) 1 c, .string sep] w fun e w' => e = .returned (.string s) ∧ w' = w := by
  go_enter Tryd.func12, Tryd.ntmps12
  go_wp2_with fail
  go_ret
  exact ⟨rfl, rfl⟩

set_option maxHeartbeats 2000000 in
theorem join_many (sep : ByteArray) (ss : List ByteArray) (g c : Nat) (w : World) (hg : g < w.heap.size) (hsep : sep.size = 1) (hn : 2 ≤ ss.length) (hsum : sumL ss + ss.length ≤ 1099511627776)
    (hc : ∀ j (h : j < ss.length), w.cell? ⟨g, j, none⟩ = some (.string ss[j])) (hcap : ss.length ≤ c) :
    Calls Tryd.prog 12 #[.slice (some ⟨g, 0, none⟩) ss.length c, .string sep] w fun e w' => e = .returned (.string ⟨(joinL sep.data.toList ss).toArray⟩) ∧ Below w.heap.size w w' := by
  have e0 : ((ss.length : Int) == 0) = false := by rw [beq_eq_false_iff_ne]; omega
  have e1 : ((ss.length : Int) == 1) = false := by rw [beq_eq_false_iff_ne]; omega
  have HC := hide hc
  have hdv := big_div ((ss.length : Int) - 1) (by omega) (by omega)
  clear hc
  go_enter Tryd.func12, Tryd.ntmps12
  go_wp2_with fail
  clear hdv
  go_loop [5, 41] (fun t i => ∃ k : Nat, k ≤ ss.length ∧ i = .int .i64 k ∧ t = .int .i64 ((ss.length : Int) - 1 + (sumL (ss.take k) : Nat))) (fun _ i => ss.length - (intOf i).toNat)
  case atStart => exact ⟨0, by omega, rfl, by simp [sumL]⟩
  case round =>
    obtain ⟨k, hk, rfl, rfl⟩ := hrel
    have hle := sum_take_le ss k
    by_cases hlt : k < ss.length
    · have hck := HC.out k hlt
      have HS := hide (sum_take ss k hlt)
      have hle2 := sum_take_le ss (k + 1)
      have hsz : ss[k].size ≤ 1099511627776 := by have := HS.out; omega
      go_wp2_with fail
      exact ⟨⟨k + 1, by omega, by go_num, by rw [HS.out]; go_num⟩, by simp [intOf]; omega⟩
    · go_wp2_with fail
      obtain ⟨N, hN⟩ : ∃ N : Nat, (ss.length : Int) - 1 + (sumL (ss.take k) : Nat) = (N : Int) := ⟨ss.length - 1 + sumL (ss.take k), by omega⟩
      rw [hN]
      refine (Tryd.Builder_Grow_fresh w.heap.size w.heap.size N _ (Nat.le_refl _) (alloc_new w _) (by simp) (by omega)).mono ?_
      rintro x w1 ⟨rfl, hat, hb1⟩
      obtain ⟨_, v1, hbk, hrow, _⟩ := hat
      have HB1 : Hid (Bd w.heap.size w.heap.size [] v1 w1) := ⟨Nat.le_refl _, ⟨_, .inr rfl, hbk⟩, hrow⟩
      have HW1 : Hid (Below w.heap.size w w1) := ((Below.refl _ _).alloc (Nat.le_refl _) _).trans hb1
      have hz1 := HW1.out.size
      have hc1 : ∀ j (h : j < ss.length), w1.cell? ⟨g, j, none⟩ = some (.string ss[j]) := fun j h => (HW1.out.cell (p := ⟨g, j, none⟩) hg).trans (HC.out j h)
      have HC1 := hide hc1
      have h0s : 0 < ss.length := Nat.lt_of_lt_of_le (by decide) hn
      have hc10 := hc1 0 h0s
      clear hbk hrow hb1 hc1 hN
      have hs0 : ss[0].size ≤ 1099511627776 := by have h1 : sumL (ss.take 1) = sumL (ss.take 0) + ss[0].size := sum_take ss 0 h0s; have := sum_take_le ss 1; omega
      go_wp2_with fail
      refine (writeString w.heap.size w.heap.size [] v1 ss[0] _ HB1.out (by simp; omega) hz1).mono ?_
      rintro x w2 ⟨rfl, v2, hb2, hf2⟩
      have HB2 := hide hb2
      have HW2 := hide (HB1.out.step hf2 HW1.out (Nat.le_refl _))
      clear hb2 hf2 hc10
      go_wp2_with fail
      have hsd : sep.data.toList.length = 1 := by simpa using hsep
      have hj0 : joinL sep.data.toList (ss.take (0 + 1)) = [] ++ ss[0].data.toList := by
        cases ss with
        | nil => simp at hn
        | cons x r => simp [joinL]
      go_loopw [65] (fun t wr => ∃ (j : Nat) (v : Value), j ≤ ss.length - 1 ∧ t = .int .i64 j ∧ Bd w.heap.size w.heap.size (joinL sep.data.toList (ss.take (j + 1))) v wr ∧ Below w.heap.size w wr) (fun t _ => ss.length - (intOf t).toNat)
      case atStart => exact ⟨0, v2, by omega, rfl, by rw [hj0]; exact HB2.out, HW2.out⟩
      case round =>
        obtain ⟨j, v, hj, rfl, hbd, hbw⟩ := hrel
        have HB := hide hbd
        have HW := hide hbw
        have hz := hbw.size
        have hjl := join_len sep.data.toList (ss.take (j + 1))
        have hst := sum_take_le ss (j + 1)
        have htl : (ss.take (j + 1)).length ≤ ss.length := (List.take_sublist _ _).length_le
        rw [hsd, Nat.one_mul] at hjl
        clear hbd hbw
        by_cases hjt : j + 1 < ss.length
        · have hjt' : j < ss.length - 1 := by omega
          have hck : wr.cell? ⟨g, 1 + j, none⟩ = some (.string ss[j + 1]) := by rw [Nat.add_comm 1 j]; exact (HW.out.cell (p := ⟨g, j + 1, none⟩) hg).trans (HC.out (j + 1) hjt)
          have HS := hide (join_snoc sep.data.toList ss j hjt)
          have hst2 := sum_take_le ss (j + 1 + 1)
          have hss := sum_take ss (j + 1) hjt
          have hsk : ss[j + 1].size + sumL (ss.take (j + 1)) ≤ sumL ss := by omega
          have HK := hide hsk
          clear hss hst2 hsk
          go_wp2_with fail
          refine (writeString w.heap.size w.heap.size _ v sep _ HB.out (by omega) hz).mono ?_
          rintro x w3 ⟨rfl, v3, hb3, hf3⟩
          have HB3 := hide hb3
          have HW3 := hide (HB.out.step hf3 HW.out (Nat.le_refl _))
          have hz3 := HW3.out.size
          clear hb3 hf3
          go_wp2_with fail
          refine (writeString w.heap.size w.heap.size _ v3 ss[j + 1] _ HB3.out (by have := HK.out; rw [List.length_append]; omega) hz3).mono ?_
          rintro x w4 ⟨rfl, v4, hb4, hf4⟩
          have HB4 := hide hb4
          have HW4 := hide (HB3.out.step hf4 HW3.out (Nat.le_refl _))
          clear hb4 hf4
          go_wp2_with fail
          refine ⟨⟨j + 1, v4, by omega, by go_num, ?_, HW4.out⟩, by simp [intOf]; omega⟩
          rw [HS.out]
          have := HB4.out
          rw [List.append_assoc] at this
          exact this
        · obtain rfl : j = ss.length - 1 := by omega
          have et : ss.take (ss.length - 1 + 1) = ss := by rw [show ss.length - 1 + 1 = ss.length from by omega]; exact List.take_length
          have HB0 : Hid (Bd w.heap.size w.heap.size (joinL sep.data.toList ss) v wr) := by have := HB.out; rw [et] at this; exact this
          go_wp2_with fail
          refine (Tryd.Builder_String_any w.heap.size w.heap.size _ _ HB0.out.is hz).mono ?_
          rintro x w3 ⟨rfl, hb3⟩
          have HB3 := hide hb3
          clear hb3
          go_wp2_with fail
          go_ret
          exact ⟨rfl, HW.out.trans HB3.out⟩
end Go.Proofs.YtfiipfcdddaceaaDoor
