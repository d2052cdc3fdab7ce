import Derived.Test.YtfiipfcdddaceaaGreatDoorQ9Rc
namespace Go.Proofs.YtfiipfcdddaceaaGreatDoor
open Go.RowKit

theorem ba_app (l : List UInt8) (s : ByteArray) : (⟨l.toArray⟩ : ByteArray) ++ s = ⟨(l ++ s.data.toList).toArray⟩ := by
  apply ByteArray.ext
  simp

theorem ba_one (s : ByteArray) (k : Nat) (h : k < s.size) : (s.extract k (k + 1)).data.toList = [s[k]] := by
  have h' : k < s.data.size := h
  rw [ByteArray.data_extract, Array.toList_extract]
  apply List.ext_getElem?
  intro i
  cases i with
  | zero =>
    simp
    rw [Array.getElem?_eq_getElem h']
    rfl
  | succ i => simp; omega

set_option maxRecDepth 100000 in
set_option maxHeartbeats 4000000 in
theorem rquote_any (n : Int) (tx : ByteArray) (p : Int) (w : World) (h2 : tx.size ≤ 1099511627776) :
    Calls Tryz.prog 75 #[.agg #[.int .i64 3, .int .i64 n, .string tx, .int .i64 p]] w fun e w' => e = .returned (.string ⟨(quoteL tx.data.toList).toArray⟩) ∧ Below w.heap.size w w' := by
  have hsl : tx.data.toList.length = tx.size := by simp
  go_enter Tryz.func75, Tryz.ntmps75
  go_wp2_with fail
  go_loopw [3, 4] (fun s i wr => ∃ (k : Nat) (S : ByteArray), k ≤ tx.size ∧ s = .string S ∧ S = ⟨(34 :: (tx.data.toList.take k).flatMap qb).toArray⟩ ∧ i = .int .i64 k ∧ wr = w.alloc (.cells #[.int .i64 3, .int .i64 n, .string tx, .int .i64 p] 92)) (fun _ i _ => tx.size - (intOf i).toNat)
  case atStart => exact ⟨0, _, by omega, rfl, rfl, rfl, rfl⟩
  case round =>
    obtain ⟨k, S, hk, rfl, hS, rfl, rfl⟩ := hrel
    have hSz : S.size ≤ 2 * k + 1 := by
      have h1 := flat_le (tx.data.toList.take k)
      have h2 : (tx.data.toList.take k).length ≤ k := by rw [List.length_take]; omega
      have h3 : S.size = (34 :: (tx.data.toList.take k).flatMap qb).length := by rw [hS]; rfl
      rw [h3, List.length_cons]
      omega
    have HE := hide hS
    clear hS
    by_cases hlt : k < tx.size
    · have HS := hide (flat_snoc tx k hlt)
      cases h1 : ((tx[k].toNat : Int) == 34)
      · cases h2 : ((tx[k].toNat : Int) == 92)
        · cases h3 : ((tx[k].toNat : Int) == 10)
          · have hr : ¬ 9223372036854775807 < S.size + (min (k + 1) tx.size - k) := by omega
            go_wp2_with fail
            refine ⟨⟨k + 1, _, by omega, rfl, ?_, by go_num, trivial⟩, by simp [intOf]; omega⟩
            rw [HS.out, qb_one tx[k] h1 h2 h3, HE.out, ba_app, ba_one tx k hlt]
            rfl
          · have hr : ¬ 9223372036854775807 < S.size + 2 := by omega
            go_wp2_with fail
            refine ⟨⟨k + 1, _, by omega, rfl, ?_, by go_num, trivial⟩, by simp [intOf]; omega⟩
            rw [HS.out, qb_nl tx[k] h3, HE.out, ba_app]
            rfl
        · have hr : ¬ 9223372036854775807 < S.size + 2 := by omega
          have hc : tx[k] = 92 := (byte_is tx[k] 92 (by omega)).1 h2
          go_wp2_with fail
          refine ⟨⟨k + 1, _, by omega, rfl, ?_, by go_num, trivial⟩, by simp [intOf]; omega⟩
          rw [HS.out, qb_two tx[k] (.inr h2), HE.out, ba_app, hc]
          rfl
      · have hr : ¬ 9223372036854775807 < S.size + 2 := by omega
        have hc : tx[k] = 34 := (byte_is tx[k] 34 (by omega)).1 h1
        go_wp2_with fail
        refine ⟨⟨k + 1, _, by omega, rfl, ?_, by go_num, trivial⟩, by simp [intOf]; omega⟩
        rw [HS.out, qb_two tx[k] (.inl h1), HE.out, ba_app, hc]
        rfl
    · obtain rfl : k = tx.size := by omega
      have et : tx.data.toList.take tx.size = tx.data.toList := by rw [← hsl]; exact List.take_length
      have hr : ¬ 9223372036854775807 < S.size + 1 := by omega
      go_wp2_with fail
      go_ret
      refine ⟨?_, (Below.refl _ _).alloc (Nat.le_refl _) _⟩
      rw [HE.out, et, ba_app]
      rfl

set_option maxHeartbeats 1000000 in
theorem rshowTerm_any (t : Tm) (p : Int) (w : World) (ht : TmOk t) (hw : Lib.TabIs Tryz.prog w "internal/strconv.uint64pow10" .u64 Lib.pow10Tab) :
    Calls Tryz.prog 75 #[.agg #[.int .i64 t.kind, .int .i64 t.num, .string t.text, .int .i64 p]] w fun e w' => e = .returned (.string (pstr t)) ∧ Below w.heap.size w w' := by
  obtain ⟨k, n, tx⟩ := t
  obtain ⟨h0, h1, h2⟩ := ht
  have HI := hide (fun w h => itoa_any n h0 h1 w h)
  have HQ := hide (fun w => rquote_any n tx p w h2)
  have HT := hide hw
  unfold pstr
  clear hw h0 h1
  cases e1 : (k == 1)
  · cases e3 : (k != 3)
    · obtain rfl : k = 3 := by simpa using e3
      have hp : plainL ⟨3, n, tx⟩ = quoteL tx.data.toList := by simp [plainL]
      rw [hp]
      exact HQ.out _
    · have hp : plainL ⟨k, n, tx⟩ = tx.data.toList := by
        have a : ¬ k = 1 := by simpa using e1
        have b : ¬ k = 3 := by simpa using e3
        simp [plainL, a, b]
      rw [hp]
      go_enter Tryz.func75, Tryz.ntmps75
      go_wp2_with fail
      go_ret
      exact ⟨rfl, (Below.refl _ _).alloc (Nat.le_refl _) _⟩
  · have hp : plainL ⟨k, n, tx⟩ = Lib.itoa n := by
      have a : k = 1 := by simpa using e1
      simp [plainL, a]
    rw [hp]
    go_enter Tryz.func75, Tryz.ntmps75
    go_wp2_with fail
    refine (HI.out _ (Lib.tabIs_alloc HT.out _)).mono ?_
    rintro x w1 ⟨rfl, hb⟩
    have HB := hide hb
    clear hb
    go_wp2_with fail
    go_ret
    exact ⟨rfl, ((Below.refl _ _).alloc (Nat.le_refl _) _).trans (HB.out.mono (by simp))⟩
end Go.Proofs.YtfiipfcdddaceaaGreatDoor
