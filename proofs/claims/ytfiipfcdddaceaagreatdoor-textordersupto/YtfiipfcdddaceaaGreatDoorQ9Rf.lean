import Derived.Test.YtfiipfcdddaceaaGreatDoorQ9Rd
namespace Go.Proofs.YtfiipfcdddaceaaGreatDoor
open Go.RowKit

/-- An atom's name and its first k terms, as they are shown. -/
def shL (nm : ByteArray) (t : Nat → Tm) (k : Nat) : List UInt8 := nm.data.toList ++ (if k = 0 then [] else 40 :: joinL [44] (pstrs t k))
theorem join_app (l : List ByteArray) (x : ByteArray) (h : l ≠ []) : joinL [44] (l ++ [x]) = joinL [44] l ++ (44 :: x.data.toList) := by
  cases l with
  | nil => exact absurd rfl h
  | cons y r => simp [joinL]
theorem shL_one (nm : ByteArray) (t : Nat → Tm) : shL nm t (0 + 1) = nm.data.toList ++ [40] ++ (pstr (t 0)).data.toList := by
  simp [shL, pstrs, joinL]
theorem shL_succ (nm : ByteArray) (t : Nat → Tm) (k : Nat) (h : ¬ k = 0) : shL nm t (k + 1) = shL nm t k ++ [44] ++ (pstr (t k)).data.toList := by
  unfold shL
  rw [if_neg h, if_neg (by omega), pstrs_succ, join_app _ _ (fun e => by have := congrArg List.length e; rw [pstrs_len] at this; exact h this)]
  simp
theorem sumL_succ (t : Nat → Tm) (n : Nat) : sumL (pstrs t (n + 1)) = sumL (pstrs t n) + (pstr (t n)).size := by
  rw [pstrs_succ]
  simp [sumL]
theorem sumL_mono (t : Nat → Tm) (k n : Nat) (h : k ≤ n) : sumL (pstrs t k) + k ≤ sumL (pstrs t n) + n := by
  induction n with
  | zero => obtain rfl : k = 0 := by omega
            exact Nat.le_refl _
  | succ n ih =>
    by_cases hk : k = n + 1
    · rw [hk]; exact Nat.le_refl _
    · have := ih (by omega)
      rw [sumL_succ]
      omega
theorem shL_len (nm : ByteArray) (t : Nat → Tm) (k : Nat) : (shL nm t k).length ≤ nm.size + 1 + (sumL (pstrs t k) + k) := by
  unfold shL
  have h := join_len [44] (pstrs t k)
  rw [pstrs_len] at h
  have hn : nm.data.toList.length = nm.size := by simp
  rw [List.length_append]
  split
  · simp only [List.length_nil]; omega
  · simp only [List.length_cons, List.length_nil] at h ⊢; omega
theorem shL_show (nm : ByteArray) (t : Nat → Tm) (n : Nat) (h : 0 < n) : showA nm t n = ⟨(shL nm t n ++ [41]).toArray⟩ := by
  unfold showA shL
  rw [if_neg (by omega), if_neg (by omega)]
  apply ByteArray.ext
  simp

set_option maxRecDepth 100000 in
set_option maxHeartbeats 8000000 in
theorem rshow_any (nm : ByteArray) (aa : Option Addr) (n ca : Nat) (pa : Int) (t : Nat → Tm) (q : Nat → Int) (w : World) (hn : n ≤ 1099511627776) (hs : Small nm n t) (ha : Some4 w aa n ca t q) (hw : Lib.TabIs Tryz.prog w "internal/strconv.uint64pow10" .u64 Lib.pow10Tab) :
    Calls Tryz.prog 25 #[.agg #[.string nm, .slice aa n ca, .int .i64 pa]] w fun e w' => e = .returned (.string (showA nm t n)) ∧ Below w.heap.size w w' := by
  have HA := hide ha
  have HT := hide hw
  have HS := hide hs
  clear ha hw hs
  go_enter Tryz.func25, Tryz.ntmps25
  go_wp2_with fail
  go_loopw [3, 4] (fun s i wr => ∃ (k : Nat) (S : ByteArray), k ≤ n ∧ s = .string S ∧ S = ⟨(shL nm t k).toArray⟩ ∧ i = .int .i64 k ∧ Below (w.heap.size + 1) (w.alloc (.cells #[.string nm, .slice aa n ca, .int .i64 pa] 44)) wr) (fun _ i _ => n - (intOf i).toNat)
  case atStart => exact ⟨0, _, by omega, rfl, by simp [shL], rfl, Below.refl _ _⟩
  case round =>
    obtain ⟨k, S, hk, rfl, hS, rfl, hbw⟩ := hrel
    have hSz : S.size ≤ nm.size + 1 + (sumL (pstrs t n) + n) := by
      have h1 := shL_len nm t k
      have h2 := sumL_mono t k n hk
      have h3 : S.size = (shL nm t k).length := by rw [hS]; rfl
      omega
    have hnm := HS.out.name
    have hsm := HS.out.sum
    have a1 : wr.cell? ⟨w.heap.size, 1, none⟩ = some (.slice aa n ca) := (hbw.cell (p := ⟨w.heap.size, 1, none⟩) (by show w.heap.size < _; omega)).trans (by simp)
    have hzz : w.heap.size < wr.heap.size := by have := hbw.size; simp at this; omega
    have HE := hide hS
    have HW := hide hbw
    have HW0 : Hid (Below w.heap.size w wr) := ((Below.refl _ _).alloc (Nat.le_refl _) _).trans (hbw.mono (by omega))
    clear hS hbw
    by_cases hlt : k < n
    · obtain ⟨g, off, rfl, hg, hc, ht⟩ := HA.out (by omega)
      obtain ⟨c0, c1, c2, c3⟩ := ht k hlt
      have d0 := (HW0.out.cell (p := ⟨g, _, none⟩) hg).trans c0
      have d1 := (HW0.out.cell (p := ⟨g, _, none⟩) hg).trans c1
      have d2 := (HW0.out.cell (p := ⟨g, _, none⟩) hg).trans c2
      have d3 := (HW0.out.cell (p := ⟨g, _, none⟩) hg).trans c3
      clear c0 c1 c2 c3 ht
      have hgw : g < wr.heap.size := by have := HW0.out.size; omega
      have HK := hide (rshowTerm_any (t k) (q k) wr (HS.out.terms k hlt) (tab_below HT.out HW0.out))
      have hp : (pstr (t k)).size ≤ sumL (pstrs t n) + n := by
        have := sumL_mono t (k + 1) n hlt
        rw [sumL_succ] at this
        omega
      have hr1 : ¬ 9223372036854775807 < S.size + 1 := by omega
      have hr2 : ¬ 9223372036854775807 < S.size + 1 + (pstr (t k)).size := by omega
      cases h0 : ((k : Int) == 0)
      · go_wp2_with fail
        refine HK.out.mono ?_
        rintro x w2 ⟨rfl, hb2⟩
        have HX : Hid (Below (w.heap.size + 1) (w.alloc (.cells #[.string nm, .slice (some ⟨g, off, none⟩) n ca, .int .i64 pa] 44)) w2) := HW.out.trans (hb2.mono (by omega))
        clear hb2
        go_wp2_with fail
        refine ⟨⟨k + 1, _, by omega, rfl, ?_, by go_num, HX.out⟩, by simp [intOf]; omega⟩
        rw [shL_succ nm t k (by simp at h0; omega), HE.out, ba_app, ba_app]
      · have E : Hid (shL nm t (k + 1) = shL nm t k ++ [40] ++ (pstr (t k)).data.toList) := by
          show shL nm t (k + 1) = _
          obtain rfl : k = 0 := by simp at h0; omega
          rw [shL_one nm t]
          simp [shL]
        go_wp2_with fail
        refine HK.out.mono ?_
        rintro x w2 ⟨rfl, hb2⟩
        have HX : Hid (Below (w.heap.size + 1) (w.alloc (.cells #[.string nm, .slice (some ⟨g, off, none⟩) n ca, .int .i64 pa] 44)) w2) := HW.out.trans (hb2.mono (by omega))
        clear hb2
        go_wp2_with fail
        refine ⟨⟨k + 1, _, by omega, rfl, ?_, by go_num, HX.out⟩, by simp [intOf]; omega⟩
        rw [E.out, HE.out, ba_app, ba_app]
    · obtain rfl : k = n := by omega
      have hr1 : ¬ 9223372036854775807 < S.size + 1 := by omega
      by_cases hz : 0 < k
      · have hz' : (0 : Int) < (k : Int) := by omega
        have E := hide (shL_show nm t k hz)
        go_wp2_with fail
        go_ret
        refine ⟨?_, HW0.out⟩
        rw [E.out, HE.out, ba_app]
        rfl
      · obtain rfl : k = 0 := by omega
        go_wp2_with fail
        go_ret
        refine ⟨?_, HW0.out⟩
        rw [HE.out]
        simp [shL, showA]
end Go.Proofs.YtfiipfcdddaceaaGreatDoor
