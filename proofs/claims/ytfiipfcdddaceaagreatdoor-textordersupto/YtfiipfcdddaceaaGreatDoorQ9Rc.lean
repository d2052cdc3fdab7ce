import Derived.Test.YtfiipfcdddaceaaGreatDoorQ9Rb
namespace Go.Proofs.YtfiipfcdddaceaaGreatDoor
open Go.RowKit

theorem firstN_app (l r : List Int) : firstN (l ++ r) = if firstN l = 0 then firstN r else firstN l := by
  induction l with
  | nil => simp [firstN]
  | cons x l ih =>
    by_cases hx : x = 0
    · subst hx
      have e : ∀ l : List Int, firstN (0 :: l) = firstN l := fun l => by simp [firstN]
      rw [List.cons_append, e, e]
      exact ih
    · have e : ∀ l : List Int, firstN (x :: l) = x := fun l => by simp [firstN, hx]
      rw [List.cons_append, e, e, if_neg hx]
theorem cmpTs_succ (ta tb : Nat → Tm) (k : Nat) : cmpTs ta tb (k + 1) = if cmpTs ta tb k = 0 then cmpT (ta k) (tb k) else cmpTs ta tb k := by
  unfold cmpTs
  rw [List.range_succ, List.map_append, firstN_app]
  have : firstN (List.map (fun j => cmpT (ta j) (tb j)) [k]) = cmpT (ta k) (tb k) := by
    simp only [List.map_cons, List.map_nil, firstN, List.find?_cons]
    by_cases h : cmpT (ta k) (tb k) = 0
    · simp [h]
    · have : (cmpT (ta k) (tb k) != 0) = true := by simpa using h
      rw [this]; rfl
  rw [this]
theorem cmpTs_more (ta tb : Nat → Tm) (k n : Nat) (h : k ≤ n) (h0 : cmpTs ta tb k ≠ 0) : cmpTs ta tb n = cmpTs ta tb k := by
  induction n with
  | zero => obtain rfl : k = 0 := by omega
            rfl
  | succ n ih =>
    by_cases hk : k = n + 1
    · rw [hk]
    · rw [cmpTs_succ, ih (by omega), if_neg h0]

/-- How far two atoms part by their names and how many terms they have. -/
def headA (na nb : ByteArray) (n m : Nat) : Int := if cmpS na nb = 0 then Lib.compareInt n m else cmpS na nb
/-- How far they part by k terms, too. -/
def uptoA (na nb : ByteArray) (n m : Nat) (ta tb : Nat → Tm) (k : Nat) : Int := if headA na nb n m = 0 then cmpTs ta tb k else headA na nb n m
theorem uptoA_zero (na nb : ByteArray) (n m : Nat) (ta tb : Nat → Tm) : uptoA na nb n m ta tb 0 = headA na nb n m := by
  unfold uptoA
  split
  · rename_i h; rw [h]; rfl
  · rfl
theorem uptoA_all (na nb : ByteArray) (n m : Nat) (ta tb : Nat → Tm) : uptoA na nb n m ta tb n = cmpA na nb n m ta tb := by
  unfold uptoA headA cmpA
  by_cases h : cmpS na nb = 0
  · simp only [h, if_true]
  · simp only [h, if_false]
theorem uptoA_more (na nb : ByteArray) (n m : Nat) (ta tb : Nat → Tm) (k : Nat) (hk : k ≤ n) (h : uptoA na nb n m ta tb k ≠ 0) : uptoA na nb n m ta tb k = cmpA na nb n m ta tb := by
  rw [← uptoA_all]
  unfold uptoA at *
  split at h
  · rename_i h0; rw [if_pos h0, if_pos h0, cmpTs_more _ _ _ _ hk h]
  · rename_i h0; rw [if_neg h0, if_neg h0]
theorem uptoA_step (na nb : ByteArray) (n m : Nat) (ta tb : Nat → Tm) (k : Nat) (h : uptoA na nb n m ta tb k = 0) : uptoA na nb n m ta tb (k + 1) = cmpT (ta k) (tb k) ∧ n = m := by
  unfold uptoA at h ⊢
  by_cases h0 : headA na nb n m = 0
  · rw [if_pos h0] at h ⊢
    rw [cmpTs_succ, if_pos h]
    refine ⟨rfl, ?_⟩
    unfold headA at h0
    split at h0
    · have := cmpI_eq _ _ h0; omega
    · rename_i h1; exact absurd h0 h1
  · rw [if_neg h0] at h; exact absurd h h0

/-- The terms of a slice that has some. -/
def Some4 (w : World) (a : Option Addr) (n c : Nat) (t : Nat → Tm) (p : Nat → Int) : Prop := 0 < n → ∃ g off, a = some ⟨g, off, none⟩ ∧ g < w.heap.size ∧ n ≤ c ∧ R4 w g off n t p
theorem IsR4.some {w : World} {a : Option Addr} {n c : Nat} {t : Nat → Tm} {p : Nat → Int} (h : IsR4 w (.slice a n c) n t p) : Some4 w a n c t p := by
  intro hn
  obtain ⟨_, ⟨a, c, hv, h0⟩ | ⟨g, off, c', hv, hg, hc, ht⟩⟩ := h
  · omega
  · cases hv
    exact ⟨g, off, rfl, hg, hc, ht⟩

abbrev Two (w : World) (na nb : ByteArray) (aa ab : Option Addr) (n m ca cb : Nat) (pa pb : Int) : World := (w.alloc (.cells #[.string na, .slice aa n ca, .int .i64 pa] 44)).alloc (.cells #[.string nb, .slice ab m cb, .int .i64 pb] 44)

set_option maxRecDepth 100000 in
set_option maxHeartbeats 8000000 in
theorem rorder_any (na nb : ByteArray) (aa ab : Option Addr) (n m ca cb : Nat) (pa pb : Int) (ta tb : Nat → Tm) (qa qb : Nat → Int) (w : World) (hn : n ≤ 1099511627776) (hna : na.size ≤ 1099511627776) (hts : ∀ j, j < n → (ta j).text.size ≤ 1099511627776) (ha : Some4 w aa n ca ta qa) (hb : Some4 w ab m cb tb qb) :
    Calls Tryz.prog 23 #[.agg #[.string na, .slice aa n ca, .int .i64 pa], .agg #[.string nb, .slice ab m cb, .int .i64 pb]] w fun e w' => e = .returned (.int .i64 (cmpA na nb n m ta tb)) ∧ Below w.heap.size w w' := by
  have HI := hide (ints_any n m)
  have HS := hide (words_any na nb (Two w na nb aa ab n m ca cb pa pb) hna)
  have HA := hide ha
  have HB := hide hb
  have HTS := hide hts
  clear ha hb hts hna
  have HH : Hid (headA na nb n m = if cmpS na nb = 0 then Lib.compareInt n m else cmpS na nb) := rfl
  go_enter Tryz.func23, Tryz.ntmps23
  go_wp2_with fail
  refine HS.out.mono ?_
  rintro x w1 ⟨rfl, hb1⟩
  have HW1 : Hid (Below (w.heap.size + 2) (Two w na nb aa ab n m ca cb pa pb) w1) := hb1.mono (by simp)
  have a1 : w1.cell? ⟨w.heap.size, 1, none⟩ = some (.slice aa n ca) := (HW1.out.cell (p := ⟨w.heap.size, 1, none⟩) (by show w.heap.size < _; omega)).trans (by rw [cell_alloc_old _ _ _ _ (by simp)]; simp)
  have b1 : w1.cell? ⟨w.heap.size + 1, 1, none⟩ = some (.slice ab m cb) := (HW1.out.cell (p := ⟨w.heap.size + 1, 1, none⟩) (by show w.heap.size + 1 < _; omega)).trans (by simp)
  have hz1 : w.heap.size + 1 < w1.heap.size := by have := HW1.out.size; simp at this; omega
  clear hb1
  cases hc : (cmpS na nb == 0)
  · have hne : cmpS na nb ≠ 0 := by simpa using hc
    have E : Hid (cmpA na nb n m ta tb = cmpS na nb) := by
      show cmpA na nb n m ta tb = cmpS na nb
      unfold cmpA
      rw [if_neg hne]
    clear hne
    go_wp2_with fail
    go_loopw [5, 6] (fun c i wr => c = .int .i64 (cmpS na nb) ∧ i = .int .i64 0 ∧ wr = w1) (fun _ _ _ => 0)
    case atStart => exact ⟨rfl, rfl, rfl⟩
    case round =>
      obtain ⟨rfl, rfl, rfl⟩ := hrel
      by_cases hlt : 0 < n
      · have hlt' : (0 : Int) < (n : Int) := by omega
        go_wp2_with fail
        go_ret
        exact ⟨by rw [E.out]; rfl, (two_alloc w _ _).trans (HW1.out.mono (by omega))⟩
      · have hlt' : ¬ (0 : Int) < (n : Int) := by omega
        go_wp2_with fail
        go_ret
        exact ⟨by rw [E.out]; rfl, (two_alloc w _ _).trans (HW1.out.mono (by omega))⟩
  · have h0 : headA na nb n m = Lib.compareInt n m := by
      unfold headA
      rw [if_pos (by simpa using hc)]
    have E0 := hide h0
    clear h0
    go_wp2_with fail
    refine (HI.out _).mono ?_
    rintro x w2 ⟨rfl, rfl⟩
    go_wp2_with fail
    go_loopw [5, 6] (fun c i wr => ∃ k : Nat, k ≤ n ∧ c = .int .i64 (uptoA na nb n m ta tb k) ∧ i = .int .i64 k ∧ Below (w.heap.size + 2) (Two w na nb aa ab n m ca cb pa pb) wr) (fun _ i _ => n - (intOf i).toNat)
    case atStart => exact ⟨0, by omega, by rw [uptoA_zero, E0.out], rfl, HW1.out⟩
    case round =>
      obtain ⟨k, hk, rfl, rfl, hbw⟩ := hrel
      clear a1 b1 hz1
      have a1 : wr.cell? ⟨w.heap.size, 1, none⟩ = some (.slice aa n ca) := (hbw.cell (p := ⟨w.heap.size, 1, none⟩) (by show w.heap.size < _; omega)).trans (by rw [cell_alloc_old _ _ _ _ (by simp)]; simp)
      have b1 : wr.cell? ⟨w.heap.size + 1, 1, none⟩ = some (.slice ab m cb) := (hbw.cell (p := ⟨w.heap.size + 1, 1, none⟩) (by show w.heap.size + 1 < _; omega)).trans (by simp)
      have hzz : w.heap.size + 1 < wr.heap.size := by have := hbw.size; simp at this; omega
      have HW := hide hbw
      have HW0 : Hid (Below w.heap.size w wr) := (two_alloc w _ _).trans (hbw.mono (by omega))
      clear hbw
      by_cases hlt : k < n
      · cases hq : (uptoA na nb n m ta tb k == 0)
        · have E1 := hide (uptoA_more na nb n m ta tb k hk (by simpa using hq))
          go_wp2_with fail
          go_ret
          exact ⟨by rw [← E1.out]; rfl, HW0.out⟩
        · obtain ⟨e1, e2⟩ := uptoA_step na nb n m ta tb k (by simpa using hq)
          have E1 := hide e1
          clear e1
          subst e2
          obtain ⟨ga, oa, rfl, hga, hca, hta⟩ := HA.out (by omega)
          obtain ⟨gb, ob, rfl, hgb, hcb, htb⟩ := HB.out (by omega)
          obtain ⟨c0, c1, c2, c3⟩ := hta k hlt
          obtain ⟨f0, f1, f2, f3⟩ := htb k hlt
          have d0 := (HW0.out.cell (p := ⟨ga, _, none⟩) hga).trans c0
          have d1 := (HW0.out.cell (p := ⟨ga, _, none⟩) hga).trans c1
          have d2 := (HW0.out.cell (p := ⟨ga, _, none⟩) hga).trans c2
          have d3 := (HW0.out.cell (p := ⟨ga, _, none⟩) hga).trans c3
          have e0 := (HW0.out.cell (p := ⟨gb, _, none⟩) hgb).trans f0
          have e1 := (HW0.out.cell (p := ⟨gb, _, none⟩) hgb).trans f1
          have e2 := (HW0.out.cell (p := ⟨gb, _, none⟩) hgb).trans f2
          have e3 := (HW0.out.cell (p := ⟨gb, _, none⟩) hgb).trans f3
          have HK := hide (fun w => rterms_any (ta k) (tb k) (qa k) (qb k) w (HTS.out k hlt))
          have hgaw : ga < wr.heap.size := by have := HW0.out.size; omega
          have hgbw : gb < wr.heap.size := by have := HW0.out.size; omega
          clear c0 c1 c2 c3 f0 f1 f2 f3 hta htb
          go_upto_region 7 with fail
          go_region_with (go_at_call 72; refine (HK.out _).mono ?_; rintro x w2 ⟨rfl, hb2⟩)
          all_goals
            have HX : Hid (Below (w.heap.size + 2) (Two w na nb (some ⟨ga, oa, none⟩) (some ⟨gb, ob, none⟩) n n ca cb pa pb) w2) := HW.out.drew.trans (hb2.mono (by simp; omega))
            clear hb2
            go_wp2_with fail
            refine ⟨⟨k + 1, by omega, by rw [E1.out], by go_num, HX.out⟩, by simp [intOf]; omega⟩
      · obtain rfl : k = n := by omega
        have E1 := hide (uptoA_all na nb k m ta tb)
        go_wp2_with fail
        go_ret
        exact ⟨by rw [← E1.out]; rfl, HW0.out⟩
end Go.Proofs.YtfiipfcdddaceaaGreatDoor
