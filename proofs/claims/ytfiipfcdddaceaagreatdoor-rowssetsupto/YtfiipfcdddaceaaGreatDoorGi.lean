import Derived.Test.YtfiipfcdddaceaaGreatDoorOw
import Derived.Deep.RegionHeld3
import Derived.Deep.AppendLies
namespace Go.Proofs.YtfiipfcdddaceaaGreatDoor
open Go.RowKit

/-- n terms of the document's, as they come in. -/
def RTerms (w : World) (g off n : Nat) (t : Nat → Tm) : Prop :=
  ∀ j, j < n → w.cell? ⟨g, off + j * 4, none⟩ = some (.int .i64 (t j).kind) ∧ w.cell? ⟨g, off + j * 4 + 1, none⟩ = some (.int .i64 (t j).num) ∧ w.cell? ⟨g, off + j * 4 + 2, none⟩ = some (.string (t j).text)
def IsRTerms (w : World) (v : Value) (n : Nat) (t : Nat → Tm) : Prop :=
  n ≤ 1099511627776 ∧ ((∃ a c, v = .slice a 0 c ∧ n = 0) ∨ ∃ g off c, v = .slice (some ⟨g, off, none⟩) n c ∧ g < w.heap.size ∧ n ≤ c ∧ RTerms w g off n t)

theorem own_terms {w : World} {B : Nat} {v : Value} {n : Nat} {t : Nat → Tm} (h : w.ownsRow B 60 3 v n (tcells t n)) (hn : n ≤ 1099511627776) : IsTerms w v n t := by
  refine ⟨hn, ?_⟩
  cases n with
  | zero =>
    obtain ⟨a, c, hv⟩ := own_slice h
    exact .inl ⟨a, c, hv, rfl⟩
  | succ n =>
    obtain ⟨g, cap, rfl⟩ := own_shape h
    have hc : n + 1 ≤ cap ∧ g < w.heap.size := by
      obtain ⟨_, ⟨hv, _⟩ | ⟨g', cap', cur, hv, _, hc, hle, _⟩⟩ := h
      · cases hv
      · cases hv
        refine ⟨hle, ?_⟩
        rcases Nat.lt_or_ge g w.heap.size with h' | h'
        · exact h'
        · simp [Array.getElem?_eq_none h'] at hc
    refine .inr ⟨g, cap, rfl, hc.2, hc.1, fun j hj => ?_⟩
    have h3 := tcells_at t (n + 1) j hj
    exact ⟨own_cell h _ h3.1, own_cell h _ h3.2.1, own_cell h _ h3.2.2⟩

def W0 (w : World) (nm : ByteArray) (va : Value) (at_ : Int) : World :=
  ((w.alloc (.cells #[.string nm, va, .int .i64 at_] 44)).alloc (.cells #[.string ⟨#[]⟩, .slice none 0 0] 47)).alloc (.cells #[.string nm, .slice none 0 0] 47)

theorem given_step (nm : ByteArray) (g off c n : Nat) (at_ : Int) (t : Nat → Tm) (w wr w1 : World) (k : Nat) (va : Option Addr) (vc gg cap : Nat) (hlt : k < n)
    (hblk : wr.heap[w.heap.size + 1 + 1]? = some (.cells #[.string nm, .slice va k vc] 47 (0, 0))) (hbw : Below (w.heap.size + 2) (W0 w nm (.slice (some ⟨g, off, none⟩) n c) at_) wr) (hz : w.heap.size + 3 ≤ wr.heap.size)
    (hown : wr.ownsRow (w.heap.size + 3) 60 3 (.slice va k vc) k (tcells t k))
    (hown1 : w1.ownsRow (w.heap.size + 3) 60 3 (.slice (some ⟨gg, 0, none⟩) (k + 1) cap) (k + 1) (tcells t k ++ [.int .i64 (t k).kind, .int .i64 (t k).num, .string (t k).text]))
    (hgrow : (wr.alloc (.cells #[.int .i64 (t k).kind, .int .i64 (t k).num, .string (t k).text] 60)).drew.grownBy w1 (Value.ownBlock (.slice va k vc))) (ax : Value.ownBlock (.slice va k vc) ≠ some (w.heap.size + 1 + 1)) :
    (∃ (k' : Nat) (v : Value), k' ≤ n ∧ Value.int .i64 ((k : Int) + 1) = .int .i64 k' ∧ (w1.setCell ⟨w.heap.size + 1 + 1, 1, none⟩ (.slice (some ⟨gg, 0, none⟩) (k + 1) cap)).heap[w.heap.size + 1 + 1]? = some (.cells #[.string nm, v] 47 (0, 0)) ∧ (w1.setCell ⟨w.heap.size + 1 + 1, 1, none⟩ (.slice (some ⟨gg, 0, none⟩) (k + 1) cap)).ownsRow (w.heap.size + 3) 60 3 v k' (tcells t k') ∧ Below (w.heap.size + 2) (W0 w nm (.slice (some ⟨g, off, none⟩) n c) at_) (w1.setCell ⟨w.heap.size + 1 + 1, 1, none⟩ (.slice (some ⟨gg, 0, none⟩) (k + 1) cap)) ∧ w.heap.size + 3 ≤ (w1.setCell ⟨w.heap.size + 1 + 1, 1, none⟩ (.slice (some ⟨gg, 0, none⟩) (k + 1) cap)).heap.size) ∧
      n - (intOf (Value.int .i64 ((k : Int) + 1))).toNat < n - (intOf (Value.int .i64 (k : Int))).toNat := by
  have hb1 : w1.heap[w.heap.size + 1 + 1]? = some (.cells #[.string nm, .slice va k vc] 47 (0, 0)) :=
    (hgrow.block _ (by simp; omega) (Ne.symm ax)).trans ((Below.heap_alloc wr _ _ (by omega)).trans hblk)
  have hz1 : wr.heap.size + 1 ≤ w1.heap.size := by have := hgrow.size; simpa using this
  refine ⟨⟨k + 1, .slice (some ⟨gg, 0, none⟩) (k + 1) cap, by omega, by go_num, ?_, ?_, ?_, by simp; omega⟩, by simp [intOf]; omega⟩
  · simp [World.setCell, Array.getElem?_modify, hb1]
  · rw [tcells_succ]
    exact own_set hown1 (by show w.heap.size + 1 + 1 < _; omega) _
  · exact ((hbw.alloc (by omega) _).drew.grown hgrow (by simp; omega) (fun j hj => by have := own_lt hown j hj; omega)).setCell (by show w.heap.size + 2 ≤ w.heap.size + 1 + 1; omega) _

set_option maxRecDepth 100000 in
set_option maxHeartbeats 8000000 in
theorem given_some (nm : ByteArray) (g off c n : Nat) (at_ : Int) (t : Nat → Tm) (w : World) (hn : n ≤ 1099511627776) (hg : g < w.heap.size) (hc : n ≤ c) (ht : RTerms w g off n t) :
    Calls Tryz.prog 43 #[.agg #[.string nm, .slice (some ⟨g, off, none⟩) n c, .int .i64 at_]] w fun e w' => ∃ v, e = .returned (.agg #[.string nm, v]) ∧ w'.ownsRow w.heap.size 60 3 v n (tcells t n) ∧ Below w.heap.size w w' := by
  obtain ⟨i0, hi, hz0, hz1, hz2⟩ := info_parts (P := Tryz.prog) (e := 60) (z := .agg #[.int .i64 0, .int .i64 0, .string ⟨#[]⟩]) (size := 3) (bytes := 32) (by kernel_rfl)
  have HT := hide ht
  clear ht
  go_enter Tryz.func43, Tryz.ntmps43
  go_wp2_with fail
  go_loopw [4] (fun i wr => ∃ (k : Nat) (v : Value), k ≤ n ∧ i = .int .i64 k ∧ wr.heap[w.heap.size + 1 + 1]? = some (.cells #[.string nm, v] 47 (0, 0)) ∧ wr.ownsRow (w.heap.size + 3) 60 3 v k (tcells t k) ∧ Below (w.heap.size + 2) (W0 w nm (.slice (some ⟨g, off, none⟩) n c) at_) wr ∧ w.heap.size + 3 ≤ wr.heap.size) (fun i _ => n - (intOf i).toNat)
  case atStart =>
    refine ⟨0, .slice none 0 0, by omega, rfl, ?_, ⟨rfl, .inl ⟨rfl, rfl⟩⟩, Below.refl _ _, by simp⟩
    have := alloc_new ((w.alloc (.cells #[.string nm, .slice (some ⟨g, off, none⟩) n c, .int .i64 at_] 44)).alloc (.cells #[.string ⟨#[]⟩, .slice none 0 0] 47)) (.cells #[.string nm, .slice none 0 0] 47)
    simpa using this
  case round =>
    obtain ⟨k, v, hk, rfl, hblk, hown, hbw, hz⟩ := hrel
    obtain ⟨va, vc, hv⟩ := own_slice hown
    subst hv
    have b1 : wr.cell? ⟨w.heap.size, 1, none⟩ = some (.slice (some ⟨g, off, none⟩) n c) := (hbw.cell (p := ⟨w.heap.size, 1, none⟩) (by show w.heap.size < _; omega)).trans (by unfold W0; rw [cells3]; simp)
    have x0 : wr.cell? ⟨w.heap.size + 1 + 1, 0, none⟩ = some (.string nm) := by rw [Lib.cell_of_heap hblk]; rfl
    have x1 : wr.cell? ⟨w.heap.size + 1 + 1, 1, none⟩ = some (.slice va k vc) := by rw [Lib.cell_of_heap hblk]; rfl
    have f1 : wr.frozen? ⟨w.heap.size + 1 + 1, 1, none⟩ = false := Lib.frozen_of_heap hblk 1
    have y0 : wr.cell? ⟨w.heap.size + 1, 0, none⟩ = some (.string ⟨#[]⟩) := (hbw.cell (p := ⟨w.heap.size + 1, 0, none⟩) (by show w.heap.size + 1 < _; omega)).trans (by unfold W0; rw [cell_alloc_old _ _ _ _ (by simp)]; simp)
    have y1 : wr.cell? ⟨w.heap.size + 1, 1, none⟩ = some (.slice none 0 0) := (hbw.cell (p := ⟨w.heap.size + 1, 1, none⟩) (by show w.heap.size + 1 < _; omega)).trans (by unfold W0; rw [cell_alloc_old _ _ _ _ (by simp)]; simp)
    have yf : ∀ o, wr.frozen? ⟨w.heap.size + 1, o, none⟩ = false := fun o => (hbw.frozen (p := ⟨w.heap.size + 1, o, none⟩) (by show w.heap.size + 1 < _; omega)).trans (by unfold W0; simp [go_sem])
    have HN := hide hown
    have HW := hide hbw
    have HBLK := hide hblk
    have HW0 : Hid (Below w.heap.size w wr) := (below3 w _ _ _).trans (hbw.mono (by omega))
    clear hown hbw hblk
    by_cases hlt : k < n
    · obtain ⟨c0, c1, c2⟩ := HT.out k hlt
      have d0 := (HW0.out.cell (p := ⟨g, off + k * 4, none⟩) hg).trans c0
      have d1 := (HW0.out.cell (p := ⟨g, off + k * 4 + 1, none⟩) hg).trans c1
      have d2 := (HW0.out.cell (p := ⟨g, off + k * 4 + 2, none⟩) hg).trans c2
      clear c0 c1 c2
      have hk0 : (0 : Int) ≤ (k : Int) := Int.natCast_nonneg _
      have hk1 : (k : Int) < (n : Int) := by omega
      have hg2 : g < wr.heap.size := by have := HW0.out.size; omega
      have hzx : w.heap.size + 1 + 1 < wr.heap.size := by omega
      have ag : Value.ownBlock (.slice va k vc) ≠ some g := fun e => by have := own_lt HN.out g e; omega
      have ax : Value.ownBlock (.slice va k vc) ≠ some (w.heap.size + 1 + 1) := fun e => by have := own_lt HN.out _ e; omega
      have ab : Value.ownBlock (.slice va k vc) ≠ some w.heap.size := fun e => by have := own_lt HN.out _ e; omega
      have hown := HN.out
      go_wp2_with fail
      refine wp_region_held_drew (S := (fun w' => w'.cell? ⟨w.heap.size, 1, none⟩ = some (.slice (some ⟨g, off, none⟩) n c) ∧ w'.cell? ⟨g, off + k * 4, none⟩ = some (.int .i64 (t k).kind) ∧ w'.cell? ⟨g, off + k * 4 + 1, none⟩ = some (.int .i64 (t k).num) ∧ w'.cell? ⟨g, off + k * 4 + 2, none⟩ = some (.string (t k).text))) (by kernel_rfl) ⟨b1, d0, d1, d2⟩ (fun hHeld => ?_)
      refine wpAnyH_take (i := 0) (v := ?_) rfl (by kernel_rfl) (by kernel_rfl) (by kernel_rfl) (fun _ _ _ h => h) (Or.inl ⟨by rfl, ?_⟩) hHeld ?_
      rotate_left
      · intro w hSw
        obtain ⟨s1, s2, s3, s4⟩ := hSw
        go_simp
        try with_reducible rfl
      try simp only [Act.put, List.setIfInBounds_toArray]
      refine wpAnyH_take (i := 2) (v := ?_) rfl (by kernel_rfl) (by kernel_rfl) (by kernel_rfl) (fun _ _ _ h => h) (Or.inl ⟨by rfl, ?_⟩) hHeld ?_
      rotate_left
      · intro w hSw
        obtain ⟨s1, s2, s3, s4⟩ := hSw
        go_simp
        try with_reducible rfl
      try simp only [Act.put]
      refine wpAnyH_take (i := 3) (v := ?_) rfl (by kernel_rfl) (by kernel_rfl) (by kernel_rfl) (fun _ _ _ h => h) (Or.inl ⟨by rfl, ?_⟩) hHeld ?_
      rotate_left
      · intro w hSw
        obtain ⟨s1, s2, s3, s4⟩ := hSw
        go_simp
        try with_reducible rfl
      try simp only [Act.put]
      refine wpAnyH_take (i := 4) (v := ?_) rfl (by kernel_rfl) (by kernel_rfl) (by kernel_rfl) (fun _ _ _ h => h) (Or.inl ⟨by rfl, ?_⟩) hHeld ?_
      rotate_left
      · intro w hSw
        obtain ⟨s1, s2, s3, s4⟩ := hSw
        go_simp
        try with_reducible rfl
      try simp only [Act.put]
      refine wpAnyH_take (i := 5) (v := ?_) rfl (by kernel_rfl) (by kernel_rfl) (by kernel_rfl) (fun _ _ _ h => h) (Or.inl ⟨by rfl, ?_⟩) hHeld ?_
      rotate_left
      · intro w hSw
        obtain ⟨s1, s2, s3, s4⟩ := hSw
        go_simp
        try with_reducible rfl
      try simp only [Act.put]
      refine wpAnyH_take (i := 6) (v := ?_) rfl (by kernel_rfl) (by kernel_rfl) (by kernel_rfl) (fun _ _ _ h => h) (Or.inl ⟨by rfl, ?_⟩) hHeld ?_
      rotate_left
      · intro w hSw
        obtain ⟨s1, s2, s3, s4⟩ := hSw
        go_simp
        try with_reducible rfl
      try simp only [Act.put]
      refine wpAnyH_take (i := 7) (v := ?_) rfl (by kernel_rfl) (by kernel_rfl) (by kernel_rfl) (fun _ _ _ h => h) (Or.inl ⟨by rfl, ?_⟩) hHeld ?_
      rotate_left
      · intro w hSw
        obtain ⟨s1, s2, s3, s4⟩ := hSw
        go_simp
        try with_reducible rfl
      try simp only [Act.put]
      refine wpAnyH_take (i := 8) (v := ?_) rfl (by kernel_rfl) (by kernel_rfl) (by kernel_rfl) (fun _ _ _ h => h) (Or.inl ⟨by rfl, ?_⟩) hHeld ?_
      rotate_left
      · intro w hSw
        obtain ⟨s1, s2, s3, s4⟩ := hSw
        go_simp
        try with_reducible rfl
      try simp only [Act.put]
      refine wpAnyH_take (i := 9) (v := ?_) rfl (by kernel_rfl) (by kernel_rfl) (by kernel_rfl) (fun _ _ _ h => h) (Or.inl ⟨by rfl, ?_⟩) hHeld ?_
      rotate_left
      · intro w hSw
        obtain ⟨s1, s2, s3, s4⟩ := hSw
        go_simp
        try with_reducible rfl
      try simp only [Act.put]
      refine wpAnyH_take (i := 10) (v := ?_) rfl (by kernel_rfl) (by kernel_rfl) (by kernel_rfl) (fun _ _ _ h => h) (Or.inl ⟨by rfl, ?_⟩) hHeld ?_
      rotate_left
      · intro w hSw
        obtain ⟨s1, s2, s3, s4⟩ := hSw
        go_simp
        try with_reducible rfl
      try simp only [Act.put]
      refine wpAnyH_take (i := 11) (v := ?_) rfl (by kernel_rfl) (by kernel_rfl) (by kernel_rfl) (fun _ _ _ h => h) (Or.inl ⟨by rfl, ?_⟩) hHeld ?_
      rotate_left
      · intro w hSw
        obtain ⟨s1, s2, s3, s4⟩ := hSw
        go_simp
        try with_reducible rfl
      try simp only [Act.put]
      refine wpAnyH_take (i := 12) (v := ?_) rfl (by kernel_rfl) (by kernel_rfl) (by kernel_rfl) (fun _ _ _ h => h) (Or.inl ⟨by rfl, ?_⟩) hHeld ?_
      rotate_left
      · intro w hSw
        obtain ⟨s1, s2, s3, s4⟩ := hSw
        go_simp
        try with_reducible rfl
      try simp only [Act.put]
      refine wpAnyH_take (i := 13) (v := ?_) rfl (by kernel_rfl) (by kernel_rfl) (by kernel_rfl) (fun _ _ _ h => h) (Or.inl ⟨by rfl, ?_⟩) hHeld ?_
      rotate_left
      · intro w hSw
        obtain ⟨s1, s2, s3, s4⟩ := hSw
        go_simp
        try with_reducible rfl
      try simp only [Act.put]
      refine wpAnyH_take (i := 14) (v := ?_) rfl (by kernel_rfl) (by kernel_rfl) (by kernel_rfl) (fun _ _ _ h => h) (Or.inl ⟨by rfl, ?_⟩) hHeld ?_
      rotate_left
      · intro w hSw
        obtain ⟨s1, s2, s3, s4⟩ := hSw
        go_simp
        try with_reducible rfl
      try simp only [Act.put]
      refine wpAnyH_take (i := 15) (v := ?_) rfl (by kernel_rfl) (by kernel_rfl) (by kernel_rfl) (fun _ _ _ h => h) (Or.inl ⟨by rfl, ?_⟩) hHeld ?_
      rotate_left
      · intro w hSw
        obtain ⟨s1, s2, s3, s4⟩ := hSw
        go_simp
        try with_reducible rfl
      try simp only [Act.put]
      refine wpAnyH_take (i := 16) (v := ?_) rfl (by kernel_rfl) (by kernel_rfl) (by kernel_rfl) (fun _ _ _ h => h) (Or.inl ⟨by rfl, ?_⟩) hHeld ?_
      rotate_left
      · intro w hSw
        obtain ⟨s1, s2, s3, s4⟩ := hSw
        go_simp
        try with_reducible rfl
      try simp only [Act.put]
      refine wpAnyH_take (i := 17) (v := ?_) rfl (by kernel_rfl) (by kernel_rfl) (by kernel_rfl) (fun _ _ _ h => h) (Or.inl ⟨by rfl, ?_⟩) hHeld ?_
      rotate_left
      · intro w hSw
        obtain ⟨s1, s2, s3, s4⟩ := hSw
        go_simp
        try with_reducible rfl
      try simp only [Act.put]
      refine wpAnyH_take (i := 18) (v := ?_) rfl (by kernel_rfl) (by kernel_rfl) (by kernel_rfl) (fun _ _ _ h => h) (Or.inl ⟨by rfl, ?_⟩) hHeld ?_
      rotate_left
      · intro w hSw
        obtain ⟨s1, s2, s3, s4⟩ := hSw
        go_simp
        try with_reducible rfl
      try simp only [Act.put]
      refine wpAnyH_take (i := 19) (v := ?_) rfl (by kernel_rfl) (by kernel_rfl) (by kernel_rfl) (fun _ _ _ h => h) (Or.inl ⟨by rfl, ?_⟩) hHeld ?_
      rotate_left
      · intro w hSw
        obtain ⟨s1, s2, s3, s4⟩ := hSw
        go_simp
        try with_reducible rfl
      try simp only [Act.put]
      refine wpAnyH_take (i := 20) (v := ?_) rfl (by kernel_rfl) (by kernel_rfl) (by kernel_rfl) (fun _ _ _ h => h) (Or.inl ⟨by rfl, ?_⟩) hHeld ?_
      rotate_left
      · intro w hSw
        obtain ⟨s1, s2, s3, s4⟩ := hSw
        go_simp
        try with_reducible rfl
      try simp only [Act.put]
      refine wpAnyH_ready (rs := [1, 21]) (by kernel_rfl) (by simp) ?_
      refine AllReadyH.cons rfl (fun K hK => ?_) ?_
      · go_simp
        refine hK.out _ _ hHeld (fun hHeld => ?_)
        clear hK K
        try simp only [Act.put, List.setIfInBounds_toArray, List.set_cons_zero, List.set_cons_succ]
        refine wpAnyH_ready (rs := [21]) (by kernel_rfl) (by simp) ?_
        refine AllReadyH.cons rfl (fun K hK => ?_) ?_
        · go_simp
          refine hK.out _ _ ?_ (fun hHeld => ?_)
          · exact ⟨(cell_alloc_old _ _ _ _ (by omega)).trans b1, (cell_alloc_old _ _ _ _ hg2).trans d0, (cell_alloc_old _ _ _ _ hg2).trans d1, (cell_alloc_old _ _ _ _ hg2).trans d2⟩
          clear hK K
          try simp only [Act.put, List.setIfInBounds_toArray, List.set_cons_zero, List.set_cons_succ]
          refine wpAnyH_ready (rs := [22]) (by kernel_rfl) (by simp) ?_
          refine AllReadyH.cons rfl (fun K hK => ?_) ?_
          · refine step_append_lies _ (by rfl) _ _ _ (by rfl) (w.heap.size + 3) 60 i0 _ 3 32 Tryz.underlying45 hi hz0 hz1 hz2 rfl (by omega) (.slice va k vc) k (tcells t k) (by rfl) ((hown.alloc _).drew) ⟨wr.heap.size, 0, none⟩ 1 1 [.int .i64 (t k).kind, .int .i64 (t k).num, .string (t k).text] (by rfl) (by rfl) (World.news_of_block (cs := #[.int .i64 (t k).kind, .int .i64 (t k).num, .string (t k).text]) (t := 60) (fr := (0, 0)) (heap_alloc_new wr _)) (by simp [Value.oneCell']) (by omega) (by unfold maxLen; omega) (by omega) (by simp; omega) (wr.heap.size + 1) (by simp) ?_
            intro gg cap w1 hown1 hgrow hat hlt1
            have fz : w1.frozen? ⟨w.heap.size + 1 + 1, 1, none⟩ = false := (hgrow.frozen_far ⟨w.heap.size + 1 + 1, 1, none⟩ (by simp; omega) (Ne.symm ax)).trans ((World.frozen?_of_block (w := wr) (Below.heap_alloc wr _ _ (by show w.heap.size + 1 + 1 < _; omega))).trans f1)
            have fc : w1.cell? ⟨w.heap.size + 1 + 1, 1, none⟩ = some (.slice va k vc) := (hgrow.cell_far ⟨w.heap.size + 1 + 1, 1, none⟩ (by simp; omega) (Ne.symm ax)).trans ((World.cell?_of_block (w := wr) (Below.heap_alloc wr _ _ (by show w.heap.size + 1 + 1 < _; omega))).trans x1)
            refine hK.out _ _ ?_ (fun hHeld => ?_)
            · exact ⟨(hgrow.cell_far ⟨w.heap.size, 1, none⟩ (by simp; omega) (Ne.symm ab)).trans hHeld.1, (hgrow.cell_far ⟨g, off + k * 4, none⟩ (by simp; omega) (Ne.symm ag)).trans hHeld.2.1, (hgrow.cell_far ⟨g, off + k * 4 + 1, none⟩ (by simp; omega) (Ne.symm ag)).trans hHeld.2.2.1, (hgrow.cell_far ⟨g, off + k * 4 + 2, none⟩ (by simp; omega) (Ne.symm ag)).trans hHeld.2.2.2⟩
            clear hK K
            try simp only [Act.put, List.setIfInBounds_toArray]
            refine wpAnyH_take (i := 23) (v := ?_) rfl (by kernel_rfl) (by kernel_rfl) (by kernel_rfl) (fun _ _ _ h => h) (Or.inl ⟨by rfl, ?_⟩) hHeld ?_
            rotate_left
            · intro w hSw
              obtain ⟨s1, s2, s3, s4⟩ := hSw
              go_simp
              try with_reducible rfl
            try simp only [Act.put]
            refine wpAnyH_ready (rs := [24]) (by kernel_rfl) (by simp) ?_
            refine AllReadyH.cons rfl (fun K hK => ?_) ?_
            · go_simp
              refine hK.out _ _ ?_ (fun hHeld => ?_)
              · exact ⟨(cell_other _ _ _ _ _ (by show w.heap.size + 1 + 1 ≠ w.heap.size; omega)).trans hHeld.1, (cell_other _ _ _ _ _ (by show w.heap.size + 1 + 1 ≠ g; omega)).trans hHeld.2.1, (cell_other _ _ _ _ _ (by show w.heap.size + 1 + 1 ≠ g; omega)).trans hHeld.2.2.1, (cell_other _ _ _ _ _ (by show w.heap.size + 1 + 1 ≠ g; omega)).trans hHeld.2.2.2⟩
              clear hK K
              try simp only [Act.put, List.setIfInBounds_toArray, List.set_cons_zero, List.set_cons_succ]
              refine wpAnyH_done (by kernel_rfl) ?_ _
              go_wp2_with fail
              exact given_step nm g off c n at_ t w wr w1 k va vc gg cap hlt HBLK.out HW.out hz hown hown1 hgrow ax
            exact AllReadyH.nil
          exact AllReadyH.nil
        exact AllReadyH.nil
      refine AllReadyH.cons rfl (fun K hK => ?_) ?_
      · go_simp
        refine hK.out _ _ ?_ (fun hHeld => ?_)
        · exact ⟨(cell_alloc_old _ _ _ _ (by omega)).trans b1, (cell_alloc_old _ _ _ _ hg2).trans d0, (cell_alloc_old _ _ _ _ hg2).trans d1, (cell_alloc_old _ _ _ _ hg2).trans d2⟩
        clear hK K
        try simp only [Act.put, List.setIfInBounds_toArray, List.set_cons_zero, List.set_cons_succ]
        refine wpAnyH_ready (rs := [1]) (by kernel_rfl) (by simp) ?_
        refine AllReadyH.cons rfl (fun K hK => ?_) ?_
        · go_simp
          refine hK.out _ _ hHeld (fun hHeld => ?_)
          clear hK K
          try simp only [Act.put, List.setIfInBounds_toArray, List.set_cons_zero, List.set_cons_succ]
          refine wpAnyH_ready (rs := [22]) (by kernel_rfl) (by simp) ?_
          refine AllReadyH.cons rfl (fun K hK => ?_) ?_
          · refine step_append_lies _ (by rfl) _ _ _ (by rfl) (w.heap.size + 3) 60 i0 _ 3 32 Tryz.underlying45 hi hz0 hz1 hz2 rfl (by omega) (.slice va k vc) k (tcells t k) (by rfl) ((hown.alloc _).drew) ⟨wr.heap.size, 0, none⟩ 1 1 [.int .i64 (t k).kind, .int .i64 (t k).num, .string (t k).text] (by rfl) (by rfl) (World.news_of_block (cs := #[.int .i64 (t k).kind, .int .i64 (t k).num, .string (t k).text]) (t := 60) (fr := (0, 0)) (heap_alloc_new wr _)) (by simp [Value.oneCell']) (by omega) (by unfold maxLen; omega) (by omega) (by simp; omega) (wr.heap.size + 1) (by simp) ?_
            intro gg cap w1 hown1 hgrow hat hlt1
            have fz : w1.frozen? ⟨w.heap.size + 1 + 1, 1, none⟩ = false := (hgrow.frozen_far ⟨w.heap.size + 1 + 1, 1, none⟩ (by simp; omega) (Ne.symm ax)).trans ((World.frozen?_of_block (w := wr) (Below.heap_alloc wr _ _ (by show w.heap.size + 1 + 1 < _; omega))).trans f1)
            have fc : w1.cell? ⟨w.heap.size + 1 + 1, 1, none⟩ = some (.slice va k vc) := (hgrow.cell_far ⟨w.heap.size + 1 + 1, 1, none⟩ (by simp; omega) (Ne.symm ax)).trans ((World.cell?_of_block (w := wr) (Below.heap_alloc wr _ _ (by show w.heap.size + 1 + 1 < _; omega))).trans x1)
            refine hK.out _ _ ?_ (fun hHeld => ?_)
            · exact ⟨(hgrow.cell_far ⟨w.heap.size, 1, none⟩ (by simp; omega) (Ne.symm ab)).trans hHeld.1, (hgrow.cell_far ⟨g, off + k * 4, none⟩ (by simp; omega) (Ne.symm ag)).trans hHeld.2.1, (hgrow.cell_far ⟨g, off + k * 4 + 1, none⟩ (by simp; omega) (Ne.symm ag)).trans hHeld.2.2.1, (hgrow.cell_far ⟨g, off + k * 4 + 2, none⟩ (by simp; omega) (Ne.symm ag)).trans hHeld.2.2.2⟩
            clear hK K
            try simp only [Act.put, List.setIfInBounds_toArray]
            refine wpAnyH_take (i := 23) (v := ?_) rfl (by kernel_rfl) (by kernel_rfl) (by kernel_rfl) (fun _ _ _ h => h) (Or.inl ⟨by rfl, ?_⟩) hHeld ?_
            rotate_left
            · intro w hSw
              obtain ⟨s1, s2, s3, s4⟩ := hSw
              go_simp
              try with_reducible rfl
            try simp only [Act.put]
            refine wpAnyH_ready (rs := [24]) (by kernel_rfl) (by simp) ?_
            refine AllReadyH.cons rfl (fun K hK => ?_) ?_
            · go_simp
              refine hK.out _ _ ?_ (fun hHeld => ?_)
              · exact ⟨(cell_other _ _ _ _ _ (by show w.heap.size + 1 + 1 ≠ w.heap.size; omega)).trans hHeld.1, (cell_other _ _ _ _ _ (by show w.heap.size + 1 + 1 ≠ g; omega)).trans hHeld.2.1, (cell_other _ _ _ _ _ (by show w.heap.size + 1 + 1 ≠ g; omega)).trans hHeld.2.2.1, (cell_other _ _ _ _ _ (by show w.heap.size + 1 + 1 ≠ g; omega)).trans hHeld.2.2.2⟩
              clear hK K
              try simp only [Act.put, List.setIfInBounds_toArray, List.set_cons_zero, List.set_cons_succ]
              refine wpAnyH_done (by kernel_rfl) ?_ _
              go_wp2_with fail
              exact given_step nm g off c n at_ t w wr w1 k va vc gg cap hlt HBLK.out HW.out hz hown hown1 hgrow ax
            exact AllReadyH.nil
          exact AllReadyH.nil
        exact AllReadyH.nil
      exact AllReadyH.nil
    · obtain rfl : k = n := by omega
      go_wp2_with fail
      have hne1 : w.heap.size + 1 ≠ 0 := by omega
      refine bodyPost_ret (v := .agg #[.string nm, .slice va k vc]) (by simp [results, go_sem, y0, y1]) rfl ⟨_, rfl, ?_, ?_⟩
      · refine own_mono (own_set (own_set HN.out (p := ⟨w.heap.size + 1, 0, none⟩) (by show w.heap.size + 1 < _; omega) _) (p := ⟨w.heap.size + 1, 1, none⟩) (by show w.heap.size + 1 < _; omega) _) (by omega)
      · exact (HW0.out.setCell (by show w.heap.size ≤ w.heap.size + 1; omega) _).setCell (by show w.heap.size ≤ w.heap.size + 1; omega) _
end Go.Proofs.YtfiipfcdddaceaaGreatDoor
