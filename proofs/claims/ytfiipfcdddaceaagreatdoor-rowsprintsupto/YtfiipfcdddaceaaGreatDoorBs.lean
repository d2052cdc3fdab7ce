import Derived.Test.YtfiipfcdddaceaaGreatDoorHa
namespace Go.Proofs.YtfiipfcdddaceaaGreatDoor
open Go.RowKit Go.Sort Go.Shelf

/-- One place at which the first one that is not less lies. -/
theorem found_iff {l : List Atm} {x : Atm} (hs : Str cmpX l) (i : Nat) (hi : i < l.length) (h1 : ∀ t (h : t < l.length), t < i → cmpX l[t] x < 0) (h2 : ∀ t (h : t < l.length), i ≤ t → 0 ≤ cmpX l[t] x) : memB l x = (cmpX l[i] x == 0) := by
  cases hb : (cmpX l[i] x == 0)
  · rw [memB_false]
    rintro ⟨y, hy, hy0⟩
    obtain ⟨t, ht, rfl⟩ := List.getElem_of_mem hy
    rcases Nat.lt_trichotomy t i with h | h | h
    · have := h1 t ht h; omega
    · subst h; rw [hy0] at hb; cases hb
    · have h3 := str_at hs i t h ht
      have h4 := h2 i hi (Nat.le_refl _)
      rw [cmpX_cmp.right0 _ hy0] at h3
      omega
  · rw [memB_true]
    exact ⟨l[i], List.getElem_mem hi, by simpa using hb⟩

set_option maxRecDepth 100000 in
set_option maxHeartbeats 4000000 in
theorem search_none (x : Atm) (px : Option Addr) (cx : Nat) (w : World) : Calls Tryz.prog 89 #[.slice none 0 0, .agg #[.string x.na, .slice px x.n cx], .func (.func 22) #[] #[]] w fun e w' => e = .returned (.tuple #[.int .i64 0, .bool false]) ∧ Below w.heap.size w w' := by
  go_enter Tryz.func89, Tryz.ntmps89
  go_wp2_with fail
  go_loop [9, 10] (fun i j => i = .int .i64 0 ∧ j = .int .i64 0) (fun _ _ => 0)
  case atStart => exact ⟨rfl, rfl⟩
  case round =>
    obtain ⟨rfl, rfl⟩ := hrel
    go_wp2_with fail
    go_big_region
    go_wp2_with fail
    exact bodyPost_ret (v := .tuple #[.int .i64 0, .bool false]) (by simp [results, go_sem]) rfl ⟨rfl, ((Below.refl _ _).alloc (Nat.le_refl _) _).drew⟩

set_option maxRecDepth 100000 in
set_option maxHeartbeats 4000000 in
theorem search_some (x : Atm) (px : Option Addr) (cx g c : Nat) (l : List Atm) (w : World) (hl0 : l.length ≤ 1073741824) (hg : g < w.heap.size) (hs : Str cmpX l) (hx : IsTerms w (.slice px x.n cx) x.n x.t)
    (ht : ∀ i (h : i < l.length), ∃ tp tc, w.cell? ⟨g, i * 2, none⟩ = some (.string l[i].na) ∧ w.cell? ⟨g, i * 2 + 1, none⟩ = some (.slice tp l[i].n tc) ∧ IsTerms w (.slice tp l[i].n tc) l[i].n l[i].t) :
    Calls Tryz.prog 89 #[.slice (some ⟨g, 0, none⟩) l.length c, .agg #[.string x.na, .slice px x.n cx], .func (.func 22) #[] #[]] w fun e w' => ∃ i : Int, e = .returned (.tuple #[.int .i64 i, .bool (memB l x)]) ∧ Below w.heap.size w w' := by
  have mixed := mixed_z
  have HT := hide ht
  have HX := hide hx
  have HS := hide hs
  have HW : Hid (Below w.heap.size w (w.alloc (.cells #[.string x.na, .slice px x.n cx] 47))) := (Below.refl _ _).alloc (Nat.le_refl _) _
  clear ht hx hs
  have HP : Hid (∀ k (hk : k < l.length) wr, Below (w.heap.size + 1) (w.alloc (.cells #[.string x.na, .slice px x.n cx] 47)) wr → ∃ na n tp tc, (∀ q os, (grow (wr.drewN q) os).cell? ⟨g, k * 2, none⟩ = some (.string na)) ∧ (∀ q os, (grow (wr.drewN q) os).cell? ⟨g, k * 2 + 1, none⟩ = some (.slice tp n tc)) ∧ (∀ q os, (grow (wr.drewN q) os).cell? ⟨w.heap.size, 0, none⟩ = some (.string x.na)) ∧ (∀ q os, (grow (wr.drewN q) os).cell? ⟨w.heap.size, 1, none⟩ = some (.slice px x.n cx)) ∧
      ∀ q os, Calls Tryz.prog 22 #[.agg #[.string na, .slice tp n tc], .agg #[.string x.na, .slice px x.n cx]] (grow (wr.drewN q) os) fun e w' => e = .returned (.int .i64 (cmpX l[k] x)) ∧ ∃ q' os', w' = grow ((grow (wr.drewN q) os).drewN q') os') := fun k hk wr hb => by
    obtain ⟨tp, tc, x0, x1, hit⟩ := HT.out k hk
    have hbw : Below w.heap.size w wr := HW.out.trans (hb.mono (by omega))
    have hzb := hb.size
    simp only [World.size_alloc] at hzb
    refine ⟨l[k].na, l[k].n, tp, tc, fun q os => cell_grown (show g < wr.heap.size by omega) ((hbw.cell (p := ⟨g, k * 2, none⟩) hg).trans x0) q os, fun q os => cell_grown (show g < wr.heap.size by omega) ((hbw.cell (p := ⟨g, k * 2 + 1, none⟩) hg).trans x1) q os,
      fun q os => cell_grown (show w.heap.size < wr.heap.size by omega) ((hb.cell (p := ⟨w.heap.size, 0, none⟩) (show w.heap.size < w.heap.size + 1 by omega)).trans (by simp)) q os, fun q os => cell_grown (show w.heap.size < wr.heap.size by omega) ((hb.cell (p := ⟨w.heap.size, 1, none⟩) (show w.heap.size < w.heap.size + 1 by omega)).trans (by simp)) q os, fun q os => ?_⟩
    have hB : Below w.heap.size w (grow (wr.drewN q) os) := hbw.trans ((Gr.below ⟨q, os, rfl⟩).mono (by omega))
    exact order_gr l[k].na x.na _ _ l[k].n x.n l[k].t x.t _ (hit.below hB) (HX.out.below hB)
  go_enter Tryz.func89, Tryz.ntmps89
  go_wp2_with fail
  go_loopw [9, 10] (fun v u wr => ∃ i j : Nat, v = .int .i64 i ∧ u = .int .i64 j ∧ i ≤ j ∧ j ≤ l.length ∧ Hid (∀ t (h : t < l.length), t < i → cmpX l[t] x < 0) ∧ Hid (∀ t (h : t < l.length), j ≤ t → 0 ≤ cmpX l[t] x) ∧ Hid (Below (w.heap.size + 1) (w.alloc (.cells #[.string x.na, .slice px x.n cx] 47)) wr)) (fun v u _ => (intOf u).toNat - (intOf v).toNat)
  case atStart => exact ⟨0, l.length, rfl, rfl, by omega, Nat.le_refl _, fun t h ht => by omega, fun t h ht => by omega, Below.refl _ _⟩
  case round =>
    obtain ⟨i, j, rfl, rfl, hij, hjl, H1, H2, HB⟩ := hrel
    by_cases hlt : i < j
    · obtain ⟨h, hh⟩ : ∃ h, (i + j) / 2 = h := ⟨_, rfl⟩
      have ehz : ((i : Int) + (j : Int)) / 2 = (h : Int) := by omega
      have hih : i ≤ h ∧ h < j := by omega
      have hhl : h < l.length := by omega
      obtain ⟨na, n, tp, tc, c0, c1, c2, c3, hc⟩ := HP.out h hhl wr HB.out
      obtain ⟨r, hr⟩ : ∃ r, cmpX l[h] x = r := ⟨_, rfl⟩
      rw [hr] at hc
      have HR := hide hr
      have bh : (h : Int) < (l.length : Int) := by omega
      clear hr hh
      by_cases hlv : r < 0
      · go_wp2_with fail
        go_quiet_grown (first | (go_at_call 22; refine Calls.grown_of (hc _ _)))
        go_wp2_with fail
        refine ⟨⟨h + 1, j, by go_num, rfl, by omega, by omega, ?_, H2, HB.out.trans ((Gr.below ⟨nq, osq, rfl⟩).mono (by have := HB.out.size; simpa using this))⟩, by simp [intOf]; omega⟩
        intro t ht1 ht2
        by_cases hth : t = h
        · subst hth; rw [HR.out]; exact hlv
        · have h3 := str_at HS.out t h (by omega) hhl
          have h4 : cmpX l[h] x = -1 := cmpX_cmp.lt_of (by rw [HR.out]; exact hlv)
          have := cmpX_cmp.less _ _ _ h3 h4
          omega
      · have hnl : decide (r < 0) = false := decide_eq_false (by omega)
        go_wp2_with fail
        go_quiet_grown (first | (go_at_call 22; refine Calls.grown_of (hc _ _)))
        go_wp2_with fail
        refine ⟨⟨i, h, rfl, rfl, by omega, by omega, H1, ?_, HB.out.trans ((Gr.below ⟨nq, osq, rfl⟩).mono (by have := HB.out.size; simpa using this))⟩, by simp [intOf]; omega⟩
        intro t ht1 ht2
        by_cases hth : t = h
        · subst hth; rw [HR.out]; omega
        · have h3 := str_at HS.out h t (by omega) ht1
          apply Classical.byContradiction
          intro hneg
          have h6 : cmpX l[t] x = -1 := cmpX_cmp.lt_of (by omega)
          have h5 := cmpX_cmp.less _ _ _ h3 h6
          rw [HR.out] at h5
          omega
    · obtain rfl : i = j := by omega
      by_cases hil : i < l.length
      · obtain ⟨na, n, tp, tc, c0, c1, c2, c3, hc⟩ := HP.out i hil wr HB.out
        have HF := hide (found_iff HS.out i hil H1.out H2.out)
        obtain ⟨r, hr⟩ : ∃ r, cmpX l[i] x = r := ⟨_, rfl⟩
        rw [hr] at hc HF
        have bh : (i : Int) < (l.length : Int) := by omega
        clear hr H1 H2
        go_wp2_with fail
        go_quiet_grown (first | (go_at_call 22; refine Calls.grown_of (hc _ _)))
        go_wp2_with fail
        refine bodyPost_ret (v := .tuple #[.int .i64 i, .bool (r == 0)]) (by simp [results, go_sem]) rfl ⟨i, by rw [HF.out], HW.out.trans ((HB.out.mono (by omega)).trans ((Gr.below ⟨nq, osq, rfl⟩).mono (by have := HB.out.size; simp at this; omega)))⟩
      · have hin : ¬ (i : Int) < (l.length : Int) := by omega
        have HF : Hid (memB l x = false) := by
          refine memB_false.2 ?_
          rintro ⟨y, hy, hy0⟩
          obtain ⟨t, ht, rfl⟩ := List.getElem_of_mem hy
          have := H1.out t ht (by omega)
          omega
        clear H1 H2
        go_wp2_with fail
        go_big_region
        go_wp2_with fail
        refine bodyPost_ret (v := .tuple #[.int .i64 i, .bool false]) (by simp [results, go_sem]) rfl ⟨i, by rw [HF.out], HW.out.trans (HB.out.drew.mono (by omega))⟩

theorem search_any (x : Atm) (px : Option Addr) (cx B : Nat) (v : Value) (l : List Atm) (w : World) (h : Atoms B w v l) (hs : Str cmpX l) (hx : IsTerms w (.slice px x.n cx) x.n x.t) :
    Calls Tryz.prog 89 #[v, .agg #[.string x.na, .slice px x.n cx], .func (.func 22) #[] #[]] w fun e w' => ∃ i : Int, e = .returned (.tuple #[.int .i64 i, .bool (memB l x)]) ∧ Below w.heap.size w w' := by
  obtain ⟨hl, ⟨rfl, rfl⟩ | ⟨g, c, rfl, hB, hg, hc, ht⟩⟩ := h
  · refine (search_none x px cx w).mono fun _ _ q => ⟨0, ?_, q.2⟩
    have : memB [] x = false := memB_false.2 fun ⟨y, hy, _⟩ => by simp at hy
    rw [this]; exact q.1
  · exact search_some x px cx g c l w hl hg hs hx fun i hi => by
      obtain ⟨tp, tc, h1, h2, h3, _⟩ := ht i hi
      exact ⟨tp, tc, h1, h2, h3⟩

/-- What is left. -/
def leftL (la lg : List Atm) : List Atm := la.filter fun y => !memB lg y
theorem left_mem {la lg : List Atm} (x : Atm) : Mem cmpX (leftL la lg) x ↔ Mem cmpX la x ∧ ¬ Mem cmpX lg x := by
  have key : ∀ y, cmpX y x = 0 → (Mem cmpX lg y ↔ Mem cmpX lg x) := fun y hy => by
    constructor
    · rintro ⟨z, hz, hz0⟩; exact ⟨z, hz, by rw [← cmpX_cmp.right0 z hy]; exact hz0⟩
    · rintro ⟨z, hz, hz0⟩; exact ⟨z, hz, by rw [cmpX_cmp.right0 z hy]; exact hz0⟩
  constructor
  · rintro ⟨y, hy, hy0⟩
    obtain ⟨h1, h2⟩ := List.mem_filter.1 hy
    refine ⟨⟨y, h1, hy0⟩, fun hm => ?_⟩
    have := memB_true.2 ((key y hy0).2 hm)
    rw [this] at h2; cases h2
  · rintro ⟨⟨y, hy, hy0⟩, hn⟩
    refine ⟨y, List.mem_filter.2 ⟨hy, ?_⟩, hy0⟩
    rw [memB_false.2 (fun h => hn ((key y hy0).1 h))]; rfl
theorem left_str {la lg : List Atm} (h : Str cmpX la) : Str cmpX (leftL la lg) := List.Pairwise.sublist List.filter_sublist h
theorem left_step (la lg : List Atm) (k : Nat) (hk : k < la.length) : leftL (la.take (k + 1)) lg = if memB lg la[k] then leftL (la.take k) lg else leftL (la.take k) lg ++ [la[k]] := by
  unfold leftL
  rw [List.take_succ_eq_append_getElem hk, List.filter_append]
  cases h : memB lg la[k] <;> simp [h]
end Go.Proofs.YtfiipfcdddaceaaGreatDoor
