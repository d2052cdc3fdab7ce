import Derived.Test.YtfiipfcdddaceaaGreatDoorUn
namespace Go.Proofs.YtfiipfcdddaceaaGreatDoor
open Go.RowKit Go.Sort Go.Shelf

/-- Is it in the list? -/
def memB (l : List Atm) (x : Atm) : Bool := l.any fun y => cmpX y x == 0
theorem memB_true {l : List Atm} {x : Atm} : memB l x = true ↔ Mem cmpX l x := by unfold memB Mem; simp only [List.any_eq_true, beq_iff_eq]
theorem memB_false {l : List Atm} {x : Atm} : memB l x = false ↔ ¬ Mem cmpX l x := by
  cases h : memB l x
  · simp only [true_iff]; intro hm; rw [memB_true.2 hm] at h; cases h
  · simp only [Bool.true_eq_false, false_iff, Classical.not_not]; exact memB_true.1 h

set_option maxRecDepth 100000 in
set_option maxHeartbeats 4000000 in
theorem has1_any (gx : Nat) (x y : Atm) (vx vy : Value) (w : World) (hx : IsTerms w vx x.n x.t) (hy : IsTerms w vy y.n y.t) (hgx : gx < w.heap.size) (c0 : w.cell? ⟨gx, 0, none⟩ = some (.string x.na)) (c1 : w.cell? ⟨gx, 1, none⟩ = some vx) :
    Calls Tryz.prog 91 #[.agg #[.string y.na, vy], .pointer (some ⟨gx, 0, none⟩)] w fun e w' => e = .returned (.bool (cmpX y x == 0)) ∧ Below w.heap.size w w' := by
  obtain ⟨px, cx, rfl⟩ := hx.shape
  obtain ⟨py, cy, rfl⟩ := hy.shape
  have hal : Below w.heap.size w (w.alloc (.cells #[.string y.na, .slice py y.n cy] 47)) := (Below.refl _ _).alloc (Nat.le_refl _) _
  have HC := hide (order_any y.na x.na _ _ y.n x.n y.t x.t (w.alloc (.cells #[.string y.na, .slice py y.n cy] 47)) (hy.below hal) (hx.below hal))
  have HAL := hide hal
  clear hx hy hal
  have HR : Hid (cmpX y x = cmpA y.na x.na y.n x.n y.t x.t) := rfl
  generalize cmpA y.na x.na y.n x.n y.t x.t = r at HC HR
  rw [HR.out]
  have d0 := (cell_alloc_old w (.cells #[.string y.na, .slice py y.n cy] 47) gx 0 hgx).trans c0
  have d1 := (cell_alloc_old w (.cells #[.string y.na, .slice py y.n cy] 47) gx 1 hgx).trans c1
  go_enter Tryz.func91, Tryz.ntmps91
  go_wp2_with fail
  refine HC.out.mono ?_
  rintro e w1 ⟨rfl, hb⟩
  go_wp2_with fail
  refine bodyPost_ret (v := .bool (r == 0)) (by simp [results, go_sem]) rfl ⟨rfl, HAL.out.trans (hb.mono (by simp))⟩

set_option maxRecDepth 100000 in
set_option maxHeartbeats 4000000 in
theorem index_any (gx : Nat) (x : Atm) (vx : Value) (B : Nat) (v : Value) (l : List Atm) (w : World) (hl : Atoms B w v l) (hx : IsTerms w vx x.n x.t) (hgx : gx < w.heap.size) (c0 : w.cell? ⟨gx, 0, none⟩ = some (.string x.na)) (c1 : w.cell? ⟨gx, 1, none⟩ = some vx) :
    Calls Tryz.prog 125 #[v, .func (.func 91) #[] #[.pointer (some ⟨gx, 0, none⟩)]] w fun e w' => ∃ i : Int, e = .returned (.int .i64 i) ∧ (0 ≤ i ↔ Mem cmpX l x) ∧ Below w.heap.size w w' := by
  obtain ⟨hl0, ⟨rfl, rfl⟩ | ⟨g, c, rfl, hB, hg, hc, ht⟩⟩ := hl
  · go_enter Tryz.func125, Tryz.ntmps125
    go_wp2_with fail
    go_loop [8] (fun i => i = .int .i64 0) (fun _ => 0)
    case atStart => rfl
    case round =>
      subst hrel
      go_wp2_with fail
      refine bodyPost_ret (v := .int .i64 (-1)) (by simp [results, go_sem]) rfl ⟨-1, rfl, ⟨fun h => by omega, fun ⟨y, hy, _⟩ => by simp at hy⟩, Below.refl _ _⟩
  · have HT := hide ht
    have HX := hide hx
    clear ht hx
    go_enter Tryz.func125, Tryz.ntmps125
    go_wp2_with fail
    go_loopw [8] (fun iv wr => ∃ k : Nat, iv = .int .i64 k ∧ k ≤ l.length ∧ Hid (∀ i (h : i < l.length), i < k → cmpX l[i] x ≠ 0) ∧ Hid (Below w.heap.size w wr)) (fun iv _ => l.length - (intOf iv).toNat)
    case atStart => exact ⟨0, rfl, by omega, fun i h hi => by omega, Below.refl _ _⟩
    case round =>
      obtain ⟨k, rfl, hk, HN, HB⟩ := hrel
      have hzr := HB.out.size
      by_cases hlt : k < l.length
      · obtain ⟨tp, tc, x0, x1, hit, _⟩ := HT.out k hlt
        have y0 := (HB.out.cell (p := ⟨g, k * 2, none⟩) hg).trans x0
        have y1 := (HB.out.cell (p := ⟨g, k * 2 + 1, none⟩) hg).trans x1
        have HC := hide (has1_any gx x l[k] vx (.slice tp l[k].n tc) wr (HX.out.below HB.out) (hit.below HB.out) (by omega) ((HB.out.cell (p := ⟨gx, 0, none⟩) hgx).trans c0) ((HB.out.cell (p := ⟨gx, 1, none⟩) hgx).trans c1))
        clear x0 x1 hit
        have HE := hide (rfl : l[k] = l[k])
        obtain ⟨r, hr⟩ : ∃ r, cmpX l[k] x = r := ⟨_, rfl⟩
        rw [hr] at HC
        have HRR := hide hr
        clear hr
        generalize hn1 : l[k].na = na1 at y0 HC
        generalize hn2 : l[k].n = n1 at y1 HC
        clear hn1 hn2
        have hkz : (k : Int) < (l.length : Int) := by omega
        cases hb0 : (r == 0)
        · rw [hb0] at HC
          go_wp2_with fail
          refine HC.out.mono ?_
          rintro e w1 ⟨rfl, hb⟩
          go_wp2_with fail
          refine ⟨⟨k + 1, by go_num, by omega, ?_, HB.out.trans (hb.mono hzr)⟩, by simp [intOf]; omega⟩
          intro i hi hik
          by_cases h : i < k
          · exact HN.out i hi h
          · obtain rfl : i = k := by omega
            rw [HRR.out]
            simpa using hb0
        · rw [hb0] at HC
          have hr0 : r = 0 := by simpa using hb0
          have HR0 : Hid (Mem cmpX l x) := ⟨l[k], List.getElem_mem hlt, by rw [HRR.out]; exact hr0⟩
          clear hr0
          go_wp2_with fail
          refine HC.out.mono ?_
          rintro e w1 ⟨rfl, hb⟩
          go_wp2_with fail
          refine bodyPost_ret (v := .int .i64 k) (by simp [results, go_sem]) rfl ⟨k, rfl, ⟨fun _ => HR0.out, fun _ => by omega⟩, HB.out.trans (hb.mono hzr)⟩
      · obtain rfl : k = l.length := by omega
        go_wp2_with fail
        refine bodyPost_ret (v := .int .i64 (-1)) (by simp [results, go_sem]) rfl ⟨-1, rfl, ⟨fun h => by omega, fun ⟨y, hy, hy0⟩ => ?_⟩, HB.out⟩
        obtain ⟨i, hi, rfl⟩ := List.getElem_of_mem hy
        exact absurd hy0 (HN.out i hi hi)

set_option maxRecDepth 100000 in
set_option maxHeartbeats 4000000 in
theorem contains_any (gx : Nat) (x : Atm) (vx : Value) (B : Nat) (v : Value) (l : List Atm) (w : World) (hl : Atoms B w v l) (hx : IsTerms w vx x.n x.t) (hgx : gx < w.heap.size) (c0 : w.cell? ⟨gx, 0, none⟩ = some (.string x.na)) (c1 : w.cell? ⟨gx, 1, none⟩ = some vx) :
    Calls Tryz.prog 90 #[v, .func (.func 91) #[] #[.pointer (some ⟨gx, 0, none⟩)]] w fun e w' => e = .returned (.bool (memB l x)) ∧ Below w.heap.size w w' := by
  have HC := hide (index_any gx x vx B v l w hl hx hgx c0 c1)
  clear hl hx c0 c1
  go_enter Tryz.func90, Tryz.ntmps90
  go_wp2_with fail
  refine HC.out.mono ?_
  rintro e w1 ⟨i, rfl, hi, hb⟩
  have HI := hide hi
  clear hi
  go_wp2_with fail
  refine bodyPost_ret (v := .bool (decide (0 ≤ i))) (by simp [results, go_sem]) rfl ⟨?_, hb⟩
  congr 2
  by_cases h : 0 ≤ i
  · rw [decide_eq_true h, memB_true.2 (HI.out.1 h)]
  · rw [decide_eq_false h, memB_false.2 (fun m => h (HI.out.2 m))]

set_option maxRecDepth 100000 in
set_option maxHeartbeats 4000000 in
theorem has_any (x : Atm) (vx : Value) (B : Nat) (v : Value) (l : List Atm) (w : World) (hl : Atoms B w v l) (hx : IsTerms w vx x.n x.t) :
    Calls Tryz.prog 42 #[v, .agg #[.string x.na, vx]] w fun e w' => e = .returned (.bool (memB l x)) ∧ Below w.heap.size w w' := by
  obtain ⟨px, cx, rfl⟩ := hx.shape
  have hal : Below w.heap.size w (w.alloc (.cells #[.string x.na, .slice px x.n cx] 47)) := (Below.refl _ _).alloc (Nat.le_refl _) _
  have HC := hide (contains_any w.heap.size x (.slice px x.n cx) B v l (w.alloc (.cells #[.string x.na, .slice px x.n cx] 47)) (hl.below hal) (hx.below hal) (by simp) (by simp) (by simp))
  have HAL := hide hal
  clear hl hx hal
  go_enter Tryz.func42, Tryz.ntmps42
  go_wp2_with fail
  refine HC.out.mono ?_
  rintro e w1 ⟨rfl, hb⟩
  go_wp2_with fail
  refine bodyPost_ret (v := .bool (memB l x)) (by simp [results, go_sem]) rfl ⟨rfl, HAL.out.trans (hb.mono (by simp))⟩
end Go.Proofs.YtfiipfcdddaceaaGreatDoor
