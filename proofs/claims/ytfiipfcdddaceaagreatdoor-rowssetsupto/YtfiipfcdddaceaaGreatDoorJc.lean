import Derived.Test.YtfiipfcdddaceaaGreatDoorJb
namespace Go.Proofs.YtfiipfcdddaceaaGreatDoor
open Go.RowKit Go.Sort Go.Shelf

/-- Is a text a NAME, whole? -/
def nmB (s : ByteArray) : Bool := if h : 0 < s.size then smallB (s[0].toNat : Int) && decide (wl (s.data.toList.drop 0) = s.size) else false
theorem nmB_small {s : ByteArray} (h : 0 < s.size) (hs : smallB (s[0].toNat : Int) = true) : nmB s = decide (wl (s.data.toList.drop 0) = s.size) := by
  unfold nmB; rw [dif_pos h, hs, Bool.true_and]
theorem nmB_no {s : ByteArray} (h : ∀ h : 0 < s.size, smallB (s[0].toNat : Int) = false) : nmB s = false := by
  unfold nmB; split
  · rename_i h0; rw [h h0, Bool.false_and]
  · rfl

set_option maxHeartbeats 400000 in
theorem nameAt_not (s : ByteArray) (w : World) (hs : s.size ≤ maxLen) (h : ∀ h : 0 < s.size, smallB (s[0].toNat : Int) = false) :
    Calls Tryz.prog 123 #[.string s, .int .i64 0] w fun e w' => ∃ wd, e = .returned (.tuple #[.string wd, .bool false]) ∧ w' = w := by
  by_cases hl : ∃ h : 0 < s.size, letterB (s[0].toNat : Int) = true
  · obtain ⟨hi, hl⟩ := hl
    have h := h hi
    have hw := word_facts s 0 hi hl
    have hc := wordAt_some s 0 w hs hi hl
    generalize s.extract 0 (0 + wl (s.data.toList.drop 0)) = wd at *
    obtain ⟨h0, h1⟩ := hw
    rw [← h1] at h
    clear h1 hl
    have HC := hide hc
    clear hc
    have hne := not_empty wd h0
    go_enter Tryz.func123, Tryz.ntmps123
    go_wp2_with fail
    refine HC.out.mono ?_
    rintro e w' ⟨rfl, rfl⟩
    go_wp2_with (go_at_call 144; refine (small_any _ _).mono ?_; rintro e w' ⟨rfl, rfl⟩)
    exact bodyPost_ret (v := .tuple #[.string wd, .bool false]) (by simp [results, go_sem]) rfl ⟨_, rfl, rfl⟩
  · have HC := hide (wordAt_none s 0 w hs (Nat.zero_le _) (fun h => by
      cases e : letterB (s[0].toNat : Int)
      · rfl
      · exact absurd ⟨h, e⟩ hl))
    clear h hl
    go_enter Tryz.func123, Tryz.ntmps123
    go_wp2_with fail
    refine HC.out.mono ?_
    rintro e w' ⟨rfl, rfl⟩
    go_wp2_with (go_at_call 144; refine (small_any _ _).mono ?_; rintro e w' ⟨rfl, rfl⟩)
    exact bodyPost_ret (v := .tuple #[.string ⟨#[]⟩, .bool false]) (by simp [results, go_sem]) rfl ⟨_, rfl, rfl⟩

theorem extract_all (s : ByteArray) (n : Nat) (hn : n ≤ s.size) : (s.extract 0 n = s) ↔ n = s.size := by
  constructor
  · intro h
    have := congrArg ByteArray.size h
    simp at this
    omega
  · rintro rfl; simp

set_option maxRecDepth 100000 in
set_option maxHeartbeats 1000000 in
theorem isName_any (s : ByteArray) (w : World) (hs : s.size ≤ maxLen) : Calls Tryz.prog 85 #[.string s] w fun e w' => e = .returned (.bool (nmB s)) ∧ w' = w := by
  by_cases h : ∃ h : 0 < s.size, smallB (s[0].toNat : Int) = true
  · obtain ⟨h0, h1⟩ := h
    have HN := hide (nameAt_some s 0 w hs h0 h1)
    have hle := wl_le s 0 (Nat.zero_le _)
    rw [nmB_small h0 h1]
    rw [Nat.zero_add] at HN hle
    by_cases he : wl (s.data.toList.drop 0) = s.size
    · have hx := (extract_all s _ hle).2 he
      rw [decide_eq_true he]
      rw [hx] at HN
      clear h1 he hx hle
      go_enter Tryz.func85, Tryz.ntmps85
      go_wp2_with fail
      refine HN.out.mono ?_
      rintro x w1 ⟨rfl, rfl⟩
      go_wp2_with fail
      exact bodyPost_ret (v := .bool true) (by simp [results, go_sem]) rfl ⟨rfl, rfl⟩
    · have hx : ¬ (s.extract 0 (wl (s.data.toList.drop 0)) = s) := fun h => he ((extract_all s _ hle).1 h)
      rw [decide_eq_false he]
      generalize s.extract 0 (wl (s.data.toList.drop 0)) = wd at *
      have hx2 : ¬ wd.toList = s.toList := fun h => hx (by
        rw [ByteArray.toList_eq, ByteArray.toList_eq] at h
        exact ByteArray.ext (Array.ext' h))
      clear h1 he hle hx
      go_enter Tryz.func85, Tryz.ntmps85
      go_wp2_with fail
      refine HN.out.mono ?_
      rintro x w1 ⟨rfl, rfl⟩
      go_wp2_with fail
      exact bodyPost_ret (v := .bool false) (by simp [results, go_sem, hx2]) rfl ⟨rfl, rfl⟩
  · have hno : ∀ h : 0 < s.size, smallB (s[0].toNat : Int) = false := fun h0 => by
      cases e : smallB (s[0].toNat : Int)
      · rfl
      · exact absurd ⟨h0, e⟩ h
    have HN := hide (nameAt_not s w hs hno)
    rw [nmB_no hno]
    clear h hno
    go_enter Tryz.func85, Tryz.ntmps85
    go_wp2_with fail
    refine HN.out.mono ?_
    rintro x w1 ⟨wd, rfl, rfl⟩
    go_wp2_with fail
    exact bodyPost_ret (v := .bool false) (by simp [results, go_sem]) rfl ⟨rfl, rfl⟩

/-- Is a term a value? -/
def valB (t : Tm) : Bool := if t.kind = 1 then decide (-999999999999999999 ≤ t.num ∧ t.num ≤ 999999999999999999) else if t.kind = 2 then nmB t.text else decide (t.kind = 3)
def factB (x : Atm) : Bool := nmB x.na && decide (x.n ≤ 8) && (List.range x.n).all fun j => valB (x.t j)

set_option maxRecDepth 100000 in
set_option maxHeartbeats 1000000 in
theorem isValue_any (t : Tm) (w : World) (hs : t.text.size ≤ maxLen) : Calls Tryz.prog 86 #[t.val] w fun e w' => e = .returned (.bool (valB t)) ∧ Below w.heap.size w w' := by
  obtain ⟨k, n, tx⟩ := t
  simp only [Tm.val] at *
  have HN := hide (fun w => isName_any tx w hs)
  have HB : Hid (∀ o, Below w.heap.size w (w.alloc o)) := fun o => (Below.refl _ _).alloc (Nat.le_refl _) o
  clear hs
  cases e1 : (k == 1)
  · cases e2 : (k == 2)
    · have hv : valB ⟨k, n, tx⟩ = (k == 3) := by
        have a : ¬ k = 1 := by simpa using e1
        have b : ¬ k = 2 := by simpa using e2
        simp [valB, a, b]
        rfl
      rw [hv]
      go_enter Tryz.func86, Tryz.ntmps86
      go_wp2_with fail
      exact bodyPost_ret (v := .bool (k == 3)) (by simp [results, go_sem]) rfl ⟨rfl, HB.out _⟩
    · have hv : valB ⟨k, n, tx⟩ = nmB tx := by
        have a : k = 2 := by simpa using e2
        simp [valB, a]
      rw [hv]
      go_enter Tryz.func86, Tryz.ntmps86
      go_wp2_with fail
      refine (HN.out _).mono ?_
      rintro x w1 ⟨rfl, rfl⟩
      go_wp2_with fail
      exact bodyPost_ret (v := .bool (nmB tx)) (by simp [results, go_sem]) rfl ⟨rfl, HB.out _⟩
  · have hv : valB ⟨k, n, tx⟩ = decide (-999999999999999999 ≤ n ∧ n ≤ 999999999999999999) := by
      have a : k = 1 := by simpa using e1
      simp [valB, a]
    rw [hv]
    by_cases h0 : -999999999999999999 ≤ n
    · by_cases h1 : n ≤ 999999999999999999
      · rw [decide_eq_true ⟨h0, h1⟩]
        go_enter Tryz.func86, Tryz.ntmps86
        go_wp2_with fail
        exact bodyPost_ret (v := .bool true) (by simp [results, go_sem]) rfl ⟨rfl, HB.out _⟩
      · rw [decide_eq_false (fun h => h1 h.2)]
        go_enter Tryz.func86, Tryz.ntmps86
        go_wp2_with fail
        exact bodyPost_ret (v := .bool false) (by simp [results, go_sem]) rfl ⟨rfl, HB.out _⟩
    · rw [decide_eq_false (fun h => h0 h.1)]
      go_enter Tryz.func86, Tryz.ntmps86
      go_wp2_with fail
      exact bodyPost_ret (v := .bool false) (by simp [results, go_sem]) rfl ⟨rfl, HB.out _⟩
end Go.Proofs.YtfiipfcdddaceaaGreatDoor

namespace Go.Proofs.YtfiipfcdddaceaaGreatDoor
open Go.RowKit Go.Sort Go.Shelf

theorem all_range_succ (f : Nat → Bool) (n : Nat) : (List.range (n + 1)).all f = ((List.range n).all f && f n) := by
  rw [List.range_succ, List.all_append]
  simp
theorem all_range_false (f : Nat → Bool) (n k : Nat) (hk : k < n) (h : f k = false) : (List.range n).all f = false := by
  rw [List.all_eq_false]
  exact ⟨k, List.mem_range.2 hk, by simp [h]⟩

set_option maxRecDepth 100000 in
set_option maxHeartbeats 2000000 in
/-- Is it a fact? The program's answer. -/
theorem fact_any (x : Atm) (p : Option Addr) (c : Nat) (w : World) (h : IsTerms w (.slice p x.n c) x.n x.t) (hna : x.na.size ≤ maxLen) (htx : ∀ j, j < x.n → (x.t j).text.size ≤ maxLen) :
    Calls Tryz.prog 38 #[.agg #[.string x.na, .slice p x.n c]] w fun e w' => e = .returned (.bool (factB x)) ∧ Below w.heap.size w w' := by
  obtain ⟨na, n, t⟩ := x
  simp only at *
  have HN := hide (fun w => isName_any na w hna)
  have HV := hide (fun j (hj : j < n) w => isValue_any (t j) w (htx j hj))
  have HI := hide h
  have hn := h.1
  have HF : Hid (factB ⟨na, n, t⟩ = (nmB na && decide (n ≤ 8) && (List.range n).all fun j => valB (t j))) := rfl
  clear h hna htx
  cases e1 : nmB na
  · have hf : factB ⟨na, n, t⟩ = false := by rw [HF.out, e1]; rfl
    rw [hf]
    rw [e1] at HN
    go_enter Tryz.func38, Tryz.ntmps38
    go_wp2_with fail
    refine (HN.out _).mono ?_
    rintro x w1 ⟨rfl, rfl⟩
    go_wp2_with fail
    exact bodyPost_ret (v := .bool false) (by simp [results, go_sem]) rfl ⟨rfl, (Below.refl _ _).alloc (Nat.le_refl _) _⟩
  · rw [e1] at HN
    by_cases h8 : n ≤ 8
    · go_enter Tryz.func38, Tryz.ntmps38
      go_wp2_with fail
      refine (HN.out _).mono ?_
      rintro x w1 ⟨rfl, rfl⟩
      go_wp2_with fail
      have HB0 : Hid (Below w.heap.size w (w.alloc (.cells #[.string na, .slice p n c] 47))) := (Below.refl _ _).alloc (Nat.le_refl _) _
      generalize w.alloc (.cells #[.string na, .slice p n c] 47) = w2 at *
      go_loopw [18] (fun iv wr => ∃ k : Nat, iv = .int .i64 k ∧ k ≤ n ∧ Hid ((List.range k).all (fun j => valB (t j)) = true) ∧ Hid (Below w.heap.size w wr)) (fun iv _ => n - (intOf iv).toNat)
      case atStart => exact ⟨0, rfl, by omega, rfl, HB0⟩
      case round =>
        obtain ⟨k, rfl, hk, HAL, HB⟩ := hrel
        have hzr := HB.out.size
        by_cases hlt : k < n
        · obtain ⟨_, ⟨_, _, _, h0⟩ | ⟨g3, c3, hv3, hg3, hc3, ht3⟩⟩ := HI.out
          · omega
          · cases hv3
            obtain ⟨a0, a1, a2⟩ := ht3 k hlt
            rw [Nat.mul_comm] at a0 a1 a2
            have y0 := (HB.out.cell (p := ⟨g3, k * 3, none⟩) hg3).trans a0
            have y1 := (HB.out.cell (p := ⟨g3, k * 3 + 1, none⟩) hg3).trans a1
            have y2 := (HB.out.cell (p := ⟨g3, k * 3 + 2, none⟩) hg3).trans a2
            have hg3r : g3 < wr.heap.size := by omega
            have hjz : (k : Int) < (n : Int) := by omega
            have HC := hide (HV.out k hlt)
            have HS := hide (all_range_succ (fun j => valB (t j)) k)
            have HFN := hide (all_range_false (fun j => valB (t j)) n k hlt)
            clear a0 a1 a2 ht3
            obtain ⟨tm, htm⟩ : ∃ tm, t k = tm := ⟨_, rfl⟩
            simp only [htm] at y0 y1 y2 HC HS HFN
            obtain ⟨tk, tn, tx⟩ := tm
            simp only [Tm.val] at y0 y1 y2 HC
            clear htm
            generalize valB ⟨tk, tn, tx⟩ = vb at *
            cases vb
            · have hf : factB ⟨na, n, t⟩ = false := by rw [HF.out, HFN.out rfl, Bool.and_false]
              go_wp2_with fail
              refine (HC.out _).mono ?_
              rintro x w3 ⟨rfl, hb3⟩
              have HB3 : Hid (Below w.heap.size w w3) := (HB.out.alloc hzr _).trans (hb3.mono (by simp; omega))
              clear hb3
              go_wp2_with fail
              rw [hf]
              exact bodyPost_ret (v := .bool false) (by simp [results, go_sem]) rfl ⟨rfl, HB3.out⟩
            · go_wp2_with fail
              refine (HC.out _).mono ?_
              rintro x w3 ⟨rfl, hb3⟩
              have HB3 : Hid (Below w.heap.size w w3) := (HB.out.alloc hzr _).trans (hb3.mono (by simp; omega))
              clear hb3
              go_wp2_with fail
              exact ⟨⟨k + 1, by go_num, by omega, by show _ = _; rw [HS.out, HAL.out]; rfl, HB3⟩, by simp [intOf]; omega⟩
        · obtain rfl : k = n := by omega
          have hf : factB ⟨na, k, t⟩ = true := by rw [HF.out, e1, HAL.out, decide_eq_true h8]; rfl
          go_wp2_with fail
          rw [hf]
          exact bodyPost_ret (v := .bool true) (by simp [results, go_sem]) rfl ⟨rfl, HB.out⟩
    · have hf : factB ⟨na, n, t⟩ = false := by rw [HF.out, e1, decide_eq_false h8]; rfl
      rw [hf]
      go_enter Tryz.func38, Tryz.ntmps38
      go_wp2_with fail
      refine (HN.out _).mono ?_
      rintro x w1 ⟨rfl, rfl⟩
      go_wp2_with fail
      exact bodyPost_ret (v := .bool false) (by simp [results, go_sem]) rfl ⟨rfl, (Below.refl _ _).alloc (Nat.le_refl _) _⟩
end Go.Proofs.YtfiipfcdddaceaaGreatDoor

namespace Go.Proofs.YtfiipfcdddaceaaGreatDoor
open Go.RowKit Go.Sort Go.Shelf

set_option maxHeartbeats 1000000 in
theorem rsmall_any (c : Int) (w : World) : Calls Tryz.prog 121 #[.int .u8 c] w fun e w' => e = .returned (.bool (smallB c)) ∧ w' = w := by
  by_cases h0 : 97 ≤ c
  · by_cases h1 : c ≤ 122
    · rw [show smallB c = true from decide_eq_true ⟨h0, h1⟩]
      go_enter Tryz.func121, Tryz.ntmps121
      go_wp2_with fail
      exact bodyPost_ret (v := .bool true) (by simp [results, go_sem]) rfl ⟨rfl, rfl⟩
    · rw [show smallB c = false from decide_eq_false (fun h => h1 h.2)]
      go_enter Tryz.func121, Tryz.ntmps121
      go_wp2_with fail
      exact bodyPost_ret (v := .bool false) (by simp [results, go_sem]) rfl ⟨rfl, rfl⟩
  · rw [show smallB c = false from decide_eq_false (fun h => h0 h.1)]
    go_enter Tryz.func121, Tryz.ntmps121
    go_wp2_with fail
    exact bodyPost_ret (v := .bool false) (by simp [results, go_sem]) rfl ⟨rfl, rfl⟩
set_option maxHeartbeats 1000000 in
theorem rdigit_any (c : Int) (w : World) : Calls Tryz.prog 82 #[.int .u8 c] w fun e w' => e = .returned (.bool (digitB c)) ∧ w' = w := by
  by_cases h0 : 48 ≤ c
  · by_cases h1 : c ≤ 57
    · rw [show digitB c = true from decide_eq_true ⟨h0, h1⟩]
      go_enter Tryz.func82, Tryz.ntmps82
      go_wp2_with fail
      exact bodyPost_ret (v := .bool true) (by simp [results, go_sem]) rfl ⟨rfl, rfl⟩
    · rw [show digitB c = false from decide_eq_false (fun h => h1 h.2)]
      go_enter Tryz.func82, Tryz.ntmps82
      go_wp2_with fail
      exact bodyPost_ret (v := .bool false) (by simp [results, go_sem]) rfl ⟨rfl, rfl⟩
  · rw [show digitB c = false from decide_eq_false (fun h => h0 h.1)]
    go_enter Tryz.func82, Tryz.ntmps82
    go_wp2_with fail
    exact bodyPost_ret (v := .bool false) (by simp [results, go_sem]) rfl ⟨rfl, rfl⟩

set_option maxRecDepth 100000 in
set_option maxHeartbeats 2000000 in
theorem word_no (s : ByteArray) (i : Nat) (w : World) (_hs : s.size ≤ maxLen) (h : ∀ h : i < s.size, smallB (s[i].toNat : Int) = false) : Calls Tryz.prog 79 #[.string s, .int .i64 i] w fun e w' => e = .returned (.int .i64 0) ∧ w' = w := by
  by_cases h0 : i < s.size
  · have h1 := h h0
    clear h
    go_enter Tryz.func79, Tryz.ntmps79
    go_wp2_with (go_at_call 121; refine (rsmall_any _ _).mono ?_; rintro e w' ⟨rfl, rfl⟩)
    exact bodyPost_ret (v := .int .i64 0) (by simp [results, go_sem]) rfl ⟨rfl, rfl⟩
  · clear h
    go_enter Tryz.func79, Tryz.ntmps79
    go_wp2_with fail
    exact bodyPost_ret (v := .int .i64 0) (by simp [results, go_sem]) rfl ⟨rfl, rfl⟩

set_option maxRecDepth 100000 in
set_option maxHeartbeats 2000000 in
theorem word_yes (s : ByteArray) (i : Nat) (w : World) (hs : s.size ≤ maxLen) (h0 : i < s.size) (h1 : smallB (s[i].toNat : Int) = true) : Calls Tryz.prog 79 #[.string s, .int .i64 i] w fun e w' => e = .returned (.int .i64 (wl (s.data.toList.drop i))) ∧ w' = w := by
  unfold maxLen at hs
  go_enter Tryz.func79, Tryz.ntmps79
  go_wp2_with (go_at_call 121; refine (rsmall_any _ _).mono ?_; rintro e w' ⟨rfl, rfl⟩)
  have HL : Hid (letterB (s[i].toNat : Int) = true) := by show _ = _; simp [letterB, h1]
  clear h1
  have hdi : decide (s.size ≤ i) = false := decide_eq_false (by omega)
  rw [hdi]
  clear hdi
  go_loopw [5] (fun t wr => ∃ k : Nat, i + k ≤ s.size ∧ t = .int .i64 k ∧ (∀ j, i ≤ j → j < i + k → ∃ h : j < s.size, wordB (s[j].toNat : Int) = true) ∧ Hid (wr = w')) (fun t _ => s.size - (intOf t).toNat)
  case atStart => exact ⟨0, by omega, rfl, fun j a b => by omega, rfl⟩
  case round =>
    obtain ⟨k, hk2, rfl, hall, HWR⟩ := hrel
    have HA : Hid (∀ j, i ≤ j → j < i + k → ∃ h : j < s.size, wordB (s[j].toNat : Int) = true) := hall
    clear hall
    have e0 : ((i : Int) + (k : Int)).toNat = i + k := by omega
    have ew : IntKind.i64.wrap ((i : Int) + (k : Int)) = (i : Int) + (k : Int) := by rw [IntKind.wrap_i64]; omega
    by_cases hlt : i + k < s.size
    · have hlz : (i : Int) + (k : Int) < (s.size : Int) := by omega
      have HE : Hid (wordB (s[i + k].toNat : Int) = (smallB (s[i + k].toNat : Int) || digitB (s[i + k].toNat : Int) || ((s[i + k].toNat : Int) == 95) || (decide (65 ≤ (s[i + k].toNat : Int)) && decide ((s[i + k].toNat : Int) ≤ 90)))) := by
        show _ = _
        unfold wordB letterB bigB
        rw [Bool.decide_and, show decide ((s[i + k].toNat : Int) = 95) = ((s[i + k].toNat : Int) == 95) from rfl]
        cases smallB (s[i + k].toNat : Int) <;> cases digitB (s[i + k].toNat : Int) <;> cases ((s[i + k].toNat : Int) == 95) <;> simp
      cases h1 : smallB (s[i + k].toNat : Int)
      · cases h2 : digitB (s[i + k].toNat : Int)
        · cases h3 : ((s[i + k].toNat : Int) == 95)
          · by_cases h4 : 65 ≤ (s[i + k].toNat : Int)
            · by_cases h5 : (s[i + k].toNat : Int) ≤ 90
              · skip
                have e : wordB (s[i + k].toNat : Int) = true := by rw [HE.out, decide_eq_true h4, decide_eq_true h5]; simp
                clear HE
                go_wp2_with (first | (go_at_call 121; refine (rsmall_any _ _).mono ?_; rintro e w2 ⟨rfl, rfl⟩) | (go_at_call 82; refine (rdigit_any _ _).mono ?_; rintro e w2 ⟨rfl, rfl⟩))
                exact ⟨⟨k + 1, by omega, by go_num, fun j a b => more_words s i (i + k) HA.out hlt e j a (by omega), HWR⟩, by simp [intOf]; omega⟩
              · skip
                have e := wl_of s i (i + k) (by omega) hk2 ⟨h0, HL.out⟩ HA.out (fun _ => by rw [HE.out, h1, h2, h3, decide_eq_false h5, Bool.and_false]; rfl)
                have e9 : wl (s.data.toList.drop i) = k := by omega
                clear HE e
                go_wp2_with (first | (go_at_call 121; refine (rsmall_any _ _).mono ?_; rintro e w2 ⟨rfl, rfl⟩) | (go_at_call 82; refine (rdigit_any _ _).mono ?_; rintro e w2 ⟨rfl, rfl⟩))
                exact bodyPost_ret (v := .int .i64 (k : Int)) (by simp [results, go_sem]) rfl ⟨by first | rfl | rw [e9], HWR.out⟩
            · skip
              have e := wl_of s i (i + k) (by omega) hk2 ⟨h0, HL.out⟩ HA.out (fun _ => by rw [HE.out, h1, h2, h3, decide_eq_false h4]; rfl)
              have e9 : wl (s.data.toList.drop i) = k := by omega
              clear HE e
              go_wp2_with (first | (go_at_call 121; refine (rsmall_any _ _).mono ?_; rintro e w2 ⟨rfl, rfl⟩) | (go_at_call 82; refine (rdigit_any _ _).mono ?_; rintro e w2 ⟨rfl, rfl⟩))
              exact bodyPost_ret (v := .int .i64 (k : Int)) (by simp [results, go_sem]) rfl ⟨by first | rfl | rw [e9], HWR.out⟩
          · skip
            have e : wordB (s[i + k].toNat : Int) = true := by rw [HE.out, h3]; simp
            clear HE
            go_wp2_with (first | (go_at_call 121; refine (rsmall_any _ _).mono ?_; rintro e w2 ⟨rfl, rfl⟩) | (go_at_call 82; refine (rdigit_any _ _).mono ?_; rintro e w2 ⟨rfl, rfl⟩))
            exact ⟨⟨k + 1, by omega, by go_num, fun j a b => more_words s i (i + k) HA.out hlt e j a (by omega), HWR⟩, by simp [intOf]; omega⟩
        · skip
          have e : wordB (s[i + k].toNat : Int) = true := by rw [HE.out, h2]; simp
          clear HE
          go_wp2_with (first | (go_at_call 121; refine (rsmall_any _ _).mono ?_; rintro e w2 ⟨rfl, rfl⟩) | (go_at_call 82; refine (rdigit_any _ _).mono ?_; rintro e w2 ⟨rfl, rfl⟩))
          exact ⟨⟨k + 1, by omega, by go_num, fun j a b => more_words s i (i + k) HA.out hlt e j a (by omega), HWR⟩, by simp [intOf]; omega⟩
      · skip
        have e : wordB (s[i + k].toNat : Int) = true := by rw [HE.out, h1]; simp
        clear HE
        go_wp2_with (first | (go_at_call 121; refine (rsmall_any _ _).mono ?_; rintro e w2 ⟨rfl, rfl⟩) | (go_at_call 82; refine (rdigit_any _ _).mono ?_; rintro e w2 ⟨rfl, rfl⟩))
        exact ⟨⟨k + 1, by omega, by go_num, fun j a b => more_words s i (i + k) HA.out hlt e j a (by omega), HWR⟩, by simp [intOf]; omega⟩
    · have e := wl_of s i (i + k) (by omega) hk2 ⟨h0, HL.out⟩ HA.out (fun h => absurd h hlt)
      have e9 : wl (s.data.toList.drop i) = k := by omega
      clear e
      go_wp2_with (first | (go_at_call 121; refine (rsmall_any _ _).mono ?_; rintro e w2 ⟨rfl, rfl⟩) | (go_at_call 82; refine (rdigit_any _ _).mono ?_; rintro e w2 ⟨rfl, rfl⟩))
      exact bodyPost_ret (v := .int .i64 (k : Int)) (by simp [results, go_sem]) rfl ⟨by first | rfl | rw [e9], HWR.out⟩

set_option maxRecDepth 100000 in
set_option maxHeartbeats 1000000 in
theorem risName_any (s : ByteArray) (w : World) (hs : s.size ≤ maxLen) : Calls Tryz.prog 87 #[.string s] w fun e w' => e = .returned (.bool (nmB s)) ∧ w' = w := by
  by_cases hz : 0 < s.size
  · have hzi : (0 : Int) < (s.size : Int) := by omega
    by_cases h : smallB (s[0].toNat : Int) = true
    · have HN := hide (fun w => word_yes s 0 w hs hz h)
      rw [nmB_small hz h]
      generalize wl (s.data.toList.drop 0) = k at *
      by_cases he : k = s.size
      · subst he
        rw [decide_eq_true rfl]
        go_enter Tryz.func87, Tryz.ntmps87
        go_wp2_with (go_at_call 79; refine (HN.out _).mono ?_; rintro e w' ⟨rfl, rfl⟩)
        exact bodyPost_ret (v := .bool true) (by simp [results, go_sem]) rfl ⟨rfl, rfl⟩
      · rw [decide_eq_false he]
        have he2 : ((k : Int) == (s.size : Int)) = false := beq_eq_false_iff_ne.2 (by omega)
        go_enter Tryz.func87, Tryz.ntmps87
        go_wp2_with (go_at_call 79; refine (HN.out _).mono ?_; rintro e w' ⟨rfl, rfl⟩)
        exact bodyPost_ret (v := .bool false) (by simp [results, go_sem]) rfl ⟨rfl, rfl⟩
    · have hno : ∀ h : 0 < s.size, smallB (s[0].toNat : Int) = false := fun _ => by simpa using h
      have HN := hide (fun w => word_no s 0 w hs hno)
      rw [nmB_no hno]
      have he2 : ((0 : Int) == (s.size : Int)) = false := beq_eq_false_iff_ne.2 (by omega)
      clear hno h
      go_enter Tryz.func87, Tryz.ntmps87
      go_wp2_with (go_at_call 79; refine (HN.out _).mono ?_; rintro e w' ⟨rfl, rfl⟩)
      exact bodyPost_ret (v := .bool false) (by simp [results, go_sem]) rfl ⟨rfl, rfl⟩
  · have hno : ∀ h : 0 < s.size, smallB (s[0].toNat : Int) = false := fun h => absurd h hz
    rw [nmB_no hno]
    have hz0 : s.size = 0 := by omega
    clear hno
    go_enter Tryz.func87, Tryz.ntmps87
    go_wp2_with fail
    exact bodyPost_ret (v := .bool false) (by simp [results, go_sem]) rfl ⟨rfl, rfl⟩
end Go.Proofs.YtfiipfcdddaceaaGreatDoor

namespace Go.Proofs.YtfiipfcdddaceaaGreatDoor
open Go.RowKit Go.Sort Go.Shelf

set_option maxRecDepth 100000 in
set_option maxHeartbeats 2000000 in
/-- Is it a fact? The document's answer. -/
theorem rfact_any (r : Rx) (w : World) (h : r.Ok w) : Calls Tryz.prog 39 #[r.val] w fun e w' => e = .returned (.bool (factB r.x)) ∧ Below w.heap.size w w' := by
  obtain ⟨⟨na, n, t⟩, p, c, ap, q⟩ := r
  have HS4 : Hid (Some4 w p n c t q) := h.some
  have hn : n ≤ 1099511627776 := h.n
  have hna : na.size ≤ 1099511627776 := h.na
  have htx : ∀ j, j < n → (t j).text.size ≤ 1099511627776 := h.tx
  simp only [Rx.val] at *
  have HN := hide (fun w => risName_any na w (by unfold maxLen; omega))
  have HV := hide (fun j (hj : j < n) w => risName_any (t j).text w (by have := htx j hj; unfold maxLen; omega))
  have HF : Hid (factB ⟨na, n, t⟩ = (nmB na && decide (n ≤ 8) && (List.range n).all fun j => valB (t j))) := rfl
  clear h hna htx
  cases e1 : nmB na
  · have hf : factB ⟨na, n, t⟩ = false := by rw [HF.out, e1]; rfl
    rw [hf]
    rw [e1] at HN
    go_enter Tryz.func39, Tryz.ntmps39
    go_wp2_with fail
    refine (HN.out _).mono ?_
    rintro x w1 ⟨rfl, rfl⟩
    go_wp2_with fail
    exact bodyPost_ret (v := .bool false) (by simp [results, go_sem]) rfl ⟨rfl, (Below.refl _ _).alloc (Nat.le_refl _) _⟩
  · rw [e1] at HN
    by_cases h8 : n ≤ 8
    · have hd8 : decide ((8 : Int) < (n : Int)) = false := decide_eq_false (by omega)
      go_enter Tryz.func39, Tryz.ntmps39
      go_wp2_with fail
      refine (HN.out _).mono ?_
      rintro x w1 ⟨rfl, rfl⟩
      go_wp2_with fail
      have HB0 : Hid (Below w.heap.size w (w.alloc (.cells #[.string na, .slice p n c, .int .i64 ap] 44))) := (Below.refl _ _).alloc (Nat.le_refl _) _
      have b1 : (w.alloc (.cells #[.string na, .slice p n c, .int .i64 ap] 44)).cell? ⟨w.heap.size, 1, none⟩ = some (.slice p n c) := by simp
      have HZ0 : Hid ((w.alloc (.cells #[.string na, .slice p n c, .int .i64 ap] 44)).heap.size = w.heap.size + 1) := by show _ = _; simp
      generalize w.alloc (.cells #[.string na, .slice p n c, .int .i64 ap] 44) = w2 at *
      go_loopw [3] (fun iv wr => ∃ k : Nat, iv = .int .i64 k ∧ k ≤ n ∧ Hid ((List.range k).all (fun j => valB (t j)) = true) ∧ Hid (Below w2.heap.size w2 wr)) (fun iv _ => n - (intOf iv).toNat)
      case atStart => exact ⟨0, rfl, by omega, rfl, Below.refl _ _⟩
      case round =>
        obtain ⟨k, rfl, hk, HAL, HB2⟩ := hrel
        have hz0 : w.heap.size < w2.heap.size := by have := HZ0.out; omega
        have hzr2 := HB2.out.size
        have HB : Hid (Below w.heap.size w wr) := HB0.out.trans (HB2.out.mono (by omega))
        have hzr := HB.out.size
        have y9 := (HB2.out.cell (p := ⟨w.heap.size, 1, none⟩) hz0).trans b1
        by_cases hlt : k < n
        · obtain ⟨g, off, hp, hg, hc, ht⟩ := HS4.out (by omega)
          subst hp
          obtain ⟨a0, a1, a2, a3⟩ := ht k hlt
          have y0 := (HB.out.cell (p := ⟨g, off + k * 4, none⟩) hg).trans a0
          have y1 := (HB.out.cell (p := ⟨g, off + k * 4 + 1, none⟩) hg).trans a1
          have y2 := (HB.out.cell (p := ⟨g, off + k * 4 + 2, none⟩) hg).trans a2
          have y3 := (HB.out.cell (p := ⟨g, off + k * 4 + 3, none⟩) hg).trans a3
          have hgr : g < wr.heap.size := by omega
          have hkz : (k : Int) < (n : Int) := by omega
          have HC := hide (HV.out k hlt)
          have HS := hide (all_range_succ (fun j => valB (t j)) k)
          have HFN := hide (all_range_false (fun j => valB (t j)) n k hlt)
          clear a0 a1 a2 a3 ht
          obtain ⟨tm, htm⟩ : ∃ tm, t k = tm := ⟨_, rfl⟩
          simp only [htm] at y0 y1 y2 HC HS HFN
          obtain ⟨tk, tn, tx⟩ := tm
          simp only at y0 y1 y2 HC
          clear htm
          have HNO : Hid (valB ⟨tk, tn, tx⟩ = false → factB ⟨na, n, t⟩ = false) := fun hv => by rw [HF.out, HFN.out hv, Bool.and_false]
          have HYES : Hid (valB ⟨tk, tn, tx⟩ = true → (List.range (k + 1)).all (fun j => valB (t j)) = true) := fun hv => by rw [HS.out, HAL.out, hv]; rfl
          have HBA : Hid (∀ o, Below w.heap.size w (wr.alloc o)) := fun o => HB.out.alloc hzr o
          have HBA2 : Hid (∀ o, Below w2.heap.size w2 (wr.alloc o)) := fun o => HB2.out.alloc hzr2 o
          cases e4 : (tk == 1)
          · cases e5 : (tk == 2)
            · have hv : valB ⟨tk, tn, tx⟩ = (tk == 3) := by
                have a : ¬ tk = 1 := by simpa using e4
                have b : ¬ tk = 2 := by simpa using e5
                simp [valB, a, b]
                rfl
              rw [hv] at HNO HYES
              cases e6 : (tk == 3)
              · rw [e6] at HNO
                go_wp2_with fail
                rw [HNO.out (by trivial)]
                exact bodyPost_ret (v := .bool false) (by simp [results, go_sem]) rfl ⟨rfl, HBA.out _⟩
              · rw [e6] at HYES
                go_wp2_with fail
                exact ⟨⟨k + 1, by go_num, by omega, HYES.out (by trivial), HBA2.out _⟩, by simp [intOf]; omega⟩
            · have hv : valB ⟨tk, tn, tx⟩ = nmB tx := by
                have a : tk = 2 := by simpa using e5
                simp [valB, a]
              rw [hv] at HNO HYES
              have e6 : (tk == 3) = false := by have a : tk = 2 := by simpa using e5
                                                subst a; rfl
              generalize nmB tx = vb at *
              cases vb
              · go_wp2_with fail
                refine (HC.out _).mono ?_
                rintro x w3 ⟨rfl, rfl⟩
                go_wp2_with fail
                rw [HNO.out (by trivial)]
                exact bodyPost_ret (v := .bool false) (by simp [results, go_sem]) rfl ⟨rfl, HBA.out _⟩
              · go_wp2_with fail
                refine (HC.out _).mono ?_
                rintro x w3 ⟨rfl, rfl⟩
                go_wp2_with fail
                exact ⟨⟨k + 1, by go_num, by omega, HYES.out (by trivial), HBA2.out _⟩, by simp [intOf]; omega⟩
          · have hv : valB ⟨tk, tn, tx⟩ = decide (-999999999999999999 ≤ tn ∧ tn ≤ 999999999999999999) := by
              have a : tk = 1 := by simpa using e4
              simp [valB, a]
            rw [hv] at HNO HYES
            have e5 : (tk == 2) = false := by have a : tk = 1 := by simpa using e4
                                              subst a; rfl
            have e6 : (tk == 3) = false := by have a : tk = 1 := by simpa using e4
                                              subst a; rfl
            by_cases h1 : tn ≤ 999999999999999999
            · by_cases h2 : -999999999999999999 ≤ tn
              · rw [decide_eq_true ⟨h2, h1⟩] at HYES
                go_wp2_with fail
                exact ⟨⟨k + 1, by go_num, by omega, HYES.out (by trivial), HBA2.out _⟩, by simp [intOf]; omega⟩
              · rw [decide_eq_false (fun h => h2 h.1)] at HNO
                go_wp2_with fail
                rw [HNO.out (by trivial)]
                exact bodyPost_ret (v := .bool false) (by simp [results, go_sem]) rfl ⟨rfl, HBA.out _⟩
            · rw [decide_eq_false (fun h => h1 h.2)] at HNO
              go_wp2_with fail
              rw [HNO.out (by trivial)]
              exact bodyPost_ret (v := .bool false) (by simp [results, go_sem]) rfl ⟨rfl, HBA.out _⟩
        · obtain rfl : k = n := by omega
          have hf : factB ⟨na, k, t⟩ = true := by rw [HF.out, e1, HAL.out, decide_eq_true h8]; rfl
          go_wp2_with fail
          rw [hf]
          exact bodyPost_ret (v := .bool true) (by simp [results, go_sem]) rfl ⟨rfl, HB.out⟩
    · have hf : factB ⟨na, n, t⟩ = false := by rw [HF.out, e1, decide_eq_false h8]; rfl
      rw [hf]
      go_enter Tryz.func39, Tryz.ntmps39
      go_wp2_with fail
      refine (HN.out _).mono ?_
      rintro x w1 ⟨rfl, rfl⟩
      go_wp2_with fail
      exact bodyPost_ret (v := .bool false) (by simp [results, go_sem]) rfl ⟨rfl, (Below.refl _ _).alloc (Nat.le_refl _) _⟩
end Go.Proofs.YtfiipfcdddaceaaGreatDoor
