import Derived.Test.YtfiipfcdddaceaaGreatDoorGa
import Derived.Test.YtfiipfcdddaceaaGreatDoorJj
namespace Go.Proofs.YtfiipfcdddaceaaGreatDoor
open Go.RowKit Go.Sort Go.Shelf

set_option maxRecDepth 100000 in
set_option maxHeartbeats 2000000 in
theorem as_nil (v : Value) (w : World) : Calls Tryz.prog 77 #[.nilIface, v] w fun e w' => e = .returned (.bool false) ∧ w' = w := by
  go_enter Tryz.func77, Tryz.ntmps77
  go_wp2_with fail
  exact bodyPost_ret (v := .bool false) (by simp [results, go_sem]) rfl ⟨rfl, rfl⟩

set_option maxRecDepth 100000 in
set_option maxHeartbeats 2000000 in
theorem variable_no (s : ByteArray) (i : Nat) (w : World) (hs : s.size ≤ maxLen) (hi : i ≤ s.size) (h : ∀ h : i < s.size, letterB (s[i].toNat : Int) = false) :
    Calls Tryz.prog 153 #[.string s, .int .i64 i] w fun e w' => e = .returned (.bool false) ∧ w' = w := by
  have HC := hide (wordAt_none s i w hs hi h)
  clear h
  go_enter Tryz.func153, Tryz.ntmps153
  go_wp2_with fail
  refine HC.out.mono ?_
  rintro e w1 ⟨rfl, rfl⟩
  go_wp2_with fail
  exact bodyPost_ret (v := .bool false) (by simp [results, go_sem]) rfl ⟨rfl, rfl⟩

set_option maxRecDepth 100000 in
set_option maxHeartbeats 2000000 in
theorem readValue_ok (s : ByteArray) (i a : Nat) (t : Tm) (e : Nat) (w : World) (hs : s.size ≤ maxLen) (hi : i ≤ s.size) (hl : ∀ h : i < s.size, letterB (s[i].toNat : Int) = false) (h : tmAt s i = some (t, e)) (ha : a < 8) :
    Calls Tryz.prog 138 #[.string s, .int .i64 i, .int .i64 a] w fun x w' => x = .returned (.tuple #[t.val, .int .i64 e, .nilIface]) ∧ Below w.heap.size w w' := by
  have HV := hide (fun w => variable_no s i w hs hi hl)
  have HT := hide (fun w => term_ok s i a t e w hs h ha)
  clear hl h
  obtain ⟨tk, tn, tx⟩ := t
  simp only [Tm.val] at HT ⊢
  go_enter Tryz.func138, Tryz.ntmps138
  go_wp2_with fail
  refine (HV.out _).mono ?_
  rintro e w1 ⟨rfl, rfl⟩
  go_wp2_with fail
  refine (HT.out _).mono ?_
  rintro x w2 ⟨rfl, hb⟩
  have hz := hb.size
  simp only [World.size_alloc] at hz hb
  have hz' : w.heap.size < w2.heap.size := by omega
  have r0 : w2.cell? ⟨w.heap.size, 0, none⟩ = some (.int .i64 0) := (hb.cell (p := ⟨w.heap.size, 0, none⟩) (show w.heap.size < w.heap.size + 1 by omega)).trans (by simp)
  have r1 : w2.cell? ⟨w.heap.size, 1, none⟩ = some (.int .i64 0) := (hb.cell (p := ⟨w.heap.size, 1, none⟩) (show w.heap.size < w.heap.size + 1 by omega)).trans (by simp)
  have r2 : w2.cell? ⟨w.heap.size, 2, none⟩ = some (.string ⟨#[]⟩) := (hb.cell (p := ⟨w.heap.size, 2, none⟩) (show w.heap.size < w.heap.size + 1 by omega)).trans (by simp)
  have fz : ∀ o, w2.frozen? ⟨w.heap.size, o, none⟩ = false := fun o => (hb.frozen (p := ⟨w.heap.size, o, none⟩) (show w.heap.size < w.heap.size + 1 by omega)).trans (by simp [go_sem])
  have HB := hide hb
  clear hb hz
  go_wp2_with fail
  refine bodyPost_ret (v := .tuple #[.agg #[.int .i64 tk, .int .i64 tn, .string tx], .int .i64 e, .nilIface]) (by simp [results, go_sem, r0, r1, r2, hz']) rfl ⟨rfl, ?_⟩
  have hB : Below w.heap.size w w2 := ((Below.refl _ _).alloc (Nat.le_refl _) _).trans (HB.out.mono (by omega))
  exact (((hB.setCell (p := ⟨w.heap.size, 0, none⟩) (Nat.le_refl _) _).setCell (p := ⟨w.heap.size, 1, none⟩) (Nat.le_refl _) _).setCell (p := ⟨w.heap.size, 2, none⟩) (Nat.le_refl _) _).alloc (by simp; omega) _

set_option maxRecDepth 100000 in
set_option maxHeartbeats 2000000 in
theorem readLine_one (s : ByteArray) (i : Nat) (t : Tm) (w : World) (hs : s.size ≤ 1000) (hi : i + 3 < s.size) (hsm : smallB (s[i].toNat : Int) = true) (hw : wl (s.data.toList.drop i) = 1) (h9 : (s[i + 1].toNat : Int) = 9) (hl : letterB (s[i + 2].toNat : Int) = false) (ht : tmAt s (i + 2) = some (t, i + 3)) (h10 : (s[i + 3].toNat : Int) = 10) :
    Calls Tryz.prog 114 #[.string s, .int .i64 i] w fun x w' => ∃ p c, x = .returned (.tuple #[.agg #[.string (s.extract i (i + 1)), .slice p 1 c], .int .i64 ((i + 4 : Nat) : Int), .nilIface]) ∧ IsTerms w' (.slice p 1 c) 1 (fun _ => t) ∧ (∀ a, p = some a → w.heap.size ≤ a.block ∧ a.block < w'.heap.size) ∧ Below w.heap.size w w' := by
  have HN := hide (fun w => nameAt_some s i w (by unfold maxLen; omega) (by omega) hsm)
  rw [hw] at HN
  obtain ⟨nm, hnm⟩ : ∃ nm, s.extract i (i + 1) = nm := ⟨_, rfl⟩
  have hns : nm.size = 1 := by rw [← hnm]; simp; omega
  rw [hnm] at HN ⊢
  clear hsm hw
  go_enter Tryz.func114, Tryz.ntmps114
  go_wp2_with fail
  refine (HN.out _).mono ?_
  rintro e w1 ⟨rfl, rfl⟩
  go_wp2_with fail
  have e1 : ((i : Int) + 1).toNat = i + 1 := by omega
  have l1 : (i : Int) + 1 < (s.size : Int) := by omega
  have l1' : i + 1 < s.size := by omega
  have HR := hide (fun w => readValue_ok s (i + 2) 0 t (i + 3) w (by unfold maxLen; omega) (by omega) (fun _ => hl) ht (by omega))
  obtain ⟨tk, tn, tx⟩ := t
  simp only [Tm.val] at HR
  rw [show ((i + 2 : Nat) : Int) = (i : Int) + 2 by omega, show ((i + 3 : Nat) : Int) = (i : Int) + 3 by omega] at HR
  clear hl ht
  refine wp_loop_rounds 2 ?_
  rw [rounds_succ]
  go_wp2_with fail
  refine (HR.out _).mono ?_
  rintro x w2 ⟨rfl, hb⟩
  have hz := hb.size
  simp only [World.size_alloc] at hz hb
  have hz' : w.heap.size + 1 < w2.heap.size := by omega
  have hz'' : w.heap.size < w2.heap.size := by omega
  have x0 : w2.cell? ⟨w.heap.size + 1, 0, none⟩ = some (.string nm) := (hb.cell (p := ⟨w.heap.size + 1, 0, none⟩) (show w.heap.size + 1 < w.heap.size + 1 + 1 by omega)).trans (by simp)
  have x1 : w2.cell? ⟨w.heap.size + 1, 1, none⟩ = some (.slice none 0 0) := (hb.cell (p := ⟨w.heap.size + 1, 1, none⟩) (show w.heap.size + 1 < w.heap.size + 1 + 1 by omega)).trans (by simp)
  have xf : ∀ o, w2.frozen? ⟨w.heap.size + 1, o, none⟩ = false := fun o => (hb.frozen (p := ⟨w.heap.size + 1, o, none⟩) (show w.heap.size + 1 < w.heap.size + 1 + 1 by omega)).trans (by simp [go_sem])
  have r0 : w2.cell? ⟨w.heap.size, 0, none⟩ = some (.string ⟨#[]⟩) := (hb.cell (p := ⟨w.heap.size, 0, none⟩) (show w.heap.size < w.heap.size + 1 + 1 by omega)).trans (by rw [cell_alloc_old _ _ _ _ (by simp)]; simp)
  have r1 : w2.cell? ⟨w.heap.size, 1, none⟩ = some (.slice none 0 0) := (hb.cell (p := ⟨w.heap.size, 1, none⟩) (show w.heap.size < w.heap.size + 1 + 1 by omega)).trans (by rw [cell_alloc_old _ _ _ _ (by simp)]; simp)
  have rf : ∀ o, w2.frozen? ⟨w.heap.size, o, none⟩ = false := fun o => (hb.frozen (p := ⟨w.heap.size, o, none⟩) (show w.heap.size < w.heap.size + 1 + 1 by omega)).trans (by simp [go_sem])
  have HB := hide hb
  clear hb hz
  obtain ⟨i0, hi0, hz0, hz1, hz2⟩ := info_parts (P := Tryz.prog) (e := 60) (z := .agg #[.int .i64 0, .int .i64 0, .string ⟨#[]⟩]) (size := 3) (bytes := 32) (by kernel_rfl)
  go_wp2_with (at_builtin; refine wpList_append_lies _ rfl _ _ 45 rfl (w.heap.size + 2) 60 i0 (.agg #[.int .i64 0, .int .i64 0, .string ⟨#[]⟩]) 3 32 Tryz.underlying45 hi0 hz0 hz1 hz2 rfl (by omega) (.slice none 0 0) 0 [] rfl (World.ownsRow_nil _ _ _ _) ⟨w2.heap.size + 1, 0, none⟩ 1 1 [.int .i64 tk, .int .i64 tn, .string tx] rfl rfl (by have h := World.news_of_block (w := (w2.alloc (.cells #[.int .i64 tk, .int .i64 tn, .string tx] 60)).alloc (.cells #[.int .i64 tk, .int .i64 tn, .string tx] 60)) (B := w2.heap.size + 1) (cs := #[.int .i64 tk, .int .i64 tn, .string tx]) (t := 60) (fr := (0, 0)) (by simpa using heap_alloc_new (w2.alloc (.cells #[.int .i64 tk, .int .i64 tn, .string tx] 60)) (.cells #[.int .i64 tk, .int .i64 tn, .string tx] 60)); exact h) (by simp [Value.oneCell']) (by omega) (by unfold maxLen; omega) (by omega) (by simp; omega) (w2.heap.size + 2) (by simp) ?_)
  intro g5 cap5 w5 hown5 hg5 hat5 hlt5
  obtain rfl : g5 = w2.heap.size + 2 := by rcases hat5 with h | h; cases h; exact h
  have hB2 : Below (w.heap.size + 1 + 1) ((w.alloc (.cells #[.string ⟨#[]⟩, .slice none 0 0] 47)).alloc (.cells #[.string nm, .slice none 0 0] 47)) w5 := ((HB.out.alloc (by omega) _).alloc (by simp; omega) _).grown hg5 (by simp; omega) (fun k hk => by cases hk)
  have z0 : w5.cell? ⟨w.heap.size + 1, 0, none⟩ = some (.string nm) := (hB2.cell (p := ⟨w.heap.size + 1, 0, none⟩) (show w.heap.size + 1 < w.heap.size + 1 + 1 by omega)).trans (by simp)
  have z1 : w5.cell? ⟨w.heap.size + 1, 1, none⟩ = some (.slice none 0 0) := (hB2.cell (p := ⟨w.heap.size + 1, 1, none⟩) (show w.heap.size + 1 < w.heap.size + 1 + 1 by omega)).trans (by simp)
  have zf : ∀ o, w5.frozen? ⟨w.heap.size + 1, o, none⟩ = false := fun o => (hB2.frozen (p := ⟨w.heap.size + 1, o, none⟩) (show w.heap.size + 1 < w.heap.size + 1 + 1 by omega)).trans (by simp [go_sem])
  have q0 : w5.cell? ⟨w.heap.size, 0, none⟩ = some (.string ⟨#[]⟩) := (hB2.cell (p := ⟨w.heap.size, 0, none⟩) (show w.heap.size < w.heap.size + 1 + 1 by omega)).trans (by rw [cell_alloc_old _ _ _ _ (by simp)]; simp)
  have q1 : w5.cell? ⟨w.heap.size, 1, none⟩ = some (.slice none 0 0) := (hB2.cell (p := ⟨w.heap.size, 1, none⟩) (show w.heap.size < w.heap.size + 1 + 1 by omega)).trans (by rw [cell_alloc_old _ _ _ _ (by simp)]; simp)
  have qf : ∀ o, w5.frozen? ⟨w.heap.size, o, none⟩ = false := fun o => (hB2.frozen (p := ⟨w.heap.size, o, none⟩) (show w.heap.size < w.heap.size + 1 + 1 by omega)).trans (by simp [go_sem])
  have hz5 := hB2.size
  simp only [World.size_alloc] at hz5
  have hz5' : w.heap.size + 1 < w5.heap.size := by omega
  have hz5'' : w.heap.size < w5.heap.size := by omega
  have HIT : Hid (IsTerms w5 (.slice (some ⟨w2.heap.size + 2, 0, none⟩) 1 cap5) 1 (fun _ => (⟨tk, tn, tx⟩ : Tm))) := by
    refine own_terms (B := w.heap.size + 2) ?_ (by omega)
    have h := hown5
    simpa [tcells, Tm.cells, List.range_succ] using h
  have HB5 := hide hB2
  have hg5lt : w2.heap.size + 2 < w5.heap.size := hlt5
  clear hown5 hg5 hat5 hB2 x0 x1 xf r0 r1 rf HB
  go_wp2_with fail
  have e3 : ((i : Int) + 3).toNat = i + 3 := by omega
  have l3 : (i : Int) + 3 < (s.size : Int) := by omega
  rw [rounds_succ]
  go_wp2_with fail
  refine bodyPost_ret (v := .tuple #[.agg #[.string nm, .slice (some ⟨w2.heap.size + 2, 0, none⟩) 1 cap5], .int .i64 ((i + 4 : Nat) : Int), .nilIface]) ?_ rfl ?_
  · simp [results, go_sem, q0, q1]
    omega
  · refine ⟨_, _, rfl, HIT.out.keep (fun a ha => ?_) (by simp), fun a ha => ?_, ?_⟩
    · cases ha
      exact (Below.heap_setCell _ ⟨w.heap.size, 1, none⟩ _ _ (show w2.heap.size + 2 ≠ w.heap.size by omega)).trans ((Below.heap_setCell _ ⟨w.heap.size, 0, none⟩ _ _ (show w2.heap.size + 2 ≠ w.heap.size by omega)).trans (Below.heap_setCell _ ⟨w.heap.size + 1, 1, none⟩ _ _ (show w2.heap.size + 2 ≠ w.heap.size + 1 by omega)))
    · cases ha
      exact ⟨by show w.heap.size ≤ w2.heap.size + 2; omega, by simp; omega⟩
    · have hB : Below w.heap.size w w5 := (((Below.refl _ _).alloc (Nat.le_refl _) _).alloc (by simp) _).trans (HB5.out.mono (by omega))
      exact ((hB.setCell (p := ⟨w.heap.size + 1, 1, none⟩) (by show w.heap.size ≤ w.heap.size + 1; omega) _).setCell (p := ⟨w.heap.size, 0, none⟩) (Nat.le_refl _) _).setCell (p := ⟨w.heap.size, 1, none⟩) (Nat.le_refl _) _

/-- The two lines that the law reads. -/
def S8 : ByteArray := ⟨#[112, 9, 50, 10, 112, 9, 49, 10]⟩
def nP : ByteArray := ⟨#[112]⟩
def tN (k : Int) : Tm := ⟨1, k, ⟨#[]⟩⟩
def aN (k : Int) : Atm := ⟨nP, 1, fun _ => tN k⟩
theorem line0 (w : World) : Calls Tryz.prog 114 #[.string S8, .int .i64 0] w fun x w' => ∃ p c, x = .returned (.tuple #[.agg #[.string nP, .slice p 1 c], .int .i64 4, .nilIface]) ∧ IsTerms w' (.slice p 1 c) 1 (fun _ => tN 2) ∧ (∀ a, p = some a → w.heap.size ≤ a.block ∧ a.block < w'.heap.size) ∧ Below w.heap.size w w' :=
  readLine_one S8 0 (tN 2) w (by decide) (by decide) (by kernel_rfl) (by kernel_rfl) (by kernel_rfl) (by kernel_rfl) (by kernel_rfl) (by kernel_rfl)
theorem line4 (w : World) : Calls Tryz.prog 114 #[.string S8, .int .i64 4] w fun x w' => ∃ p c, x = .returned (.tuple #[.agg #[.string nP, .slice p 1 c], .int .i64 8, .nilIface]) ∧ IsTerms w' (.slice p 1 c) 1 (fun _ => tN 1) ∧ (∀ a, p = some a → w.heap.size ≤ a.block ∧ a.block < w'.heap.size) ∧ Below w.heap.size w w' :=
  readLine_one S8 4 (tN 1) w (by decide) (by decide) (by kernel_rfl) (by kernel_rfl) (by kernel_rfl) (by kernel_rfl) (by kernel_rfl) (by kernel_rfl)

set_option maxRecDepth 100000 in
set_option maxHeartbeats 2000000 in
theorem lines_any (w : World) : Calls Tryz.prog 76 #[.string S8] w fun x w' => ∃ v, x = .returned (.tuple #[v, .nilIface]) ∧ Atoms 0 w' v [aN 2, aN 1] ∧ Below w.heap.size w w' := by
  have h8 : S8.size = 8 := rfl
  have HL0 := hide line0
  have HL4 := hide line4
  generalize S8 = s at *
  go_enter Tryz.func76, Tryz.ntmps76
  go_wp2_with fail
  refine wp_loop_rounds 3 ?_
  rw [rounds_succ]
  go_wp2_with fail
  refine (HL0.out _).mono ?_
  rintro x w1 ⟨p1, c1, rfl, hit1, hbl1, hb1⟩
  have hz1 := hb1.size
  obtain ⟨i4, hi4, hza4, hzb4, hzc4⟩ := info_parts (P := Tryz.prog) (e := 47) (z := .agg #[.string ⟨#[]⟩, .slice none 0 0]) (size := 2) (bytes := 40) (by kernel_rfl)
  have HIT1 := hide hit1
  have HBL1 := hide hbl1
  have HB1 := hide hb1
  clear hit1 hbl1 hb1
  go_wp2_with (at_builtin; refine wpList_append_lies _ rfl _ _ 63 rfl w.heap.size 47 i4 (.agg #[.string ⟨#[]⟩, .slice none 0 0]) 2 40 Tryz.underlying63 hi4 hza4 hzb4 hzc4 rfl (by omega) (.slice none 0 0) 0 [] rfl (World.ownsRow_nil _ _ _ _) ⟨w1.heap.size + 1, 0, none⟩ 1 1 [.string nP, .slice p1 1 c1] rfl rfl (by have h := World.news_of_block (w := (w1.alloc (.cells #[.string nP, .slice p1 1 c1] 47)).alloc (.cells #[.string nP, .slice p1 1 c1] 47)) (B := w1.heap.size + 1) (cs := #[.string nP, .slice p1 1 c1]) (t := 47) (fr := (0, 0)) (by simpa using heap_alloc_new (w1.alloc (.cells #[.string nP, .slice p1 1 c1] 47)) (.cells #[.string nP, .slice p1 1 c1] 47)); exact h) (by simp [Value.oneCell']) (by omega) (by unfold maxLen; omega) (by omega) (by simp; omega) (w1.heap.size + 2) (by simp) ?_)
  intro g5 cap5 w5 hown5 hg5 hat5 hlt5
  obtain rfl : g5 = w1.heap.size + 2 := by rcases hat5 with h | h; cases h; exact h
  have hB5 : Below w.heap.size w w5 := ((HB1.out.alloc hz1 _).alloc (by simp; omega) _).grown hg5 (by simp; omega) (fun k hk => by cases hk)
  have HO1 : Hid (Out w.heap.size w5 (.slice (some ⟨w1.heap.size + 2, 0, none⟩) 1 cap5) [⟨nP, p1, 1, c1, fun _ => tN 2⟩]) := by
    refine ⟨by simpa [Ea.cells] using hown5, fun p hp => ?_⟩
    obtain rfl : p = ⟨nP, p1, 1, c1, fun _ => tN 2⟩ := by simpa using hp
    refine ⟨HIT1.out.keep (fun a ha => ?_) (by have := hg5.size; simp at this; omega), fun a ha => ⟨(HBL1.out a ha).1, ?_, ?_⟩⟩
    · have h1 := (HBL1.out a ha).2
      exact (hg5.block _ (by simp; omega) (by simp [Value.ownBlock])).trans ((Below.heap_alloc _ _ _ (by simp; omega)).trans (Below.heap_alloc _ _ _ h1))
    · have h1 := (HBL1.out a ha).2
      omega
    · intro e
      simp only [Value.ownBlock, Option.some.injEq] at e
      have h1 := (HBL1.out a ha).2
      omega
  have HB5 := hide hB5
  have hz5 := hB5.size
  clear hown5 hg5 hat5 hB5 HIT1 HBL1 HB1
  go_wp2_with fail
  rw [rounds_succ]
  go_wp2_with fail
  refine (HL4.out _).mono ?_
  rintro x w6 ⟨p6, c6, rfl, hit6, hbl6, hb6⟩
  have hz6 := hb6.size
  have HIT6 := hide hit6
  have HBL6 := hide hbl6
  have HO6 := hide (HO1.out.below ((hb6.alloc hz6 (.cells #[.string nP, .slice p6 1 c6] 47)).alloc (by simp; omega) (.cells #[.string nP, .slice p6 1 c6] 47)))
  have HB6 : Hid (Below w.heap.size w w6) := HB5.out.trans (hb6.mono hz5)
  clear hit6 hbl6 hb6
  have hown6 := HO6.out.1
  simp only [List.length_cons, List.length_nil, Nat.zero_add] at hown6
  go_wp2_with (at_builtin; refine wpList_append_lies _ rfl _ _ 63 rfl w.heap.size 47 i4 (.agg #[.string ⟨#[]⟩, .slice none 0 0]) 2 40 Tryz.underlying63 hi4 hza4 hzb4 hzc4 rfl (by omega) _ _ _ rfl hown6 ⟨w6.heap.size + 1, 0, none⟩ 1 1 [.string nP, .slice p6 1 c6] rfl rfl (by have h := World.news_of_block (w := (w6.alloc (.cells #[.string nP, .slice p6 1 c6] 47)).alloc (.cells #[.string nP, .slice p6 1 c6] 47)) (B := w6.heap.size + 1) (cs := #[.string nP, .slice p6 1 c6]) (t := 47) (fr := (0, 0)) (by simpa using heap_alloc_new (w6.alloc (.cells #[.string nP, .slice p6 1 c6] 47)) (.cells #[.string nP, .slice p6 1 c6] 47)); exact h) (by simp [Value.oneCell']) (by omega) (by unfold maxLen; omega) (by omega) (by simp; omega) (w6.heap.size + 2) (by simp) ?_)
  intro g7 cap7 w7 hown7 hg7 hat7 hlt7
  have hpush := HO6.out.push (p := ⟨nP, p6, 1, c6, fun _ => tN 1⟩) hown7 hg7 (by simpa using hat7) (HIT6.out.below (((Below.refl _ _).alloc (Nat.le_refl _) _).alloc (by simp) _)) (fun a ha => by
    have h1 := HBL6.out a ha
    refine ⟨by omega, by simp; omega, fun e => ?_⟩
    simp only [Value.ownBlock, Option.some.injEq] at e
    omega)
  have HAT : Hid (Atoms 0 w7 (.slice (some ⟨g7, 0, none⟩) 2 cap7) [aN 2, aN 1]) := (hpush.atoms (by simp)).mono (Nat.zero_le _)
  have HB7 : Hid (Below w.heap.size w w7) := ((HB6.out.alloc (by omega) _).alloc (by simp; omega) _).grown hg7 (by simp; omega) (fun k hk => by simp only [Value.ownBlock, Option.some.injEq] at hk; omega)
  clear hpush hown7 hg7 hat7 hown6
  go_wp2_with fail
  rw [rounds_succ]
  go_wp2_with fail
  exact bodyPost_ret (v := .tuple #[.slice (some ⟨g7, 0, none⟩) 2 cap7, .nilIface]) (by simp [results, go_sem]) rfl ⟨_, rfl, HAT.out, HB7.out⟩

/-- In order: the one, then the two. -/
theorem two_in_order {out : List Atm} (h : Ord [aN 2, aN 1] out) : out = [aN 1, aN 2] := by
  have h12 : cmpX (aN 1) (aN 2) = -1 := by kernel_rfl
  have h21 : cmpX (aN 2) (aN 1) = 1 := by kernel_rfl
  have hs : ∀ y ∈ out, y = aN 2 ∨ y = aN 1 := fun y hy => by simpa using h.sub y hy
  have m1 : aN 1 ∈ out := by
    obtain ⟨y, hy, h0⟩ := h.cov (aN 1) (by simp)
    rcases hs y hy with rfl | rfl
    · omega
    · exact hy
  have m2 : aN 2 ∈ out := by
    obtain ⟨y, hy, h0⟩ := h.cov (aN 2) (by simp)
    rcases hs y hy with rfl | rfl
    · exact hy
    · omega
  have h11 := cmpX_cmp.refl (aN 1)
  have h22 := cmpX_cmp.refl (aN 2)
  match out, h, hs, m1, m2 with
  | [], _, _, m1, _ => simp at m1
  | [a], h, hs, m1, m2 =>
    have e1 : aN 1 = a := by simpa using m1
    have e2 : aN 2 = a := by simpa using m2
    rw [e1, e2] at h12; rw [e1] at h11; omega
  | [a, b], h, hs, m1, m2 =>
    have hab := str_at h.str 0 1 (by omega) (by simp)
    simp only [List.getElem_cons_zero, List.getElem_cons_succ] at hab
    rcases hs a (by simp) with rfl | rfl <;> rcases hs b (by simp) with rfl | rfl
    · omega
    · omega
    · rfl
    · omega
  | a :: b :: c :: r, h, hs, _, _ =>
    have hab := str_at h.str 0 1 (by omega) (by simp)
    have hbc := str_at h.str 1 2 (by omega) (by simp)
    have hac := str_at h.str 0 2 (by omega) (by simp)
    simp only [List.getElem_cons_zero, List.getElem_cons_succ] at hab hbc hac
    rcases hs a (by simp) with rfl | rfl <;> rcases hs b (by simp) with rfl | rfl <;> rcases hs c (by simp) with rfl | rfl <;> omega

set_option maxRecDepth 100000 in
set_option maxHeartbeats 2000000 in
theorem parse_two (w : World) : Calls Tryz.prog 27 #[.string S8] w fun x w' => ∃ v, x = .returned (.tuple #[v, .int .i64 0, .int .i64 0]) ∧ Atoms 0 w' v [aN 1, aN 2] ∧ Below w.heap.size w w' := by
  have h8 : S8.size = 8 := rfl
  have HL := hide lines_any
  generalize S8 = s at *
  go_enter Tryz.func27, Tryz.ntmps27
  go_wp2_with fail
  refine (HL.out _).mono ?_
  rintro x w1 ⟨v1, rfl, hat1, hb1⟩
  have hz1 := hb1.size
  have HA := hide (fun v w => as_nil v w)
  have HAT := hide hat1
  have HB1 := hide hb1
  clear hat1 hb1
  go_wp2_with fail
  refine (HA.out _ _).mono ?_
  rintro x w2 ⟨rfl, rfl⟩
  have HI := hide (fun B (h : Below w1.heap.size w1 B) => inOrder_any 0 B v1 _ (HAT.out.below h))
  go_wp2_with fail
  refine (HI.out _ ((Below.refl _ _).alloc (Nat.le_refl _) _)).mono ?_
  rintro x w3 ⟨v3, out, rfl, hat3, hb3, hord, _⟩
  simp only [World.size_alloc] at hb3 hat3
  rw [two_in_order hord] at hat3
  have HAT3 := hide (hat3.mono (Nat.zero_le _))
  have HB3 : Hid (Below w.heap.size w w3) := (HB1.out.alloc hz1 _).trans (hb3.mono (by omega))
  clear hat3 hb3 hord HI HA HAT
  go_wp2_with fail
  exact bodyPost_ret (v := .tuple #[v3, .int .i64 0, .int .i64 0]) (by simp [results, go_sem]) rfl ⟨_, rfl, HAT3.out, HB3.out⟩
end Go.Proofs.YtfiipfcdddaceaaGreatDoor

namespace Go.Proofs.YtfiipfcdddaceaaGreatDoor
open Go.RowKit Go.Sort Go.Shelf

set_option maxRecDepth 100000 in
set_option maxHeartbeats 2000000 in
theorem value_any (k : Int) (w : World) (h0 : -999999999999999999 ≤ k) (h1 : k ≤ 999999999999999999) : Calls Tryz.prog 86 #[.agg #[.int .i64 1, .int .i64 k, .string ⟨#[]⟩]] w fun e w' => e = .returned (.bool true) ∧ Below w.heap.size w w' := by
  go_enter Tryz.func86, Tryz.ntmps86
  go_wp2_with fail
  exact bodyPost_ret (v := .bool true) (by simp [results, go_sem]) rfl ⟨rfl, (Below.refl _ _).alloc (Nat.le_refl _) _⟩

set_option maxRecDepth 100000 in
set_option maxHeartbeats 2000000 in
theorem isName_p (w : World) : Calls Tryz.prog 85 #[.string nP] w fun e w' => e = .returned (.bool true) ∧ w' = w := by
  have HN := hide (fun w => nameAt_some nP 0 w (by unfold maxLen; decide) (by decide) (by kernel_rfl))
  have e : nP.extract 0 (0 + wl (nP.data.toList.drop 0)) = nP := by kernel_rfl
  rw [e] at HN
  clear e
  generalize nP = nm at *
  go_enter Tryz.func85, Tryz.ntmps85
  go_wp2_with fail
  refine (HN.out _).mono ?_
  rintro x w1 ⟨rfl, rfl⟩
  go_wp2_with fail
  exact bodyPost_ret (v := .bool true) (by simp [results, go_sem]) rfl ⟨rfl, rfl⟩

theorem one_term {w : World} {p : Option Addr} {c : Nat} {k : Int} (h : IsTerms w (.slice p 1 c) 1 (fun _ => tN k)) : ∃ g, p = some ⟨g, 0, none⟩ ∧ g < w.heap.size ∧ w.cell? ⟨g, 0, none⟩ = some (.int .i64 1) ∧ w.cell? ⟨g, 1, none⟩ = some (.int .i64 k) ∧ w.cell? ⟨g, 2, none⟩ = some (.string ⟨#[]⟩) := by
  obtain ⟨_, ⟨_, _, _, hz⟩ | ⟨g, c', hv, hg, _, ht⟩⟩ := h
  · cases hz
  · cases hv
    obtain ⟨a, b, d⟩ := ht 0 (by omega)
    exact ⟨g, rfl, hg, a, b, d⟩

set_option maxRecDepth 100000 in
set_option maxHeartbeats 2000000 in
theorem fact_one (k : Int) (p : Option Addr) (c : Nat) (w : World) (h : IsTerms w (.slice p 1 c) 1 (fun _ => tN k)) (h0 : -999999999999999999 ≤ k) (h1 : k ≤ 999999999999999999) : Calls Tryz.prog 38 #[.agg #[.string nP, .slice p 1 c]] w fun e w' => e = .returned (.bool true) ∧ Below w.heap.size w w' := by
  obtain ⟨g, rfl, hg, c0, c1, c2⟩ := one_term h
  have HN := hide isName_p
  have HV := hide (fun w => value_any k w h0 h1)
  clear h
  generalize nP = nm at *
  go_enter Tryz.func38, Tryz.ntmps38
  go_wp2_with fail
  refine (HN.out _).mono ?_
  rintro x w1 ⟨rfl, rfl⟩
  have d0 := (cell_alloc_old w (.cells #[.string nm, .slice (some ⟨g, 0, none⟩) 1 c] 47) g 0 hg).trans c0
  have d1 := (cell_alloc_old w (.cells #[.string nm, .slice (some ⟨g, 0, none⟩) 1 c] 47) g 1 hg).trans c1
  have d2 := (cell_alloc_old w (.cells #[.string nm, .slice (some ⟨g, 0, none⟩) 1 c] 47) g 2 hg).trans c2
  go_wp2_with fail
  refine wp_loop_rounds 2 ?_
  rw [rounds_succ]
  go_wp2_with fail
  refine (HV.out _).mono ?_
  rintro x w2 ⟨rfl, hb⟩
  go_wp2_with fail
  rw [rounds_succ]
  go_wp2_with fail
  refine bodyPost_ret (v := .bool true) (by simp [results, go_sem]) rfl ⟨rfl, ?_⟩
  exact (((Below.refl _ _).alloc (Nat.le_refl _) _).alloc (by simp) _).trans (hb.mono (by simp; omega))

theorem two_again {out : List Atm} (h : Ord [aN 1, aN 2] out) : out = [aN 1, aN 2] :=
  two_in_order ⟨h.str, fun y hy => by have := h.sub y hy; simp at this ⊢; exact this.symm, fun x hx => h.cov x (by simp at hx ⊢; exact hx.symm)⟩
end Go.Proofs.YtfiipfcdddaceaaGreatDoor
