import Derived.Test.YtfiipfcdddaceaaGreatDoorB
namespace Go.Proofs.YtfiipfcdddaceaaGreatDoor
open Go.RowKit

theorem bcell {W w1 : World} (hb : Below W.heap.size W w1) : (∀ b o, b < W.heap.size → w1.cell? ⟨b, o, none⟩ = W.cell? ⟨b, o, none⟩) ∧ (∀ b o, b < W.heap.size → w1.frozen? ⟨b, o, none⟩ = W.frozen? ⟨b, o, none⟩) :=
  ⟨fun b o h => hb.cell (p := ⟨b, o, none⟩) h, fun b o h => hb.frozen (p := ⟨b, o, none⟩) h⟩

theorem wl_pos (s : ByteArray) (i : Nat) (hi : i < s.size) (h : letterB (s[i].toNat : Int) = true) : 0 < wl (s.data.toList.drop i) := by
  have e : s.data.toList.drop i = s[i] :: s.data.toList.drop (i + 1) := by
    rw [List.drop_eq_getElem_cons (by simpa using hi)]; rfl
  rw [e]; simp [wl, h, wordB]

theorem wl_le (s : ByteArray) (i : Nat) (hi : i ≤ s.size) : i + wl (s.data.toList.drop i) ≤ s.size := by
  have h : ∀ l : List UInt8, wl l ≤ l.length := by
    intro l
    cases l with
    | nil => simp [wl]
    | cons c l =>
      simp only [wl]
      split
      · exact (List.takeWhile_sublist _).length_le
      · omega
  have := h (s.data.toList.drop i)
  simp at this
  omega

theorem word_facts (s : ByteArray) (i : Nat) (hi : i < s.size) (h : letterB (s[i].toNat : Int) = true) :
    ∃ h0 : 0 < (s.extract i (i + wl (s.data.toList.drop i))).size, (s.extract i (i + wl (s.data.toList.drop i)))[0] = s[i] := by
  have h1 := wl_pos s i hi h
  have h2 := wl_le s i (by omega)
  refine ⟨by simp; omega, ?_⟩
  simp [ByteArray.getElem_extract]

theorem not_empty (wd : ByteArray) (h : 0 < wd.size) : wd.toList.isEmpty = false := by
  rw [ByteArray.toList_eq]
  have : 0 < wd.data.toList.length := by simpa using h
  cases hl : wd.data.toList
  · simp [hl] at this
  · rfl

set_option maxHeartbeats 400000 in
theorem nameAt_some (s : ByteArray) (i : Nat) (w : World) (hs : s.size ≤ maxLen) (hi : i < s.size) (h : smallB (s[i].toNat : Int) = true) :
    Calls Tryz.prog 123 #[.string s, .int .i64 i] w fun e w' => e = .returned (.tuple #[.string (s.extract i (i + wl (s.data.toList.drop i))), .bool true]) ∧ w' = w := by
  have hl : letterB (s[i].toNat : Int) = true := by simp [letterB, h]
  have hw := word_facts s i hi hl
  have hc := wordAt_some s i w hs hi hl
  generalize s.extract i (i + wl (s.data.toList.drop i)) = wd at *
  obtain ⟨h0, h1⟩ := hw
  rw [← h1] at h
  clear h1 hl
  have HC := hide hc
  clear hc
  have hne := not_empty wd h0
  go_enter Tryz.func123, Tryz.ntmps123
  go_wp2_with fail
  refine HC.out.mono ?_
  rintro e w' ⟨rfl, rfl⟩
  go_wp2_with (go_at_call 144; refine (small_any _ _).mono ?_; rintro e w' ⟨rfl, rfl⟩)
  go_ret2
  exact ⟨rfl, rfl⟩

def kindOf (b : Bool) : Int := if b then 2 else 0

set_option maxHeartbeats 400000 in
theorem wordTerm_any (wd : ByteArray) (b : Bool) (w : World) (h0 : 0 < wd.size) (h : smallB (wd[0].toNat : Int) = b) :
    Calls Tryz.prog 173 #[.string wd] w fun e w' => e = .returned (.agg #[.int .i64 (kindOf b), .int .i64 0, .string wd]) ∧ Below w.heap.size w w' := by
  cases b
  all_goals
    go_enter Tryz.func173, Tryz.ntmps173
    go_wp2_with (go_at_call 144; refine (small_any _ _).mono ?_; rintro e w' ⟨rfl, rfl⟩)
  · exact bodyPost_ret (v := .agg #[.int .i64 0, .int .i64 0, .string wd]) (by simp [results, go_sem]) rfl ⟨rfl, (Below.refl _ _).alloc (Nat.le_refl _) _⟩
  · exact bodyPost_ret (v := .agg #[.int .i64 2, .int .i64 0, .string wd]) (by simp [results, go_sem]) rfl ⟨rfl, (Below.refl _ _).alloc (Nat.le_refl _) _⟩

set_option maxHeartbeats 400000 in
theorem termAt_word (s : ByteArray) (i : Nat) (w : World) (hs : s.size ≤ maxLen) (hi : i < s.size) (h : letterB (s[i].toNat : Int) = true) :
    Calls Tryz.prog 165 #[.string s, .int .i64 i] w fun e w' => e = .returned (.tuple #[.agg #[.int .i64 (kindOf (smallB (s[i].toNat : Int))), .int .i64 0, .string (s.extract i (i + wl (s.data.toList.drop i)))], .int .i64 (i + wl (s.data.toList.drop i) : Nat), .int .i64 0]) ∧ Below w.heap.size w w' := by
  have hw := word_facts s i hi h
  have hc := fun w => wordAt_some s i w hs hi h
  have hsz : (s.extract i (i + wl (s.data.toList.drop i))).size = wl (s.data.toList.drop i) := by
    have := wl_le s i (by omega)
    simp; omega
  have hle := wl_le s i (by omega)
  generalize s.extract i (i + wl (s.data.toList.drop i)) = wd at *
  obtain ⟨h0, h1⟩ := hw
  have hk : smallB (wd[0].toNat : Int) = smallB (s[i].toNat : Int) := by rw [h1]
  clear h1 h
  have ht := fun w => wordTerm_any wd _ w h0 hk
  clear hk
  generalize kindOf (smallB (s[i].toNat : Int)) = kd at *
  generalize wl (s.data.toList.drop i) = n at *
  subst hsz
  have HC := hide hc
  clear hc
  have HT := hide ht
  clear ht
  have hne := not_empty wd h0
  unfold maxLen at hs
  go_enter Tryz.func165, Tryz.ntmps165
  go_wp2_with fail
  refine (HC.out _).mono ?_
  rintro e w1 ⟨rfl, rfl⟩
  go_wp2_with fail
  refine (HT.out _).mono ?_
  rintro e w1 ⟨rfl, hb⟩
  obtain ⟨hc, hf⟩ := bcell hb
  go_wp2_with fail
  refine bodyPost_ret (v := .tuple #[.agg #[.int .i64 kd, .int .i64 0, .string wd], .int .i64 (i + wd.size : Nat), .int .i64 0]) (by simp [results, go_sem, hc]) rfl ⟨rfl, ?_⟩
  exact (((((Below.refl _ _).alloc (Nat.le_refl _) _).trans (hb.mono (by simp))).setCell (by simp) _).setCell (by simp) _).setCell (by simp) _
end Go.Proofs.YtfiipfcdddaceaaGreatDoor
