import Derived.Test.YtfiipfcdddaceaaGreatDoorQ9N
namespace Go.Proofs.YtfiipfcdddaceaaGreatDoor
open Go.RowKit

/-- A term: its kind, its number, its text. -/
structure Tm where
  kind : Int
  num : Int
  text : ByteArray
def Tm.val (t : Tm) : Value := .agg #[.int .i64 t.kind, .int .i64 t.num, .string t.text]

/-- The term that begins at a place (a word or digits), and the place behind it. -/
def tmAt (s : ByteArray) (i : Nat) : Option (Tm × Nat) :=
  if h : i < s.size then
    if letterB (s[i].toNat : Int) then some (⟨kindOf (smallB (s[i].toNat : Int)), 0, s.extract i (i + wl (s.data.toList.drop i))⟩, i + wl (s.data.toList.drop i))
    else if digitB (s[i].toNat : Int) && decide (dg (s.data.toList.drop i) ≤ 18) then
      match Lib.atoi (s.extract i (i + dg (s.data.toList.drop i))).data.toList with
      | some v => some (⟨1, v, ⟨#[]⟩⟩, i + dg (s.data.toList.drop i))
      | none => none
    else none
  else none

theorem dg_le (s : ByteArray) (i : Nat) (hi : i ≤ s.size) : i + dg (s.data.toList.drop i) ≤ s.size := by
  unfold dg
  have := (List.takeWhile_sublist (p := fun c : UInt8 => digitB c.toNat) (l := s.data.toList.drop i)).length_le
  simp at this
  omega

theorem tmAt_le {s : ByteArray} {i : Nat} {t : Tm} {e : Nat} (h : tmAt s i = some (t, e)) : e ≤ s.size := by
  unfold tmAt at h
  split at h
  · split at h
    · simp at h; obtain ⟨_, rfl⟩ := h; exact wl_le s i (by omega)
    · split at h
      · split at h
        · simp at h; obtain ⟨_, rfl⟩ := h; exact dg_le s i (by omega)
        · simp at h
      · simp at h
  · simp at h

set_option maxHeartbeats 1000000 in
theorem termAt_num (s : ByteArray) (i : Nat) (v : Int) (w : World) (hs : s.size ≤ maxLen) (hi : i < s.size) (hd : digitB (s[i].toNat : Int) = true) (hl : letterB (s[i].toNat : Int) = false)
    (hn : dg (s.data.toList.drop i) ≤ 18) (hv : Lib.atoi (s.extract i (i + dg (s.data.toList.drop i))).data.toList = some v) :
    Calls Tryz.prog 165 #[.string s, .int .i64 i] w fun e w' => e = .returned (.tuple #[.agg #[.int .i64 1, .int .i64 v, .string ⟨#[]⟩], .int .i64 (i + dg (s.data.toList.drop i) : Nat), .int .i64 0]) ∧ Below w.heap.size w w' := by
  have hle := dg_le s i (by omega)
  have HC := hide (fun w => numberAt_some s i v w hs hi hd hn hv)
  generalize dg (s.data.toList.drop i) = n at *
  have HW := hide (fun w => wordAt_none s i w hs (by omega) (fun _ => hl))
  have hq : ((s[i].toNat : Int) == 34) = false := by
    rw [beq_eq_false_iff_ne]
    have := of_decide_eq_true hd
    omega
  clear hn hv hd hl
  unfold maxLen at hs
  go_enter Tryz.func165, Tryz.ntmps165
  go_wp2_with fail
  refine (HW.out _).mono ?_
  rintro e w1 ⟨rfl, rfl⟩
  go_wp2_with fail
  refine (HC.out _).mono ?_
  rintro e w2 ⟨rfl, hb⟩
  obtain ⟨hc, hf⟩ := bcell hb
  go_wp2_with fail
  refine bodyPost_ret (v := .tuple #[.agg #[.int .i64 1, .int .i64 v, .string ⟨#[]⟩], .int .i64 (i + n : Nat), .int .i64 0]) (by simp [results, Tryz.results165, go_sem, hc]) rfl ⟨rfl, ?_⟩
  exact (((((Below.refl _ _).alloc (Nat.le_refl _) _).trans (hb.mono (by simp))).setCell (by simp) _).setCell (by simp) _).setCell (by simp) _

theorem termAt_ok (s : ByteArray) (i : Nat) (t : Tm) (e : Nat) (w : World) (hs : s.size ≤ maxLen) (h : tmAt s i = some (t, e)) :
    Calls Tryz.prog 165 #[.string s, .int .i64 i] w fun x w' => x = .returned (.tuple #[t.val, .int .i64 e, .int .i64 0]) ∧ Below w.heap.size w w' := by
  unfold tmAt at h
  split at h
  · rename_i hi
    split at h
    · rename_i hl
      simp at h; obtain ⟨rfl, rfl⟩ := h
      exact termAt_word s i w hs hi hl
    · rename_i hl
      split at h
      · rename_i hd
        simp at hd
        split at h
        · rename_i v hv
          simp at h; obtain ⟨rfl, rfl⟩ := h
          exact termAt_num s i v w hs hi hd.1 (by simpa using hl) hd.2 hv
        · simp at h
      · simp at h
  · simp at h

set_option maxHeartbeats 1000000 in
theorem term_ok (s : ByteArray) (i a : Nat) (t : Tm) (e : Nat) (w : World) (hs : s.size ≤ maxLen) (h : tmAt s i = some (t, e)) (ha : a < 8) :
    Calls Tryz.prog 154 #[.string s, .int .i64 i, .int .i64 a] w fun x w' => x = .returned (.tuple #[t.val, .int .i64 e, .int .i64 0]) ∧ Below w.heap.size w w' := by
  have HC := hide (fun w => termAt_ok s i t e w hs h)
  clear h
  obtain ⟨k, n, tx⟩ := t
  simp only [Tm.val] at *
  go_enter Tryz.func154, Tryz.ntmps154
  go_wp2_with fail
  refine (HC.out _).mono ?_
  rintro x w2 ⟨rfl, hb⟩
  obtain ⟨hc, hf⟩ := bcell hb
  have hz : w.heap.size < w2.heap.size := by have := hb.size; simp at this; omega
  go_wp2_with fail
  refine bodyPost_ret (v := .tuple #[.agg #[.int .i64 k, .int .i64 n, .string tx], .int .i64 (e : Int), .int .i64 0]) (by simp [results, Tryz.results154, go_sem, hc, hz]) rfl ⟨rfl, ?_⟩
  exact ((((((Below.refl _ _).alloc (Nat.le_refl _) _).trans (hb.mono (by simp))).setCell (by simp) _).setCell (by simp) _).setCell (by simp) _).alloc (by simp; omega) _
end Go.Proofs.YtfiipfcdddaceaaGreatDoor
