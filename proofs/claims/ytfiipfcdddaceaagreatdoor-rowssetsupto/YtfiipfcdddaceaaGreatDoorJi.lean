import Derived.Test.YtfiipfcdddaceaaGreatDoorC
import Derived.Test.YtfiipfcdddaceaaGreatDoorShelf
import Derived.Deep.RegionWith
import Derived.Lib.ConvBytes
import Derived.Test.YtfiipfcdddaceaaGreatDoorTm
namespace Go.Proofs.YtfiipfcdddaceaaGreatDoor
open Go.RowKit

/-- How many digits a text begins with. -/
def dg (l : List UInt8) : Nat := (l.takeWhile fun c => digitB c.toNat).length

theorem dg_of (s : ByteArray) (i k : Nat) (hik : i ≤ k) (hk : k ≤ s.size)
    (h1 : ∀ j, i ≤ j → j < k → ∃ h : j < s.size, digitB (s[j].toNat : Int) = true) (h2 : ∀ h : k < s.size, digitB (s[k].toNat : Int) = false) :
    i + dg (s.data.toList.drop i) = k := by
  unfold dg
  rw [takeWhile_len _ _ (k - i)]
  · omega
  · simp; omega
  · intro j hj c hc
    obtain ⟨_, rfl⟩ := drop_get s i j c hc
    obtain ⟨_, h⟩ := h1 (i + j) (by omega) (by omega)
    exact h
  · intro c hc
    obtain ⟨hl, rfl⟩ := drop_get s i (k - i) c hc
    have e : i + (k - i) = k := by omega
    simp only [e] at hl ⊢
    exact h2 hl

theorem more_digits (s : ByteArray) (i k : Nat) (h : ∀ j, i ≤ j → j < k → ∃ h : j < s.size, digitB (s[j].toNat : Int) = true) (hlt : k < s.size) (e : digitB (s[k].toNat : Int) = true) :
    ∀ j, i ≤ j → j < k + 1 → ∃ h : j < s.size, digitB (s[j].toNat : Int) = true := by
  intro j a b
  by_cases hj : j < k
  · exact h j a hj
  · obtain rfl : j = k := by omega
    exact ⟨hlt, e⟩

theorem bw_below (w : World) (e : TypeId) (s : ByteArray) : Below w.heap.size w (Lib.bytesWorld w e s) :=
  ⟨rfl, rfl, rfl, by rw [Lib.bytesWorld_size]; omega, fun k hk => Lib.bytesWorld_at_old w e s k hk⟩

theorem digit_not_minus (c : Int) (h : digitB c = true) : (c == 45) = false := by
  unfold digitB at h
  rw [beq_eq_false_iff_ne]
  have := of_decide_eq_true h
  omega

set_option maxHeartbeats 1000000 in
theorem numberAt_some (s : ByteArray) (i : Nat) (v : Int) (w : World) (hs : s.size ≤ maxLen) (hi : i < s.size) (hd : digitB (s[i].toNat : Int) = true)
    (hn : dg (s.data.toList.drop i) ≤ 18) (hv : Lib.atoi (s.extract i (i + dg (s.data.toList.drop i))).data.toList = some v) :
    Calls Tryz.prog 175 #[.string s, .int .i64 i] w fun e w' => e = .returned (.tuple #[.agg #[.int .i64 1, .int .i64 v, .string ⟨#[]⟩], .int .i64 (i + dg (s.data.toList.drop i) : Nat), .int .i64 0]) ∧ Below w.heap.size w w' := by
  unfold maxLen at hs
  have hm := digit_not_minus _ hd
  have HD := hide hd
  have HN := hide hn
  have HV := hide hv
  clear hn hv hd
  go_enter Tryz.func175, Tryz.ntmps175
  go_wp2_with fail
  clear hm
  go_loop [8] (fun t => ∃ k : Nat, i ≤ k ∧ k ≤ s.size ∧ t = .int .i64 k ∧ ∀ j, i ≤ j → j < k → ∃ h : j < s.size, digitB (s[j].toNat : Int) = true) (fun t => s.size - (intOf t).toNat)
  case atStart => exact ⟨i, Nat.le_refl _, Nat.le_of_lt hi, rfl, fun j a b => by omega⟩
  case round =>
    obtain ⟨k, hk1, hk2, rfl, hall⟩ := hrel
    have HA := hide hall
    clear hall
    by_cases hlt : k < s.size
    · cases h1 : digitB (s[k].toNat : Int)
      · have e := dg_of s i k hk1 hk2 HA.out (fun _ => h1)
        have hik : i < k := Nat.lt_of_le_of_ne hk1 (fun e => by subst e; have := HD.out; rw [h1] at this; cases this)
        have h18 : k ≤ i + 18 := by have := HN.out; omega
        have hv : Lib.atoi (s.extract i k).data.toList = some v := by have := HV.out; rw [e] at this; exact this
        have hne : ((k : Int) == (i : Int)) = false := by rw [beq_eq_false_iff_ne]; omega
        have HVK := hide (Tryz.strconv_Atoi (s.extract i k) v (by simp; omega) hv)
        have HE := hide e
        clear hv e
        go_wp2_with (go_at_call 158; refine (digit_any _ _).mono ?_; rintro e w' ⟨rfl, rfl⟩)
        refine (HVK.out _).mono ?_
        rintro e w1 ⟨rfl, tt, hw1⟩
        have hb : Below (w.heap.size + 1) (w.alloc (.cells #[.int .i64 0, .int .i64 0, .string ⟨#[]⟩] 60)) w1 := by rw [hw1]; exact (bw_below _ 5 tt).mono (by simp)
        clear hw1
        have hcc : ∀ o, w1.cell? ⟨w.heap.size, o, none⟩ = (w.alloc (.cells #[.int .i64 0, .int .i64 0, .string ⟨#[]⟩] 60)).cell? ⟨w.heap.size, o, none⟩ := fun o => hb.cell (p := ⟨w.heap.size, o, none⟩) (by simp)
        have hff : ∀ o, w1.frozen? ⟨w.heap.size, o, none⟩ = (w.alloc (.cells #[.int .i64 0, .int .i64 0, .string ⟨#[]⟩] 60)).frozen? ⟨w.heap.size, o, none⟩ := fun o => hb.frozen (p := ⟨w.heap.size, o, none⟩) (by simp)
        have HB := hide hb
        clear hb
        go_wp2_with fail
        rw [HE.out]
        refine bodyPost_ret (v := .tuple #[.agg #[.int .i64 1, .int .i64 v, .string ⟨#[]⟩], .int .i64 (k : Int), .int .i64 0]) (by simp [results, Tryz.results175, go_sem, hcc]) rfl ⟨rfl, ?_⟩
        exact (((((Below.refl _ _).alloc (Nat.le_refl _) _).trans (HB.out.mono (by simp))).setCell (by simp) _).setCell (by simp) _).setCell (by simp) _
      · go_wp2_with (go_at_call 158; refine (digit_any _ _).mono ?_; rintro e w' ⟨rfl, rfl⟩)
        go_round
        case rel => exact ⟨k + 1, by omega, by omega, by go_num, more_digits s i k HA.out hlt h1⟩
        case measure => simp [intOf]; omega
    · have e := dg_of s i k hk1 hk2 HA.out (fun h => absurd h hlt)
      have hik : i < k := by omega
      have h18 : k ≤ i + 18 := by have := HN.out; omega
      have hv : Lib.atoi (s.extract i k).data.toList = some v := by have := HV.out; rw [e] at this; exact this
      have hne : ((k : Int) == (i : Int)) = false := by rw [beq_eq_false_iff_ne]; omega
      have HVK := hide (Tryz.strconv_Atoi (s.extract i k) v (by simp; omega) hv)
      have HE := hide e
      clear hv e
      go_wp2_with fail
      refine (HVK.out _).mono ?_
      rintro e w1 ⟨rfl, tt, hw1⟩
      have hb : Below (w.heap.size + 1) (w.alloc (.cells #[.int .i64 0, .int .i64 0, .string ⟨#[]⟩] 60)) w1 := by rw [hw1]; exact (bw_below _ 5 tt).mono (by simp)
      clear hw1
      have hcc : ∀ o, w1.cell? ⟨w.heap.size, o, none⟩ = (w.alloc (.cells #[.int .i64 0, .int .i64 0, .string ⟨#[]⟩] 60)).cell? ⟨w.heap.size, o, none⟩ := fun o => hb.cell (p := ⟨w.heap.size, o, none⟩) (by simp)
      have hff : ∀ o, w1.frozen? ⟨w.heap.size, o, none⟩ = (w.alloc (.cells #[.int .i64 0, .int .i64 0, .string ⟨#[]⟩] 60)).frozen? ⟨w.heap.size, o, none⟩ := fun o => hb.frozen (p := ⟨w.heap.size, o, none⟩) (by simp)
      have HB := hide hb
      clear hb
      go_wp2_with fail
      rw [HE.out]
      refine bodyPost_ret (v := .tuple #[.agg #[.int .i64 1, .int .i64 v, .string ⟨#[]⟩], .int .i64 (k : Int), .int .i64 0]) (by simp [results, Tryz.results175, go_sem, hcc]) rfl ⟨rfl, ?_⟩
      exact (((((Below.refl _ _).alloc (Nat.le_refl _) _).trans (HB.out.mono (by simp))).setCell (by simp) _).setCell (by simp) _).setCell (by simp) _
end Go.Proofs.YtfiipfcdddaceaaGreatDoor

namespace Go.Proofs.YtfiipfcdddaceaaGreatDoor
open Go.RowKit

/-- The term that begins at a place (a word or digits), and the place behind it. -/
def tmAt (s : ByteArray) (i : Nat) : Option (Tm × Nat) :=
  if h : i < s.size then
    if letterB (s[i].toNat : Int) then some (⟨kindOf (smallB (s[i].toNat : Int)), 0, s.extract i (i + wl (s.data.toList.drop i))⟩, i + wl (s.data.toList.drop i))
    else if digitB (s[i].toNat : Int) && decide (dg (s.data.toList.drop i) ≤ 18) then
      match Lib.atoi (s.extract i (i + dg (s.data.toList.drop i))).data.toList with
      | some v => some (⟨1, v, ⟨#[]⟩⟩, i + dg (s.data.toList.drop i))
      | none => none
    else none
  else none

theorem dg_le (s : ByteArray) (i : Nat) (hi : i ≤ s.size) : i + dg (s.data.toList.drop i) ≤ s.size := by
  unfold dg
  have := (List.takeWhile_sublist (p := fun c : UInt8 => digitB c.toNat) (l := s.data.toList.drop i)).length_le
  simp at this
  omega

theorem tmAt_le {s : ByteArray} {i : Nat} {t : Tm} {e : Nat} (h : tmAt s i = some (t, e)) : e ≤ s.size := by
  unfold tmAt at h
  split at h
  · split at h
    · simp at h; obtain ⟨_, rfl⟩ := h; exact wl_le s i (by omega)
    · split at h
      · split at h
        · simp at h; obtain ⟨_, rfl⟩ := h; exact dg_le s i (by omega)
        · simp at h
      · simp at h
  · simp at h

set_option maxHeartbeats 1000000 in
theorem termAt_num (s : ByteArray) (i : Nat) (v : Int) (w : World) (hs : s.size ≤ maxLen) (hi : i < s.size) (hd : digitB (s[i].toNat : Int) = true) (hl : letterB (s[i].toNat : Int) = false)
    (hn : dg (s.data.toList.drop i) ≤ 18) (hv : Lib.atoi (s.extract i (i + dg (s.data.toList.drop i))).data.toList = some v) :
    Calls Tryz.prog 165 #[.string s, .int .i64 i] w fun e w' => e = .returned (.tuple #[.agg #[.int .i64 1, .int .i64 v, .string ⟨#[]⟩], .int .i64 (i + dg (s.data.toList.drop i) : Nat), .int .i64 0]) ∧ Below w.heap.size w w' := by
  have hle := dg_le s i (by omega)
  have HC := hide (fun w => numberAt_some s i v w hs hi hd hn hv)
  generalize dg (s.data.toList.drop i) = n at *
  have HW := hide (fun w => wordAt_none s i w hs (by omega) (fun _ => hl))
  have hq : ((s[i].toNat : Int) == 34) = false := by
    rw [beq_eq_false_iff_ne]
    have := of_decide_eq_true hd
    omega
  clear hn hv hd hl
  unfold maxLen at hs
  go_enter Tryz.func165, Tryz.ntmps165
  go_wp2_with fail
  refine (HW.out _).mono ?_
  rintro e w1 ⟨rfl, rfl⟩
  go_wp2_with fail
  refine (HC.out _).mono ?_
  rintro e w2 ⟨rfl, hb⟩
  obtain ⟨hc, hf⟩ := bcell hb
  go_wp2_with fail
  refine bodyPost_ret (v := .tuple #[.agg #[.int .i64 1, .int .i64 v, .string ⟨#[]⟩], .int .i64 (i + n : Nat), .int .i64 0]) (by simp [results, Tryz.results165, go_sem, hc]) rfl ⟨rfl, ?_⟩
  exact (((((Below.refl _ _).alloc (Nat.le_refl _) _).trans (hb.mono (by simp))).setCell (by simp) _).setCell (by simp) _).setCell (by simp) _

theorem termAt_ok (s : ByteArray) (i : Nat) (t : Tm) (e : Nat) (w : World) (hs : s.size ≤ maxLen) (h : tmAt s i = some (t, e)) :
    Calls Tryz.prog 165 #[.string s, .int .i64 i] w fun x w' => x = .returned (.tuple #[t.val, .int .i64 e, .int .i64 0]) ∧ Below w.heap.size w w' := by
  unfold tmAt at h
  split at h
  · rename_i hi
    split at h
    · rename_i hl
      simp at h; obtain ⟨rfl, rfl⟩ := h
      exact termAt_word s i w hs hi hl
    · rename_i hl
      split at h
      · rename_i hd
        simp at hd
        split at h
        · rename_i v hv
          simp at h; obtain ⟨rfl, rfl⟩ := h
          exact termAt_num s i v w hs hi hd.1 (by simpa using hl) hd.2 hv
        · simp at h
      · simp at h
  · simp at h

set_option maxHeartbeats 1000000 in
theorem term_ok (s : ByteArray) (i a : Nat) (t : Tm) (e : Nat) (w : World) (hs : s.size ≤ maxLen) (h : tmAt s i = some (t, e)) (ha : a < 8) :
    Calls Tryz.prog 154 #[.string s, .int .i64 i, .int .i64 a] w fun x w' => x = .returned (.tuple #[t.val, .int .i64 e, .int .i64 0]) ∧ Below w.heap.size w w' := by
  have HC := hide (fun w => termAt_ok s i t e w hs h)
  clear h
  obtain ⟨k, n, tx⟩ := t
  simp only [Tm.val] at *
  go_enter Tryz.func154, Tryz.ntmps154
  go_wp2_with fail
  refine (HC.out _).mono ?_
  rintro x w2 ⟨rfl, hb⟩
  obtain ⟨hc, hf⟩ := bcell hb
  have hz : w.heap.size < w2.heap.size := by have := hb.size; simp at this; omega
  go_wp2_with fail
  refine bodyPost_ret (v := .tuple #[.agg #[.int .i64 k, .int .i64 n, .string tx], .int .i64 (e : Int), .int .i64 0]) (by simp [results, Tryz.results154, go_sem, hc, hz]) rfl ⟨rfl, ?_⟩
  exact ((((((Below.refl _ _).alloc (Nat.le_refl _) _).trans (hb.mono (by simp))).setCell (by simp) _).setCell (by simp) _).setCell (by simp) _).alloc (by simp; omega) _
end Go.Proofs.YtfiipfcdddaceaaGreatDoor
