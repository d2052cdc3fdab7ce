import Derived.Test.YtfiipfcdddaceaaGreatDoorA
namespace Go.Proofs.YtfiipfcdddaceaaGreatDoor
open Go.RowKit

def wordB (c : Int) : Bool := letterB c || digitB c || decide (c = 95)
def wl (l : List UInt8) : Nat := match l with
  | [] => 0
  | c :: _ => if letterB c.toNat then (l.takeWhile fun c => wordB c.toNat).length else 0

theorem takeWhile_len (p : UInt8 → Bool) : ∀ (l : List UInt8) (n : Nat), n ≤ l.length → (∀ j, j < n → ∀ c, l[j]? = some c → p c = true) → (∀ c, l[n]? = some c → p c = false) → (l.takeWhile p).length = n := by
  intro l
  induction l with
  | nil => intro n hn _ _; simp at hn; simp [hn]
  | cons a l ih =>
    intro n hn h1 h2
    cases n with
    | zero => have := h2 a rfl; simp [this]
    | succ n =>
      have ha := h1 0 (by omega) a rfl
      simp only [List.takeWhile_cons, ha, if_true, List.length_cons]
      rw [ih n (by simpa using hn) (fun j hj c hc => h1 (j + 1) (by omega) c (by simpa using hc)) (fun c hc => h2 c (by simpa using hc))]

theorem drop_get (s : ByteArray) (k j : Nat) (c : UInt8) (h : (s.data.toList.drop k)[j]? = some c) : ∃ hl : k + j < s.size, s[k + j] = c := by
  rw [List.getElem?_drop] at h
  obtain ⟨hl, hc⟩ := List.getElem?_eq_some_iff.1 h
  exact ⟨by simpa using hl, hc⟩

theorem wl_of (s : ByteArray) (i k : Nat) (hik : i ≤ k) (hk : k ≤ s.size) (h0 : ∃ h : i < s.size, letterB (s[i].toNat : Int) = true)
    (h1 : ∀ j, i ≤ j → j < k → ∃ h : j < s.size, wordB (s[j].toNat : Int) = true) (h2 : ∀ h : k < s.size, wordB (s[k].toNat : Int) = false) :
    i + wl (s.data.toList.drop i) = k := by
  obtain ⟨hi, hl⟩ := h0
  have e : s.data.toList.drop i = s[i] :: s.data.toList.drop (i + 1) := by
    rw [List.drop_eq_getElem_cons (by simpa using hi)]; rfl
  have ew : wl (s.data.toList.drop i) = ((s.data.toList.drop i).takeWhile fun c => wordB c.toNat).length := by
    rw [e]; simp [wl, hl]
  rw [ew, takeWhile_len _ _ (k - i)]
  · omega
  · simp; omega
  · intro j hj c hc
    obtain ⟨_, rfl⟩ := drop_get s i j c hc
    obtain ⟨_, h⟩ := h1 (i + j) (by omega) (by omega)
    exact h
  · intro c hc
    obtain ⟨hl, rfl⟩ := drop_get s i (k - i) c hc
    have e : i + (k - i) = k := by omega
    simp only [e] at hl ⊢
    exact h2 hl

theorem wl_no (s : ByteArray) (i : Nat) (h : ∀ h : i < s.size, letterB (s[i].toNat : Int) = false) : wl (s.data.toList.drop i) = 0 := by
  by_cases hi : i < s.size
  · have e : s.data.toList.drop i = s[i] :: s.data.toList.drop (i + 1) := by
      rw [List.drop_eq_getElem_cons (by simpa using hi)]; rfl
    rw [e]; simp [wl, h hi]
  · rw [List.drop_eq_nil_of_le (by simp; omega)]; rfl

theorem more_words (s : ByteArray) (i k : Nat) (h : ∀ j, i ≤ j → j < k → ∃ h : j < s.size, wordB (s[j].toNat : Int) = true) (hlt : k < s.size) (e : wordB (s[k].toNat : Int) = true) :
    ∀ j, i ≤ j → j < k + 1 → ∃ h : j < s.size, wordB (s[j].toNat : Int) = true := by
  intro j a b
  by_cases hj : j < k
  · exact h j a hj
  · obtain rfl : j = k := by omega
    exact ⟨hlt, e⟩

set_option maxHeartbeats 400000 in
theorem wordAt_none (s : ByteArray) (i : Nat) (w : World) (_hs : s.size ≤ maxLen) (hi : i ≤ s.size) (h : ∀ h : i < s.size, letterB (s[i].toNat : Int) = false) :
    Calls Tryz.prog 143 #[.string s, .int .i64 i] w fun e w' => e = .returned (.string ⟨#[]⟩) ∧ w' = w := by
  unfold maxLen at _hs
  by_cases hlt : i < s.size
  · have hf := h hlt
    clear h
    go_enter Tryz.func143, Tryz.ntmps143
    go_wp2_with (go_at_call 157; refine (letter_any _ _).mono ?_; rintro e w' ⟨rfl, rfl⟩)
    go_ret
    exact ⟨rfl, rfl⟩
  · go_enter Tryz.func143, Tryz.ntmps143
    go_wp2_with (go_at_call 157; refine (letter_any _ _).mono ?_; rintro e w' ⟨rfl, rfl⟩)
    go_ret
    exact ⟨rfl, rfl⟩

set_option maxHeartbeats 400000 in
theorem wordAt_some (s : ByteArray) (i : Nat) (w : World) (hs : s.size ≤ maxLen) (hi : i < s.size) (h : letterB (s[i].toNat : Int) = true) :
    Calls Tryz.prog 143 #[.string s, .int .i64 i] w fun e w' => e = .returned (.string (s.extract i (i + wl (s.data.toList.drop i)))) ∧ w' = w := by
  unfold maxLen at hs
  have HL : Hid (letterB (s[i].toNat : Int) = true) := h
  have hne : ((i : Int) == (s.size : Int)) = false := beq_eq_false_iff_ne.2 (by omega)
  go_enter Tryz.func143, Tryz.ntmps143
  go_wp2_with (go_at_call 157; refine (letter_any _ _).mono ?_; rintro e w' ⟨rfl, rfl⟩)
  clear h
  go_loop [5] (fun t => ∃ k : Nat, i ≤ k ∧ k ≤ s.size ∧ t = .int .i64 k ∧ ∀ j, i ≤ j → j < k → ∃ h : j < s.size, wordB (s[j].toNat : Int) = true) (fun t => s.size - (intOf t).toNat)
  case atStart => exact ⟨i, Nat.le_refl _, Nat.le_of_lt hi, rfl, fun j a b => by omega⟩
  case round =>
    obtain ⟨k, hk1, hk2, rfl, hall⟩ := hrel
    have HA : Hid (∀ j, i ≤ j → j < k → ∃ h : j < s.size, wordB (s[j].toNat : Int) = true) := hall
    clear hall
    by_cases hlt : k < s.size
    · cases h1 : letterB (s[k].toNat : Int) <;> cases h2 : digitB (s[k].toNat : Int) <;> cases h3 : ((s[k].toNat : Int) == 95)
      all_goals go_wp2_with (first | (go_at_call 157; refine (letter_any _ _).mono ?_; rintro e w' ⟨rfl, rfl⟩) | (go_at_call 158; refine (digit_any _ _).mono ?_; rintro e w' ⟨rfl, rfl⟩))
      · have e := wl_of s i k hk1 hk2 ⟨hi, HL.out⟩ HA.out (fun _ => by simp [wordB, h1, h2]; simpa using h3)
        go_ret
        exact ⟨by rw [e]; rfl, rfl⟩
      all_goals
        have e : wordB (s[k].toNat : Int) = true := by simp [wordB, h1, h2] <;> simpa using h3
        go_round
        case rel => exact ⟨k + 1, by omega, by omega, by go_num, more_words s i k HA.out hlt e⟩
        case measure => simp [intOf]; omega
    · go_wp2_with (first | (go_at_call 157; refine (letter_any _ _).mono ?_; rintro e w' ⟨rfl, rfl⟩) | (go_at_call 158; refine (digit_any _ _).mono ?_; rintro e w' ⟨rfl, rfl⟩))
      have e := wl_of s i k hk1 hk2 ⟨hi, HL.out⟩ HA.out (fun h => absurd h hlt)
      go_ret
      exact ⟨by rw [e]; rfl, rfl⟩
end Go.Proofs.YtfiipfcdddaceaaGreatDoor
