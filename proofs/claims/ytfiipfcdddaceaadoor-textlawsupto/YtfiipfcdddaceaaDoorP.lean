import Derived.Test.YtfiipfcdddaceaaDoorM
namespace Go.Proofs.YtfiipfcdddaceaaDoor
open Go.RowKit

def blankB (c : Int) : Bool := c == 32 || c == 9 || c == 10
/-- Where a text goes on behind the blanks from a place on. -/
def ps (s : ByteArray) (i : Nat) : Nat := i + ((s.data.toList.drop i).takeWhile fun c => blankB c.toNat).length

theorem ps_of (s : ByteArray) (i k : Nat) (hik : i ≤ k) (hk : k ≤ s.size)
    (h1 : ∀ j, i ≤ j → j < k → ∃ h : j < s.size, blankB (s[j].toNat : Int) = true) (h2 : ∀ h : k < s.size, blankB (s[k].toNat : Int) = false) :
    ps s i = k := by
  unfold ps
  rw [takeWhile_len _ _ (k - i)]
  · omega
  · simp; omega
  · intro j hj c hc
    obtain ⟨_, rfl⟩ := drop_get s i j c hc
    obtain ⟨_, h⟩ := h1 (i + j) (by omega) (by omega)
    exact h
  · intro c hc
    obtain ⟨hl, rfl⟩ := drop_get s i (k - i) c hc
    have e : i + (k - i) = k := by omega
    simp only [e] at hl ⊢
    exact h2 hl

theorem more_blanks (s : ByteArray) (i k : Nat) (h : ∀ j, i ≤ j → j < k → ∃ h : j < s.size, blankB (s[j].toNat : Int) = true) (hlt : k < s.size) (e : blankB (s[k].toNat : Int) = true) :
    ∀ j, i ≤ j → j < k + 1 → ∃ h : j < s.size, blankB (s[j].toNat : Int) = true := by
  intro j a b
  by_cases hj : j < k
  · exact h j a hj
  · obtain rfl : j = k := by omega
    exact ⟨hlt, e⟩

def posOf (r : Nat) (w : World) : Nat := match w.cell? ⟨r, 1, none⟩ with
  | some (.int _ n) => n.toNat
  | _ => 0

theorem Rd.pos {r : Nat} {s : ByteArray} {i : Nat} {w : World} (h : Rd r s i w) : posOf r w = i := by simp [posOf, h.c1]
theorem Rd.drewN {r : Nat} {s : ByteArray} {i : Nat} {w : World} (h : Rd r s i w) (n : Nat) : Rd r s i (w.drewN n) := ⟨h.lt, h.c0, h.c1, h.f1⟩
theorem Rd.set {r : Nat} {s : ByteArray} {i : Nat} {w : World} (h : Rd r s i w) (k : Nat) : Rd r s k (w.setCell ⟨r, 1, none⟩ (.int .i64 k)) :=
  ⟨by simpa using h.lt, by rw [World.cell?_setCell_other]; exact h.c0; simp, World.cell?_setCell_same _ _ _ h.c1, by rw [World.frozen?_setCell]; exact h.f1⟩


set_option maxHeartbeats 1000000 in
theorem skip_any (s : ByteArray) (t : Nat) (w : World) (hs : s.size ≤ maxLen) (ht : t ≤ s.size) (hnp : ∀ j (h : j < s.size), ((s[j].toNat : Int) == 37) = false) :
    Calls Tryd.prog 44 #[.string s, .int .i64 t] w fun e w' => e = .returned (.int .i64 (ps s t)) ∧ ∃ n, w' = w.drewN n := by
  unfold maxLen at hs
  have HN := hide hnp
  clear hnp
  go_enter Tryd.func44, Tryd.ntmps44
  go_wp2_with fail
  go_loop [1] (fun v => ∃ k : Nat, v = .int .i64 k ∧ t ≤ k ∧ k ≤ s.size ∧ ∀ j, t ≤ j → j < k → ∃ h : j < s.size, blankB (s[j].toNat : Int) = true) (fun v => s.size - (intOf v).toNat)
  case atStart => exact ⟨t, rfl, Nat.le_refl _, ht, fun j a b => by omega⟩
  case round =>
    obtain ⟨k, rfl, hk1, hk2, hall⟩ := hrel
    have HA := hide hall
    clear hall
    by_cases hk : k < s.size
    · have hnp := HN.out k hk
      cases h1 : ((s[k].toNat : Int) == 32)
      · cases h2 : ((s[k].toNat : Int) == 9)
        · cases h3 : ((s[k].toNat : Int) == 10)
          · go_wp2_with fail
            have e := ps_of s t k hk1 hk2 HA.out (fun _ => by simp [blankB, h1, h2, h3])
            rw [e]
            exact bodyPost_ret (v := .int .i64 (k : Int)) (by simp [results, go_sem]) rfl ⟨rfl, 0, rfl⟩
          · go_wp2_with fail
            go_round
            case rel => exact ⟨k + 1, by go_num, by omega, by omega, more_blanks s t k HA.out hk (by simp [blankB, h3])⟩
            case measure => simp [intOf]; omega
        · go_wp2_with fail
          go_round
          case rel => exact ⟨k + 1, by go_num, by omega, by omega, more_blanks s t k HA.out hk (by simp [blankB, h2])⟩
          case measure => simp [intOf]; omega
      · go_wp2_with fail
        go_round
        case rel => exact ⟨k + 1, by go_num, by omega, by omega, more_blanks s t k HA.out hk (by simp [blankB, h1])⟩
        case measure => simp [intOf]; omega
    · go_wp2_with fail
      have e := ps_of s t k hk1 hk2 HA.out (fun h => absurd h hk)
      rw [e]
      exact bodyPost_ret (v := .int .i64 (k : Int)) (by simp [results, go_sem]) rfl ⟨rfl, 0, rfl⟩

set_option maxHeartbeats 1000000 in
theorem pass_any (r : Nat) (s : ByteArray) (i t : Nat) (w : World) (hs : s.size ≤ maxLen) (ht : t ≤ s.size) (hnp : ∀ j (h : j < s.size), ((s[j].toNat : Int) == 37) = false) (hr : Rd r s i w) :
    Calls Tryd.prog 36 #[.pointer (some ⟨r, 0, none⟩), .int .i64 t] w fun e w' => e = .returned (.tuple #[]) ∧ Rd r s (ps s t) w' ∧ Keep r w w' := by
  have HS := hide (fun w => skip_any s t w hs ht hnp)
  clear hnp
  have HR := hide hr
  obtain ⟨hlt, c0, c1, f1⟩ := hr
  go_enter Tryd.func36, Tryd.ntmps36
  go_wp2_with fail
  refine (HS.out _).mono ?_
  rintro e w1 ⟨rfl, n, rfl⟩
  go_wp2_with fail
  go_end0
  exact ⟨rfl, (HR.out.drewN n).set _, ((Keep.refl _ _).drewN n).setCell _ _⟩
end Go.Proofs.YtfiipfcdddaceaaDoor
