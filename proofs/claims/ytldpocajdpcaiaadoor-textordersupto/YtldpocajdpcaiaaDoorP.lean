import Derived.Test.YtldpocajdpcaiaaDoorM
namespace Go.Proofs.YtldpocajdpcaiaaDoor
open Go.RowKit

def blankB (c : Int) : Bool := c == 32 || c == 9 || c == 10
/-- Where a text goes on behind the blanks from a place on. -/
def ps (s : ByteArray) (i : Nat) : Nat := i + ((s.data.toList.drop i).takeWhile fun c => blankB c.toNat).length

theorem ps_of (s : ByteArray) (i k : Nat) (hik : i ≤ k) (hk : k ≤ s.size)
    (h1 : ∀ j, i ≤ j → j < k → ∃ h : j < s.size, blankB (s[j].toNat : Int) = true) (h2 : ∀ h : k < s.size, blankB (s[k].toNat : Int) = false) :
    ps s i = k := by
  unfold ps
  rw [takeWhile_len _ _ (k - i)]
  · omega
  · simp; omega
  · intro j hj c hc
    obtain ⟨_, rfl⟩ := drop_get s i j c hc
    obtain ⟨_, h⟩ := h1 (i + j) (by omega) (by omega)
    exact h
  · intro c hc
    obtain ⟨hl, rfl⟩ := drop_get s i (k - i) c hc
    have e : i + (k - i) = k := by omega
    simp only [e] at hl ⊢
    exact h2 hl

theorem more_blanks (s : ByteArray) (i k : Nat) (h : ∀ j, i ≤ j → j < k → ∃ h : j < s.size, blankB (s[j].toNat : Int) = true) (hlt : k < s.size) (e : blankB (s[k].toNat : Int) = true) :
    ∀ j, i ≤ j → j < k + 1 → ∃ h : j < s.size, blankB (s[j].toNat : Int) = true := by
  intro j a b
  by_cases hj : j < k
  · exact h j a hj
  · obtain rfl : j = k := by omega
    exact ⟨hlt, e⟩

def posOf (r : Nat) (w : World) : Nat := match w.cell? ⟨r, 1, none⟩ with
  | some (.int _ n) => n.toNat
  | _ => 0

theorem Rd.pos {r : Nat} {s : ByteArray} {i : Nat} {w : World} (h : Rd r s i w) : posOf r w = i := by simp [posOf, h.c1]
theorem Rd.drewN {r : Nat} {s : ByteArray} {i : Nat} {w : World} (h : Rd r s i w) (n : Nat) : Rd r s i (w.drewN n) := ⟨h.lt, h.c0, h.c1, h.f1⟩
theorem Rd.set {r : Nat} {s : ByteArray} {i : Nat} {w : World} (h : Rd r s i w) (k : Nat) : Rd r s k (w.setCell ⟨r, 1, none⟩ (.int .i64 k)) :=
  ⟨by simpa using h.lt, by rw [World.cell?_setCell_other]; exact h.c0; simp, World.cell?_setCell_same _ _ _ h.c1, by rw [World.frozen?_setCell]; exact h.f1⟩

theorem round_end {r : Nat} {s : ByteArray} {t k : Nat} {w wr w2 : World} {n : Nat} (hk1 : t ≤ k) (hk : k < s.size) (hall : ∀ j, t ≤ j → j < k → ∃ h : j < s.size, blankB (s[j].toNat : Int) = true) (hb : blankB (s[k].toNat : Int) = true) (hr : Rd r s k wr) (h2 : Rd r s k w2) (hkp : Keep r w w2) :
    (∃ k' : Nat, t ≤ k' ∧ k' ≤ s.size ∧ (∀ j, t ≤ j → j < k' → ∃ h : j < s.size, blankB (s[j].toNat : Int) = true) ∧ Rd r s k' ((w2.drewN n).setCell ⟨r, 1, none⟩ (.int .i64 ((k : Int) + 1))) ∧ Keep r w ((w2.drewN n).setCell ⟨r, 1, none⟩ (.int .i64 ((k : Int) + 1)))) ∧
      s.size - posOf r ((w2.drewN n).setCell ⟨r, 1, none⟩ (.int .i64 ((k : Int) + 1))) < s.size - posOf r wr := by
  have e : ((k : Int) + 1) = ((k + 1 : Nat) : Int) := by omega
  rw [e]
  have h3 := (h2.drewN n).set (k + 1)
  refine ⟨⟨k + 1, by omega, by omega, more_blanks s t k hall hk hb, h3, (hkp.drewN n).setCell _ _⟩, ?_⟩
  rw [h3.pos, hr.pos]
  omega

set_option maxHeartbeats 1000000 in
theorem pass_any (r : Nat) (s : ByteArray) (i t : Nat) (w : World) (hs : s.size ≤ maxLen) (ht : t ≤ s.size) (hnp : ∀ j (h : j < s.size), ((s[j].toNat : Int) == 37) = false) (hr : Rd r s i w) :
    Calls Tryd.prog 43 #[.pointer (some ⟨r, 0, none⟩), .int .i64 t] w fun e w' => e = .returned (.tuple #[]) ∧ Rd r s (ps s t) w' ∧ Keep r w w' := by
  unfold maxLen at hs
  have HN := hide hnp
  clear hnp
  have HR := hide hr
  obtain ⟨hlt, c0, c1, f1⟩ := hr
  go_enter Tryd.func43, Tryd.ntmps43
  go_wp2_with fail
  clear c0 c1 f1
  go_loopw [] (fun wr => ∃ k : Nat, t ≤ k ∧ k ≤ s.size ∧ (∀ j, t ≤ j → j < k → ∃ h : j < s.size, blankB (s[j].toNat : Int) = true) ∧ Rd r s k wr ∧ Keep r w wr) (fun wr => s.size - posOf r wr)
  case atStart => exact ⟨t, Nat.le_refl _, ht, fun j a b => by omega, HR.out.set t, (Keep.refl _ _).setCell _ _⟩
  case round =>
    obtain ⟨k, hk1, hk2, hall, hrd, hkp⟩ := hrel
    have HA := hide hall
    have HR2 := hide hrd
    have HK := hide hkp
    clear hall hkp
    obtain ⟨_, d0, d1, g1⟩ := hrd
    by_cases hk : k < s.size
    · have hnp := HN.out k hk
      go_wp2_with fail
      go_quiet (fail)
      go_wp2_with fail
      obtain ⟨w2, hw2⟩ : ∃ w2, w2 = wr.drewN nq := ⟨_, rfl⟩
      rw [← hw2]
      have HR3 : Hid (Rd r s k w2) := by rw [hw2]; exact HR2.out.drewN _
      have HK3 : Hid (Keep r w w2) := by rw [hw2]; exact HK.out.drewN _
      clear hw2 d0 d1 g1
      obtain ⟨_, d0, d1, g1⟩ := HR3.out
      go_quiet (fail)
      cases h1 : ((s[k].toNat : Int) == 32)
      · cases h2 : ((s[k].toNat : Int) == 9)
        · cases h3 : ((s[k].toNat : Int) == 10)
          · go_wp2_with fail
            have e := ps_of s t k hk1 hk2 HA.out (fun _ => by simp [blankB, h1, h2, h3])
            refine bodyPost_ret (results_none rfl _ _ _) rfl ?_
            rw [e]
            exact ⟨rfl, HR3.out.drewN _, HK3.out.drewN _⟩
          · go_wp2_with fail
            exact round_end hk1 hk HA.out (by simp [blankB, h3]) HR2.out HR3.out HK3.out
        · go_wp2_with fail
          exact round_end hk1 hk HA.out (by simp [blankB, h2]) HR2.out HR3.out HK3.out
      · go_wp2_with fail
        exact round_end hk1 hk HA.out (by simp [blankB, h1]) HR2.out HR3.out HK3.out
    · go_wp2_with fail
      go_quiet (fail)
      go_wp2_with fail
      have e := ps_of s t k hk1 hk2 HA.out (fun h => absurd h hk)
      go_end0
      rw [e]
      exact ⟨rfl, HR2.out.drewN _, HK.out.drewN _⟩
end Go.Proofs.YtldpocajdpcaiaaDoor
