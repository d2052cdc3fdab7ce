import Derived.Test.YtfiipfcdddaceaaGreatDoorQ9V
namespace Go.Proofs.YtfiipfcdddaceaaGreatDoor
open Go.RowKit

theorem own_mono {w : World} {base base' : Nat} {e : TypeId} {size : Nat} {v : Value} {n : Nat} {xs : List Value} (h : w.ownsRow base' e size v n xs) (hb : base ≤ base') : w.ownsRow base e size v n xs := by
  obtain ⟨hl, h | ⟨g, cap, cur, hv, hg, hc⟩⟩ := h
  · exact ⟨hl, .inl h⟩
  · exact ⟨hl, .inr ⟨g, cap, cur, hv, Nat.le_trans hb hg, hc⟩⟩
theorem own_set {w : World} {base : Nat} {e : TypeId} {size : Nat} {v : Value} {n : Nat} {xs : List Value} (h : w.ownsRow base e size v n xs) {p : Addr} (hp : p.block < base) (u : Value) : (w.setCell p u).ownsRow base e size v n xs :=
  own_of_blocks h fun g h1 _ => Below.heap_setCell w p u g (by omega)

/-- What stands behind an atom's name at j: n terms t, the text going on at j'. -/
def TermsAt (s : ByteArray) (j j' n : Nat) (t : Nat → Tm) : Prop :=
  ∀ r w, Ok r s j w → Calls Tryz.prog 149 #[.pointer (some ⟨r, 0, none⟩)] w fun e w' => ∃ v, e = .returned v ∧ (n = 0 → v = .slice none 0 0) ∧ w'.ownsRow w.heap.size 60 3 v n (tcells t n) ∧ Ok r s j' w' ∧ Keep r w w'

theorem termsAt_none (s : ByteArray) (j : Nat) (t : Nat → Tm) (hm : mk (s.data.toList.drop j) ≠ 9) : TermsAt s j j 0 t := by
  intro r w h
  refine (terms_none r s j w h hm).mono ?_
  rintro e w' ⟨rfl, n, rfl⟩
  exact ⟨_, rfl, fun _ => rfl, ⟨rfl, .inl ⟨rfl, rfl⟩⟩, h.drewN n, (Keep.refl _ _).drewN n⟩
theorem termsAt_some (s : ByteArray) (j n : Nat) (t : Nat → Tm) (p : Nat → Nat) (hn : n < 8) (hm : mk (s.data.toList.drop j) = 9)
    (h0 : ∃ e, tmAt s (ps s (j + 1)) = some (t 0, e) ∧ ps s e = p 0)
    (hstep : ∀ k, k < n → mk (s.data.toList.drop (p k)) = 11 ∧ ∃ e, tmAt s (ps s (p k + 1)) = some (t (k + 1), e) ∧ ps s e = p (k + 1))
    (hend : mk (s.data.toList.drop (p n)) = 10) : TermsAt s j (ps s (p n + 1)) (n + 1) t :=
  fun r w h => (terms_some r s j n t p w h hn hm h0 hstep hend).mono fun _ _ ⟨v, h1, h2, h3, h4⟩ => ⟨v, h1, fun h => by omega, h2, h3, h4⟩

set_option maxHeartbeats 2000000 in
theorem atom_ok (r : Nat) (s : ByteArray) (i j' n : Nat) (t : Nat → Tm) (w : World) (h : Ok r s i w) (hi : i < s.size) (hl : smallB (s[i].toNat : Int) = true)
    (ht : TermsAt s (ps s (i + wl (s.data.toList.drop i))) j' n t) :
    Calls Tryz.prog 130 #[.pointer (some ⟨r, 0, none⟩)] w fun e w' => ∃ v, e = .returned (.agg #[.string (s.extract i (i + wl (s.data.toList.drop i))), v]) ∧ w'.ownsRow w.heap.size 60 3 v n (tcells t n) ∧ Ok r s j' w' ∧ Keep r w w' := by
  have hle := wl_le s i (by omega)
  have HC := hide (fun w => nameAt_some s i w h.size hi hl)
  have hz : (s.extract i (i + wl (s.data.toList.drop i))).size = wl (s.data.toList.drop i) := by simp; omega
  generalize s.extract i (i + wl (s.data.toList.drop i)) = nm at *
  generalize wl (s.data.toList.drop i) = q at *
  have HZ := hide hz
  clear hz hl
  have HO := hide h
  obtain ⟨hs, _, _, hp, ⟨hlt, c0, c1, f1⟩, _⟩ := h
  unfold maxLen at hs
  have hq : (i : Int) + (nm.size : Int) ≤ s.size := by rw [HZ.out]; omega
  go_enter Tryz.func130, Tryz.ntmps130
  go_wp2_with fail
  go_quiet ((go_at_call 123; exact Calls.quiet_of_same (HC.out _)))
  go_wp2_with fail
  refine (pass_at r s i (i + q) _ _ hle ?_ ?_).mono ?_
  · rw [HZ.out]; omega
  · exact (HO.out.below ((Below.refl _ _).alloc (Nat.le_refl _) _)).drewN _
  rintro x w2 ⟨rfl, h1, h2⟩
  have hne : w.heap.size ≠ r := by omega
  have hz2 := h2.size
  simp at hz2
  have g0 : ∀ o, w2.cell? ⟨w.heap.size, o, none⟩ = (w.alloc (.cells #[.string ⟨#[]⟩, .slice none 0 0] 47)).cell? ⟨w.heap.size, o, none⟩ := fun o => h2.cell hne (by simp)
  have g1 : ∀ o, w2.frozen? ⟨w.heap.size, o, none⟩ = (w.alloc (.cells #[.string ⟨#[]⟩, .slice none 0 0] 47)).frozen? ⟨w.heap.size, o, none⟩ := fun o => h2.frozen hne (by simp)
  have K2 : Hid (Keep r w w2) := (((Keep.refl r w).alloc (by omega) _).drewN _).trans h2
  clear h2
  go_wp2_with fail
  refine (ht r _ h1).mono ?_
  rintro x w3 ⟨v, rfl, _, hown, h3, h4⟩
  have k0 : ∀ o, w3.cell? ⟨w.heap.size, o, none⟩ = w2.cell? ⟨w.heap.size, o, none⟩ := fun o => h4.cell hne (by omega)
  have k1 : ∀ o, w3.frozen? ⟨w.heap.size, o, none⟩ = w2.frozen? ⟨w.heap.size, o, none⟩ := fun o => h4.frozen hne (by omega)
  have hex : ∃ a m c, v = .slice a m c := by
    obtain ⟨_, ⟨hv, _⟩ | ⟨g, cap, cur, hv, _⟩⟩ := hown
    · exact ⟨_, _, _, hv⟩
    · exact ⟨_, _, _, hv⟩
  obtain ⟨a, m, c, hv⟩ := hex
  subst hv
  have HN := hide hown
  have H3 := hide h3
  have H4 := hide h4
  clear hown h3 h4 h1
  go_wp2_with fail
  have hn0 : w.heap.size ≠ 1 := by omega
  refine bodyPost_ret (v := .agg #[.string nm, .slice a m c]) (by simp [results, Tryz.results130, go_sem, k0, g0]) rfl ⟨_, rfl, ?_, ?_, ?_⟩
  · exact own_mono (own_set (own_set HN.out (by show w.heap.size < _; omega) _) (by show w.heap.size < _; omega) _) (by omega)
  · exact (H3.out.set hne hn0 _).set hne hn0 _
  · exact ((K2.out.trans H4.out).setNew (by simp) (by omega) _).setNew (by simp) (by omega) _
end Go.Proofs.YtfiipfcdddaceaaGreatDoor
