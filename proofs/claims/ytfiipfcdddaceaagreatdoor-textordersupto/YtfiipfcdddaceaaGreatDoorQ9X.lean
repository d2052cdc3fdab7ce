import Derived.Test.YtfiipfcdddaceaaGreatDoorQ9W
namespace Go.Proofs.YtfiipfcdddaceaaGreatDoor
open Go.RowKit

/-- A literal stands at i, and the text goes on at j; its ten cells are as P says. -/
def LitAt (s : ByteArray) (i j : Nat) (P : List Value → Prop) : Prop :=
  ∀ r w, Ok r s i w → Calls Tryz.prog 128 #[.pointer (some ⟨r, 0, none⟩)] w fun e w' => ∃ cs, e = .returned (.agg cs.toArray) ∧ cs.length = 10 ∧ (∀ u ∈ cs, u.oneCell' = true) ∧ P cs ∧ Ok r s j w' ∧ Keep r w w'

set_option maxHeartbeats 2000000 in
theorem lit_not (s : ByteArray) (i j' n : Nat) (t : Nat → Tm) (hm : mk (s.data.toList.drop i) = 8) (hi : ps s (i + 1) < s.size) (hl : smallB (s[ps s (i + 1)].toNat : Int) = true)
    (ht : TermsAt s (ps s (ps s (i + 1) + wl (s.data.toList.drop (ps s (i + 1))))) j' n t) : LitAt s i j' (fun _ => True) := by
  intro r w h
  have hrw := h.rd.lt
  have hp := h.pos
  have HC := hide (fun w h => takes_yes r s i 8 w h hm (by omega))
  have HA := hide (fun w h => atom_ok r s (ps s (i + 1)) j' n t w h hi hl ht)
  generalize s.extract (ps s (i + 1)) (ps s (i + 1) + wl (s.data.toList.drop (ps s (i + 1)))) = nm at *
  clear ht hm
  go_enter Tryz.func128, Tryz.ntmps128
  go_wp2_with fail
  refine (HC.out _ (h.below ((Below.refl _ _).alloc (Nat.le_refl _) _))).mono ?_
  rintro x w1 ⟨rfl, h1, h2⟩
  have hne : w.heap.size ≠ r := by omega
  have hz1 := h2.size
  simp at hz1
  have g0 := fun o => h2.cell (b := w.heap.size) (o := o) hne (by simp)
  have g1 := fun o => h2.frozen (b := w.heap.size) (o := o) hne (by simp)
  have K1 : Hid (Keep r w w1) := ((Keep.refl r w).alloc (by omega) _).trans h2
  clear h2
  go_wp2_with fail
  refine (HA.out _ h1).mono ?_
  rintro x w2 ⟨v, rfl, hown, h3, h4⟩
  have k0 := fun o => h4.cell (b := w.heap.size) (o := o) hne (by omega)
  have k1 := fun o => h4.frozen (b := w.heap.size) (o := o) hne (by omega)
  have hex : ∃ a m c, v = .slice a m c := by
    obtain ⟨_, ⟨hv, _⟩ | ⟨g, cap, cur, hv, _⟩⟩ := hown
    · exact ⟨_, _, _, hv⟩
    · exact ⟨_, _, _, hv⟩
  obtain ⟨a, m, c, hv⟩ := hex
  subst hv
  have H3 := hide h3
  have H4 := hide h4
  clear hown h3 h4 h1
  go_wp2_with fail
  have hn0 : w.heap.size ≠ 1 := by omega
  refine bodyPost_ret (v := .agg #[.bool true, .string ⟨#[]⟩, .string nm, .slice a m c, .int .i64 0, .int .i64 0, .string ⟨#[]⟩, .int .i64 0, .int .i64 0, .string ⟨#[]⟩]) (by simp [results, Tryz.results128, go_sem, k0, g0]) rfl ⟨[.bool true, .string ⟨#[]⟩, .string nm, .slice a m c, .int .i64 0, .int .i64 0, .string ⟨#[]⟩, .int .i64 0, .int .i64 0, .string ⟨#[]⟩], rfl, rfl, ?_, trivial, ?_, ?_⟩
  · intro u hu
    simp at hu
    rcases hu with rfl | rfl | rfl | rfl | rfl | rfl | rfl | rfl | rfl | rfl <;> rfl
  · repeat (refine Ok.set ?_ hne hn0 _)
    exact H3.out
  · repeat (refine Keep.setNew ?_ (Nat.le_refl _) (by omega) _)
    exact K1.out.trans H4.out
end Go.Proofs.YtfiipfcdddaceaaGreatDoor
