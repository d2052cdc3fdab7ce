import Derived.Test.YtfiipfcdddaceaaDoorX
namespace Go.Proofs.YtfiipfcdddaceaaDoor
open Go.RowKit

theorem takes_not (r : Nat) (s : ByteArray) (i m : Nat) (w : World) (h : Ok r s i w) (hm : mk (s.data.toList.drop i) ≠ m) :
    Calls Tryd.prog 37 #[.pointer (some ⟨r, 0, none⟩), .int .i64 m] w fun e w' => e = .returned (.bool false) ∧ Ok r s i w' ∧ Keep r w w' :=
  (takes_no r s i m w h hm).mono fun _ _ ⟨h1, n, h2⟩ => ⟨h1, by rw [h2]; exact h.drewN n, by rw [h2]; exact (Keep.refl _ _).drewN n⟩
theorem op_not (r : Nat) (s : ByteArray) (i : Nat) (w : World) (h : Ok r s i w) (hm : mk (s.data.toList.drop i) < 2 ∨ 7 < mk (s.data.toList.drop i)) :
    Calls Tryd.prog 56 #[.pointer (some ⟨r, 0, none⟩)] w fun e w' => e = .returned (.tuple #[.string ⟨#[]⟩, .bool false]) ∧ Ok r s i w' ∧ Keep r w w' :=
  (op_no r s i w h hm).mono fun _ _ ⟨h1, n, h2⟩ => ⟨h1, by rw [h2]; exact h.drewN n, by rw [h2]; exact (Keep.refl _ _).drewN n⟩

theorem own_slice {w : World} {base : Nat} {e : TypeId} {size : Nat} {v : Value} {n : Nat} {xs : List Value} (h : w.ownsRow base e size v n xs) : ∃ a c, v = .slice a n c := by
  obtain ⟨_, ⟨hv, h0⟩ | ⟨g, cap, cur, hv, _⟩⟩ := h
  · subst h0; exact ⟨_, _, hv⟩
  · exact ⟨_, _, hv⟩

def litCells (nm : ByteArray) (v : Value) : List Value := [.bool false, .string ⟨#[]⟩, .string nm, v, .int .i64 0, .int .i64 0, .string ⟨#[]⟩, .int .i64 0, .int .i64 0, .string ⟨#[]⟩]

set_option maxHeartbeats 4000000 in
theorem lit_atom (s : ByteArray) (i e j' n : Nat) (nm : ByteArray) (t : Nat → Tm) (hm : mk (s.data.toList.drop i) ≠ 8) (hte : tmAt s i = some (⟨2, 0, nm⟩, e))
    (ho : mk (s.data.toList.drop (ps s e)) < 2 ∨ 7 < mk (s.data.toList.drop (ps s e)))
    (ht : TermsAt s (ps s e) j' n t) : LitAt s i j' (fun cs => n = 0 → cs = litCells nm (.slice none 0 0)) := by
  intro r w h
  have hrw := h.rd.lt
  have hp := h.pos
  have HC := hide (fun w h => takes_not r s i 8 w h hm)
  have HT := hide (fun w h => rterm_ok r s i 0 _ e w h hte (by omega))
  have HOP := hide (fun w h => op_not r s (ps s e) w h ho)
  have HA := hide ht
  clear ht hm hte ho
  go_enter Tryd.func46, Tryd.ntmps46
  go_wp2_with fail
  refine (HC.out _ (h.below ((Below.refl _ _).alloc (Nat.le_refl _) _))).mono ?_
  rintro x w1 ⟨rfl, h1, h2⟩
  have hne : w.heap.size ≠ r := by omega
  have hn0 : w.heap.size ≠ 0 := by omega
  have hz1 := h2.size
  simp at hz1
  have K1 := hide h2
  clear h2
  go_wp2_with fail
  refine (HT.out _ h1).mono ?_
  rintro x w2 ⟨rfl, h3, h4⟩
  have K2 := hide (K1.out.trans h4)
  have hz2 := h4.size
  clear h4 h1
  simp only [Tm.val]
  go_wp2_with fail
  refine (HOP.out _ (h3.below ((Below.refl _ _).alloc (Nat.le_refl _) _))).mono ?_
  rintro x w3 ⟨rfl, h5, h6⟩
  have hne2 : w2.heap.size ≠ r := by omega
  have m2 := fun o => h6.cell (b := w2.heap.size) (o := o) hne2 (by simp)
  have K3 := hide ((K2.out.alloc (by omega) _).trans h6)
  have hz3 := h6.size
  simp at hz3
  clear h6 h3
  have hzz : w.heap.size < w3.heap.size := by omega
  go_wp2_with fail
  go_region_with (go_at_call 57; refine (HA.out r _ ?_).mono ?_; (exact h5.drew); rintro x w4 ⟨v, rfl, hnil, hown, h7, h8⟩; obtain ⟨a, c, hv⟩ := own_slice hown; subst hv; have n0 := (fun o => (K3.out.drew.trans h8).cell (b := w.heap.size) (o := o) hne (by simp)); have n1 := (fun o => (K3.out.drew.trans h8).frozen (b := w.heap.size) (o := o) hne (by simp)); have n2 := (fun o => h8.cell (b := w2.heap.size) (o := o) hne2 (by simp; omega)); have H7 := hide h7; have H8 := hide h8; have HN := hide hnil; clear hown h7 h8 hnil)
  all_goals
    go_wp2_with fail
    refine bodyPost_ret (v := .agg #[.bool false, .string ⟨#[]⟩, .string nm, .slice a n c, .int .i64 0, .int .i64 0, .string ⟨#[]⟩, .int .i64 0, .int .i64 0, .string ⟨#[]⟩]) (by simp [results, Tryd.results46, go_sem, n0]) rfl ⟨litCells nm (.slice a n c), rfl, rfl, ?_, ?_, ?_, ?_⟩
    · intro u hu
      simp [litCells] at hu
      rcases hu with rfl | rfl | rfl | rfl | rfl | rfl | rfl | rfl | rfl | rfl <;> rfl
    · intro h0
      rw [HN.out h0]
    · repeat (refine Ok.set ?_ hne hn0 _)
      exact H7.out
    · repeat (refine Keep.setNew ?_ (Nat.le_refl _) (by omega) _)
      exact ((Keep.refl r w).alloc (by omega) _).trans (K3.out.drew.trans H8.out)
end Go.Proofs.YtfiipfcdddaceaaDoor
