import Derived.Test.YtfiipfcdddaceaaGreatDoorQ9Ba
import Derived.Test.YtfiipfcdddaceaaGreatDoorQ9Z
namespace Go.Proofs.YtfiipfcdddaceaaGreatDoor
open Go.RowKit

/-- A clause with a body stands at i; the text goes on at j. -/
def ClauseAt (s : ByteArray) (i j n m : Nat) (nm : ByteArray) (t : Nat → Tm) (P : List Value → Prop) : Prop :=
  ∀ r w, Ok r s i w → Calls Tryz.prog 96 #[.pointer (some ⟨r, 0, none⟩)] w fun e w' => ∃ v vb cs xs, e = .returned (.agg #[.string nm, v, vb]) ∧ w'.ownsRow w.heap.size 60 3 v n (tcells t n) ∧ P cs ∧ cs.length = 10 ∧ w'.ownsRow w.heap.size 62 10 vb (m + 1) (cs ++ xs) ∧ Ok r s j w' ∧ Keep r w w'

set_option maxHeartbeats 4000000 in
theorem clause_ok (s : ByteArray) (i j1 j n m : Nat) (t : Nat → Tm) (P : List Value → Prop) (hi : i < s.size) (hl : smallB (s[i].toNat : Int) = true)
    (ht : TermsAt s (ps s (i + wl (s.data.toList.drop i))) j1 n t) (hf : mk (s.data.toList.drop j1) = 0) (hb : BodyAt s (ps s (j1 + 2)) j m P) :
    ClauseAt s i j n m (s.extract i (i + wl (s.data.toList.drop i))) t P := by
  intro r w h
  have hrw := h.rd.lt
  have hp := h.pos
  have HA := hide (fun w h => atom_ok r s i j1 n t w h hi hl ht)
  have HT := hide (fun w h => takes_yes r s j1 0 w h hf (by omega))
  have HB := hide hb
  generalize s.extract i (i + wl (s.data.toList.drop i)) = nm at *
  clear ht hf hb
  go_enter Tryz.func96, Tryz.ntmps96
  go_wp2_with fail
  refine (HA.out _ (h.below ((Below.refl _ _).alloc (Nat.le_refl _) _))).mono ?_
  rintro x w1 ⟨v, rfl, hown1, h1, h2⟩
  obtain ⟨a, c, hv⟩ := own_slice hown1
  subst hv
  have hne : w.heap.size ≠ r := by omega
  have hn0 : w.heap.size ≠ 1 := by omega
  have hz1 := h2.size
  simp at hz1
  have K1 := hide h2
  have O1 := hide hown1
  clear h2 hown1
  go_wp2_with fail
  refine (HT.out _ (h1.below ((Below.refl _ _).alloc (Nat.le_refl _) _))).mono ?_
  rintro x w2 ⟨rfl, h3, h4⟩
  have hne2 : w1.heap.size ≠ r := by omega
  have hn2 : w1.heap.size ≠ 1 := by omega
  have hz2 := h4.size
  simp at hz2
  have K2 := hide ((K1.out.alloc (by omega) _).trans h4)
  have M2 := hide h4
  clear h4 h1
  go_wp2_with fail
  refine (HB.out r _ h3).mono ?_
  rintro x w3 ⟨vb, cs, xs, rfl, hP, hcs, hown3, h5, h6⟩
  obtain ⟨ab, cb, hvb⟩ := own_slice hown3
  subst hvb
  have K3 := hide (K2.out.trans h6)
  have n0 := fun o => K3.out.cell (b := w.heap.size) (o := o) hne (by simp)
  have n1 := fun o => K3.out.frozen (b := w.heap.size) (o := o) hne (by simp)
  have n2 := fun o => (M2.out.trans h6).cell (b := w1.heap.size) (o := o) hne2 (by simp)
  have n3 := fun o => (M2.out.trans h6).frozen (b := w1.heap.size) (o := o) hne2 (by simp)
  have M3 := hide (M2.out.trans h6)
  have O4 := hide hown3
  have H5 := hide h5
  have HP := hide hP
  clear hP hown3 h6 h5 h3
  go_wp2_with fail
  refine bodyPost_ret (v := .agg #[.string nm, .slice a n c, .slice ab (m + 1) cb]) (by simp [results, Tryz.results96, go_sem, n0]) rfl ⟨_, _, cs, xs, rfl, ?_, HP.out, hcs, ?_, ?_, ?_⟩
  · refine own_mono (own_of_blocks (w := w1) O1.out fun g hg1 hg2 => ?_) (by simp)
    simp at hg1
    have e1 : w3.heap[g]? = w1.heap[g]? := (M3.out.block (by omega) (by simp; omega)).trans (Below.heap_alloc w1 _ g hg2)
    rw [← e1]
    have s0 : ∀ (W : World) (o : Nat) (u : Value), (W.setCell ⟨w.heap.size, o, none⟩ u).heap[g]? = W.heap[g]? := fun W o u => Below.heap_setCell W _ u g (by show g ≠ w.heap.size; omega)
    have s1 : ∀ (W : World) (o : Nat) (u : Value), (W.setCell ⟨w1.heap.size, o, none⟩ u).heap[g]? = W.heap[g]? := fun W o u => Below.heap_setCell W _ u g (by show g ≠ w1.heap.size; omega)
    simp only [s0, s1]
  · refine own_mono (base' := w2.heap.size) ?_ (by omega)
    have q0 : w.heap.size < w2.heap.size := by omega
    have q1 : w1.heap.size < w2.heap.size := by omega
    exact own_set (own_set (own_set (own_set O4.out (p := ⟨w1.heap.size, 2, none⟩) q1 _) (p := ⟨w.heap.size, 0, none⟩) q0 _) (p := ⟨w.heap.size, 1, none⟩) q0 _) (p := ⟨w.heap.size, 2, none⟩) q0 _
  · repeat (first | refine Ok.set ?_ hne hn0 _ | refine Ok.set ?_ hne2 hn2 _)
    exact H5.out
  · repeat (first | refine Keep.setNew ?_ (Nat.le_refl _) (by omega) _ | refine Keep.setNew ?_ (by show w.heap.size ≤ w1.heap.size; omega) (by omega) _)
    exact ((Keep.refl r w).alloc (by omega) _).trans K3.out
end Go.Proofs.YtfiipfcdddaceaaGreatDoor
