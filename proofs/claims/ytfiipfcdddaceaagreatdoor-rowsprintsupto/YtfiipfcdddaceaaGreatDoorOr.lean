import Derived.Test.YtfiipfcdddaceaaGreatDoorTm
import Derived.Lib.Small
import Derived.Deep.DeepCutAuto
import Derived.Deep.RegionWith
import Derived.Deep.RegionHeld3
import Derived.Deep.AppendLies
import Derived.Deep.Slices
import Derived.Deep.LoopGhost
import Derived.Shelf.SlSortCmp.KitK
namespace Go.Proofs.YtfiipfcdddaceaaGreatDoor
open Go.RowKit

/-- Two texts, byte by byte. -/
def cmpS (a b : ByteArray) : Int := if Op.bytesLess a.toList b.toList then -1 else if a.toList == b.toList then 0 else 1
/-- Two terms. -/
def cmpT (a b : Tm) : Int := if a.kind = b.kind then (if a.kind = 1 then Lib.compareInt a.num b.num else cmpS a.text b.text) else Lib.compareInt a.kind b.kind
/-- The first one that is not 0. -/
def firstN (l : List Int) : Int := (l.find? fun x => x != 0).getD 0
def cmpTs (ta tb : Nat → Tm) (n : Nat) : Int := firstN ((List.range n).map fun j => cmpT (ta j) (tb j))
/-- Two atoms. -/
def cmpA (na nb : ByteArray) (n m : Nat) (ta tb : Nat → Tm) : Int :=
  if cmpS na nb = 0 then (if Lib.compareInt n m = 0 then cmpTs ta tb n else Lib.compareInt n m) else cmpS na nb

set_option maxHeartbeats 1000000 in
theorem cmpI_any (a b : Int) (w : World) : Calls Tryz.prog 68 #[.int .i64 a, .int .i64 b] w fun e w' => e = .returned (.int .i64 (Lib.compareInt a b)) ∧ w' = w := by
  by_cases h1 : a < b
  · have e : Lib.compareInt a b = -1 := by simp [Lib.compareInt, h1]
    rw [e]
    go_enter Tryz.func68, Tryz.ntmps68
    go_wp2
    go_ret
    exact ⟨rfl, rfl⟩
  · by_cases h2 : b < a
    · have e : Lib.compareInt a b = 1 := by simp [Lib.compareInt, h1, h2]
      rw [e]
      go_enter Tryz.func68, Tryz.ntmps68
      go_wp2
      go_ret
      exact ⟨rfl, rfl⟩
    · have e : Lib.compareInt a b = 0 := by simp [Lib.compareInt, h1, h2]
      rw [e]
      go_enter Tryz.func68, Tryz.ntmps68
      go_wp2
      go_ret
      exact ⟨rfl, rfl⟩

set_option maxHeartbeats 1000000 in
theorem cmpS_any (a b : ByteArray) (w : World) : Calls Tryz.prog 67 #[.string a, .string b] w fun e w' => e = .returned (.int .i64 (cmpS a b)) ∧ w' = w := by
  cases h1 : Op.bytesLess a.toList b.toList
  · cases h2 : (a.toList == b.toList)
    · have e : cmpS a b = 1 := by simp [cmpS, h1]; simpa using h2
      rw [e]
      go_enter Tryz.func67, Tryz.ntmps67
      go_wp2
      go_ret
      exact ⟨rfl, rfl⟩
    · have e : cmpS a b = 0 := by simp [cmpS, h1]; simpa using h2
      rw [e]
      go_enter Tryz.func67, Tryz.ntmps67
      go_wp2
      go_ret
      exact ⟨rfl, rfl⟩
  · have e : cmpS a b = -1 := by simp [cmpS, h1]
    rw [e]
    go_enter Tryz.func67, Tryz.ntmps67
    go_wp2
    go_ret
    exact ⟨rfl, rfl⟩

/-- Draws, and blocks laid behind what was there: nothing else. -/
def Gr (w w' : World) : Prop := ∃ q os, w' = Sort.grow (w.drewN q) os
theorem Gr.refl (w : World) : Gr w w := ⟨0, #[], by rw [Sort.grow_empty]; rfl⟩
theorem Gr.alloc {a w : World} (h : Gr a w) (o : Obj) : Gr a (w.alloc o) := by
  obtain ⟨q, os, rfl⟩ := h
  exact ⟨q, os.push o, by simp [Sort.grow, World.alloc, World.drewN]⟩
theorem Gr.drew {a w : World} (h : Gr a w) : Gr a w.drew := by
  obtain ⟨q, os, rfl⟩ := h
  exact ⟨q + 1, os, by simp [Sort.grow, World.drew, World.drewN, Nat.add_assoc]⟩
theorem Gr.trans {a b c : World} (h : Gr a b) (k : Gr b c) : Gr a c := by
  obtain ⟨q, os, rfl⟩ := h
  obtain ⟨q', os', rfl⟩ := k
  exact ⟨q + q', os ++ os', by simp [Sort.grow, World.drewN, Nat.add_assoc]⟩
theorem Gr.below {a b : World} (h : Gr a b) : Below a.heap.size a b := by
  obtain ⟨q, os, rfl⟩ := h
  refine ⟨rfl, rfl, rfl, by simp [Sort.grow, World.drewN], fun k hk => ?_⟩
  show (a.heap ++ os)[k]? = _
  rw [Array.getElem?_append, if_pos hk]
theorem two_gr (w : World) (o1 o2 : Obj) : Gr w ((w.alloc o1).alloc o2) := ((Gr.refl w).alloc o1).alloc o2
theorem two_alloc (w : World) (o1 o2 : Obj) : Below w.heap.size w ((w.alloc o1).alloc o2) := ((Below.refl _ _).alloc (Nat.le_refl _) o1).alloc (by simp) o2

set_option maxHeartbeats 1000000 in
theorem cmpT_any (a b : Tm) (w : World) : Calls Tryz.prog 69 #[a.val, b.val] w fun e w' => e = .returned (.int .i64 (cmpT a b)) ∧ Gr w w' := by
  obtain ⟨k1, n1, x1⟩ := a
  obtain ⟨k2, n2, x2⟩ := b
  have HI := hide (fun x y w => cmpI_any x y w)
  have HS := hide (fun x y w => cmpS_any x y w)
  simp only [Tm.val] at *
  cases hk : (k1 != k2)
  · cases h1 : (k1 == 1)
    · have e : cmpT ⟨k1, n1, x1⟩ ⟨k2, n2, x2⟩ = cmpS x1 x2 := by
        have a : k1 = k2 := by simpa using hk
        have b : ¬ k1 = 1 := by simpa using h1
        subst a
        simp [cmpT, b]
      rw [e]
      go_enter Tryz.func69, Tryz.ntmps69
      go_wp2_with fail
      refine (HS.out _ _ _).mono ?_
      rintro x w1 ⟨rfl, rfl⟩
      go_wp2_with fail
      go_ret
      exact ⟨rfl, two_gr _ _ _⟩
    · have e : cmpT ⟨k1, n1, x1⟩ ⟨k2, n2, x2⟩ = Lib.compareInt n1 n2 := by
        have a : k1 = k2 := by simpa using hk
        have b : k1 = 1 := by simpa using h1
        subst a
        simp [cmpT, b]
      rw [e]
      go_enter Tryz.func69, Tryz.ntmps69
      go_wp2_with fail
      refine (HI.out _ _ _).mono ?_
      rintro x w1 ⟨rfl, rfl⟩
      go_wp2_with fail
      go_ret
      exact ⟨rfl, two_gr _ _ _⟩
  · have e : cmpT ⟨k1, n1, x1⟩ ⟨k2, n2, x2⟩ = Lib.compareInt k1 k2 := by
      have a : ¬ k1 = k2 := by simpa using hk
      simp [cmpT, a]
    rw [e]
    go_enter Tryz.func69, Tryz.ntmps69
    go_wp2_with fail
    refine (HI.out _ _ _).mono ?_
    rintro x w1 ⟨rfl, rfl⟩
    go_wp2_with fail
    go_ret
    exact ⟨rfl, two_gr _ _ _⟩

theorem firstN_zero (l : List Int) (h : ∀ x ∈ l, x = 0) : firstN l = 0 := by
  unfold firstN
  have : l.find? (fun x => x != 0) = none := by
    rw [List.find?_eq_none]
    intro x hx
    simp [h x hx]
  rw [this]; rfl
theorem firstN_at (l : List Int) (k : Nat) (h : k < l.length) (h0 : ∀ j (hj : j < k), l[j] = 0) (h1 : l[k] ≠ 0) : firstN l = l[k] := by
  unfold firstN
  have : l.find? (fun x => x != 0) = some l[k] := by
    rw [List.find?_eq_some_iff_getElem]
    refine ⟨by simpa using h1, k, h, rfl, fun j hj => by simp [h0 j hj]⟩
  rw [this]; rfl

/-- n terms lie in the block g. -/
def Terms (w : World) (g n : Nat) (t : Nat → Tm) : Prop :=
  ∀ j, j < n → w.cell? ⟨g, 3 * j, none⟩ = some (.int .i64 (t j).kind) ∧ w.cell? ⟨g, 3 * j + 1, none⟩ = some (.int .i64 (t j).num) ∧ w.cell? ⟨g, 3 * j + 2, none⟩ = some (.string (t j).text)

/-- A slice of n terms. -/
def IsTerms (w : World) (v : Value) (n : Nat) (t : Nat → Tm) : Prop :=
  n ≤ 1099511627776 ∧ ((∃ a c, v = .slice a 0 c ∧ n = 0) ∨ ∃ g c, v = .slice (some ⟨g, 0, none⟩) n c ∧ g < w.heap.size ∧ n ≤ c ∧ Terms w g n t)

theorem IsTerms.below {w w' : World} {v : Value} {n : Nat} {t : Nat → Tm} (h : IsTerms w v n t) (hb : Below w.heap.size w w') : IsTerms w' v n t := by
  obtain ⟨hn, h | ⟨g, c, hv, hg, hc, ht⟩⟩ := h
  · exact ⟨hn, .inl h⟩
  · refine ⟨hn, .inr ⟨g, c, hv, Nat.lt_of_lt_of_le hg hb.size, hc, fun j hj => ?_⟩⟩
    obtain ⟨a, b, c⟩ := ht j hj
    exact ⟨(hb.cell (p := ⟨g, _, none⟩) hg).trans a, (hb.cell (p := ⟨g, _, none⟩) hg).trans b, (hb.cell (p := ⟨g, _, none⟩) hg).trans c⟩
theorem IsTerms.shape {w : World} {v : Value} {n : Nat} {t : Nat → Tm} (h : IsTerms w v n t) : ∃ a c, v = .slice a n c := by
  obtain ⟨_, ⟨a, c, hv, h0⟩ | ⟨g, c, hv, _⟩⟩ := h
  · subst h0; exact ⟨a, c, hv⟩
  · exact ⟨_, _, hv⟩
end Go.Proofs.YtfiipfcdddaceaaGreatDoor
