import Derived.Test.YtfiipfcdddaceaaGreatDoorOs
namespace Go.Proofs.YtfiipfcdddaceaaGreatDoor
open Go.RowKit

theorem own_of_blocks {w w' : World} {base : Nat} {e : TypeId} {size : Nat} {v : Value} {n : Nat} {xs : List Value} (h : w.ownsRow base e size v n xs)
    (hb : ∀ g, base ≤ g → g < w.heap.size → w'.heap[g]? = w.heap[g]?) : w'.ownsRow base e size v n xs := by
  obtain ⟨hl, h | ⟨g, cap, cur, hv, hg, hc, hr⟩⟩ := h
  · exact ⟨hl, .inl h⟩
  · have hlt : g < w.heap.size := by
      rcases Nat.lt_or_ge g w.heap.size with h' | h'
      · exact h'
      · simp [Array.getElem?_eq_none h'] at hc
    exact ⟨hl, .inr ⟨g, cap, cur, hv, hg, (hb g hg hlt).trans hc, hr⟩⟩

theorem own_below {w w' : World} {base : Nat} {e : TypeId} {size : Nat} {v : Value} {n : Nat} {xs : List Value} (h : w.ownsRow base e size v n xs) (k : Below w.heap.size w w') : w'.ownsRow base e size v n xs :=
  own_of_blocks h fun g _ h2 => k.block g h2

def Tm.cells (t : Tm) : List Value := [.int .i64 t.kind, .int .i64 t.num, .string t.text]

def tcells (t : Nat → Tm) (n : Nat) : List Value := (List.range n).flatMap fun j => (t j).cells

theorem tcells_succ (t : Nat → Tm) (n : Nat) : tcells t (n + 1) = tcells t n ++ (t n).cells := by
  simp [tcells, List.range_succ, List.flatMap_append]

theorem tcells_len (t : Nat → Tm) (n : Nat) : (tcells t n).length = n * 3 := by
  induction n with
  | zero => rfl
  | succ n ih => rw [tcells_succ, List.length_append, ih]; simp [Tm.cells]; omega

theorem own_shape {w : World} {base : Nat} {e : TypeId} {size : Nat} {v : Value} {n : Nat} {xs : List Value} (h : w.ownsRow base e size v (n + 1) xs) : ∃ g cap, v = .slice (some ⟨g, 0, none⟩) (n + 1) cap := by
  obtain ⟨_, h | ⟨g, cap, cur, hv, _⟩⟩ := h
  · omega
  · exact ⟨g, cap, hv⟩

theorem own_lt {w : World} {base : Nat} {e : TypeId} {size : Nat} {v : Value} {n : Nat} {xs : List Value} (h : w.ownsRow base e size v n xs) : ∀ k, v.ownBlock = some k → base ≤ k := by
  intro k hk
  obtain ⟨_, ⟨h, _⟩ | ⟨g, cap, cur, hv, hg, _⟩⟩ := h
  · subst h; cases hk
  · subst hv; simp [Value.ownBlock] at hk; omega

theorem alloc_new (w : World) (o : Obj) : (w.alloc o).heap[w.heap.size]? = some o := by
  show (w.heap.push o)[w.heap.size]? = some o
  simp

theorem own_new {w : World} {base : Nat} {e : TypeId} {cs : List Value} (size : Nat) (hb : base ≤ w.heap.size) (hl : cs.length = size) : (w.alloc (.cells cs.toArray e)).ownsRow base e size (.slice (some ⟨w.heap.size, 0, none⟩) 1 1) 1 cs :=
  ⟨by omega, .inr ⟨w.heap.size, 1, cs.toArray, rfl, hb, alloc_new w _, by omega, by unfold maxLen; omega, by simp [hl], by simp [← hl]⟩⟩

theorem own_mono {w : World} {base base' : Nat} {e : TypeId} {size : Nat} {v : Value} {n : Nat} {xs : List Value} (h : w.ownsRow base' e size v n xs) (hb : base ≤ base') : w.ownsRow base e size v n xs := by
  obtain ⟨hl, h | ⟨g, cap, cur, hv, hg, hc⟩⟩ := h
  · exact ⟨hl, .inl h⟩
  · exact ⟨hl, .inr ⟨g, cap, cur, hv, Nat.le_trans hb hg, hc⟩⟩

theorem own_set {w : World} {base : Nat} {e : TypeId} {size : Nat} {v : Value} {n : Nat} {xs : List Value} (h : w.ownsRow base e size v n xs) {p : Addr} (hp : p.block < base) (u : Value) : (w.setCell p u).ownsRow base e size v n xs :=
  own_of_blocks h fun g h1 _ => Below.heap_setCell w p u g (by omega)

theorem own_slice {w : World} {base : Nat} {e : TypeId} {size : Nat} {v : Value} {n : Nat} {xs : List Value} (h : w.ownsRow base e size v n xs) : ∃ a c, v = .slice a n c := by
  obtain ⟨_, ⟨hv, h0⟩ | ⟨g, cap, cur, hv, _⟩⟩ := h
  · subst h0; exact ⟨_, _, hv⟩
  · exact ⟨_, _, hv⟩

theorem own_cell {w : World} {base : Nat} {e : TypeId} {size g n cap : Nat} {xs : List Value} (h : w.ownsRow base e size (.slice (some ⟨g, 0, none⟩) n cap) n xs) (k : Nat) {u : Value} (hu : xs[k]? = some u) : w.cell? ⟨g, k, none⟩ = some u := by
  obtain ⟨hl, ⟨hv, _⟩ | ⟨g', cap', cur, hv, _, hc, _, _, _, hx⟩⟩ := h
  · cases hv
  · cases hv
    rw [Lib.cell_of_heap hc]
    rw [← hx, List.getElem?_take] at hu
    split at hu
    · simpa using hu
    · cases hu

theorem tcells_at (t : Nat → Tm) (n j : Nat) (hj : j < n) : (tcells t n)[3 * j]? = some (.int .i64 (t j).kind) ∧ (tcells t n)[3 * j + 1]? = some (.int .i64 (t j).num) ∧ (tcells t n)[3 * j + 2]? = some (.string (t j).text) := by
  induction n with
  | zero => omega
  | succ n ih =>
    have hl := tcells_len t n
    rw [tcells_succ]
    by_cases h : j < n
    · rw [List.getElem?_append_left (by omega), List.getElem?_append_left (by omega), List.getElem?_append_left (by omega)]
      exact ih h
    · obtain rfl : j = n := by omega
      rw [List.getElem?_append_right (by omega), List.getElem?_append_right (by omega), List.getElem?_append_right (by omega), hl, show 3 * j - j * 3 = 0 from by omega, show 3 * j + 1 - j * 3 = 1 from by omega, show 3 * j + 2 - j * 3 = 2 from by omega]
      exact ⟨rfl, rfl, rfl⟩

theorem cell_other (w : World) (b o : Nat) (p : Addr) (u : Value) (h : p.block ≠ b) : (w.setCell p u).cell? ⟨b, o, none⟩ = w.cell? ⟨b, o, none⟩ :=
  World.cell?_of_block (w := w) (Below.heap_setCell w p u b (Ne.symm h))

theorem frozen_other (w : World) (b o : Nat) (p : Addr) (u : Value) (h : p.block ≠ b) : (w.setCell p u).frozen? ⟨b, o, none⟩ = w.frozen? ⟨b, o, none⟩ :=
  World.frozen?_of_block (w := w) (Below.heap_setCell w p u b (Ne.symm h))

theorem cell_alloc_old (w : World) (o : Obj) (b k : Nat) (h : b < w.heap.size) : (w.alloc o).cell? ⟨b, k, none⟩ = w.cell? ⟨b, k, none⟩ :=
  World.cell?_of_block (w := w) (Below.heap_alloc w o b h)

theorem cells3 (w : World) (o1 o2 o3 : Obj) (k : Nat) : (((w.alloc o1).alloc o2).alloc o3).cell? ⟨w.heap.size, k, none⟩ = (w.alloc o1).cell? ⟨w.heap.size, k, none⟩ := by
  rw [cell_alloc_old _ _ _ _ (by simp; omega), cell_alloc_old _ _ _ _ (by simp)]

theorem below3 (w : World) (o1 o2 o3 : Obj) : Below w.heap.size w (((w.alloc o1).alloc o2).alloc o3) :=
  (((Below.refl _ _).alloc (Nat.le_refl _) o1).alloc (by simp) o2).alloc (by simp; omega) o3
end Go.Proofs.YtfiipfcdddaceaaGreatDoor
