import Derived.Test.YtfiipfcdddaceaaDoorPs
import Derived.Lib.AppendStr
import Derived.Lib.Builder
namespace Go.Proofs.YtfiipfcdddaceaaDoor
open Go.RowKit

/-- A builder in the block b that holds the bytes l, its row being v, from the block B on. -/
structure Bd (B b : Nat) (l : List UInt8) (v : Value) (w : World) : Prop where
  hB : B ≤ b
  blk : ∃ p, (p = .pointer none ∨ p = .pointer (some ⟨b, 0, none⟩)) ∧ w.heap[b]? = some (.cells #[p, v] 63 (0, 0))
  row : w.ownsRow B 5 1 v l.length (Lib.byteCells l)

/-- All that lay in w lies in w' as it was, but for the builder and its row. -/
structure Fr (b : Nat) (v : Value) (w w' : World) : Prop where
  os : w'.os = w.os
  tape : w'.tape = w.tape
  output : w'.output = w.output
  size : w.heap.size ≤ w'.heap.size
  block : ∀ k, k < w.heap.size → k ≠ b → v.ownBlock ≠ some k → w'.heap[k]? = w.heap[k]?

theorem Bd.lt {B b : Nat} {l : List UInt8} {v : Value} {w : World} (h : Bd B b l v w) : b < w.heap.size := by
  obtain ⟨_, ⟨p, _, hb⟩, _⟩ := h
  rcases Nat.lt_or_ge b w.heap.size with h' | h'
  · exact h'
  · simp [Array.getElem?_eq_none h'] at hb

theorem Bd.is {B b : Nat} {l : List UInt8} {v : Value} {w : World} (h : Bd B b l v w) : Lib.IsBuilder 63 5 B b (Lib.byteCells l) w := by
  obtain ⟨hB, ⟨p, hp, hb⟩, hr⟩ := h
  have hne : v.ownBlock ≠ some b := by
    intro e
    obtain ⟨_, ⟨hv, _⟩ | ⟨g, cap, cur, hv, hg, hc, _⟩⟩ := hr
    · subst hv; cases e
    · subst hv
      simp [Value.ownBlock] at e
      subst e
      rw [hb] at hc
      simp at hc
  have hl : (Lib.byteCells l).length = l.length := Lib.byteCells_length l
  rcases hp with rfl | rfl
  · exact .inl ⟨hB, v, hb, by rw [hl]; exact hr, hne⟩
  · exact .inr ⟨hB, v, hb, by rw [hl]; exact hr, hne⟩

theorem Bd.ne {B b : Nat} {l : List UInt8} {v : Value} {w : World} (h : Bd B b l v w) : v.ownBlock ≠ some b := by
  intro e
  obtain ⟨_, ⟨p, _, hb⟩, hr⟩ := h
  obtain ⟨_, ⟨hv, _⟩ | ⟨g, cap, cur, hv, hg, hc, _⟩⟩ := hr
  · subst hv; cases e
  · subst hv
    simp [Value.ownBlock] at e
    subst e
    rw [hb] at hc
    simp at hc

theorem own_of_blocks' {w w' : World} {base : Nat} {e : TypeId} {size : Nat} {v : Value} {n : Nat} {xs : List Value} (h : w.ownsRow base e size v n xs)
    (hb : ∀ g, v.ownBlock = some g → w'.heap[g]? = w.heap[g]?) : w'.ownsRow base e size v n xs := by
  obtain ⟨hl, h | ⟨g, cap, cur, hv, hg, hc, hr⟩⟩ := h
  · exact ⟨hl, .inl h⟩
  · exact ⟨hl, .inr ⟨g, cap, cur, hv, hg, (hb g (by rw [hv]; rfl)).trans hc, hr⟩⟩

theorem Bd.new {w : World} : Bd w.heap.size w.heap.size [] (.slice none 0 0) (w.alloc (.cells #[.pointer none, .slice none 0 0] 63)) :=
  ⟨Nat.le_refl _, ⟨_, .inl rfl, alloc_new w _⟩, ⟨rfl, .inl ⟨rfl, rfl⟩⟩⟩

theorem Fr.below {B b : Nat} {v : Value} {w w' : World} (h : Fr b v w w') (hb : B ≤ b) (hv : ∀ k, v.ownBlock = some k → B ≤ k) (hB : B ≤ w.heap.size) : Below B w w' :=
  ⟨h.os, h.tape, h.output, h.size, fun k hk => h.block k (by omega) (by omega) (fun e => by have := hv k e; omega)⟩

set_option maxHeartbeats 1000000 in
set_option maxRecDepth 100000 in
theorem copy_used (b : Nat) (w : World) (h0 : w.cell? ⟨b, 0, none⟩ = some (.pointer (some ⟨b, 0, none⟩))) :
    Calls Tryd.prog 34 #[.pointer (some ⟨b, 0, none⟩)] w fun e w' => e = .returned (.tuple #[]) ∧ w' = w := by
  obtain ⟨j, hj, _⟩ := Option.map_eq_some_iff.1 (show (Tryd.prog.info? 63).map (·.size) = some 2 by kernel_rfl)
  go_enter Tryd.func34, Tryd.ntmps34
  go_wp2
  rw [Lib.run_neq_ptr_same w _ Tryd.underlying60 hj]
  go_wp2
  go_end0
  exact ⟨rfl, rfl⟩

theorem raw_to (b : Nat) (w : World) {e : TypeId} {cells : Nat} {j : TypeInfo} (hj : Tryd.prog.info? 63 = some j) (hjs : j.size ≠ 0) (hsh : w.shape? b = some (e, cells)) (h0 : 0 < cells) :
    (convert 60 89 (.pointer (some ⟨b, 0, none⟩))).run Tryd.prog w = .ok (.pointer (some ⟨b, 0, none⟩)) w := by
  simp [convert, run_underlying Tryd.underlying60, run_underlying Tryd.underlying89]
  change Sem.run Tryd.prog (underlying 60 >>= _) w = _
  simp [run_underlying Tryd.underlying60, run_underlying Tryd.underlying89, Conv.seenAt, viewAt, cellsIn, hsh, sizeOf, typeInfo, hj, hjs]
  omega

theorem raw_from (b : Nat) (w : World) {e : TypeId} {cells : Nat} {j : TypeInfo} (hj : Tryd.prog.info? 63 = some j) (hsh : w.shape? b = some (e, cells)) (hl : liesAt Tryd.prog Tryd.prog.depth e (cells / Tryd.prog.cellsOf e) 0 63 1 = true) :
    (convert 89 60 (.pointer (some ⟨b, 0, none⟩))).run Tryd.prog w = .ok (.pointer (some ⟨b, 0, none⟩)) w := by
  simp [convert, run_underlying Tryd.underlying60, run_underlying Tryd.underlying89]
  change Sem.run Tryd.prog (underlying 89 >>= _) w = _
  simp [run_underlying Tryd.underlying89, run_underlying Tryd.underlying60, Conv.seenAt, viewAt, hsh, sizeOf, typeInfo, hj, variablesAt, hl]

set_option maxHeartbeats 1000000 in
set_option maxRecDepth 100000 in
theorem copy_fresh (b : Nat) (w : World) (h0 : w.cell? ⟨b, 0, none⟩ = some (.pointer none)) (hsh : w.shape? b = some (63, 2)) (hfz : w.frozen? ⟨b, 0, none⟩ = false) :
    Calls Tryd.prog 34 #[.pointer (some ⟨b, 0, none⟩)] w fun e w' => e = .returned (.tuple #[]) ∧ w' = w.setCell ⟨b, 0, none⟩ (.pointer (some ⟨b, 0, none⟩)) := by
  obtain ⟨j, hj, hjs⟩ := Option.map_eq_some_iff.1 (show (Tryd.prog.info? 63).map (·.size) = some 2 by kernel_rfl)
  go_enter Tryd.func34, Tryd.ntmps34
  go_wp2
  rw [raw_to b w hj (by rw [hjs]; decide) hsh (Nat.zero_lt_succ 1)]
  simp only [Result.andThen]
  rw [Oper.upon_value]
  go_wp2
  rw [run_callFunc_extern Tryd.func42 (by kernel_rfl) (by kernel_rfl) (by kernel_rfl) (e := Extern.AbiNoEscape.same) (by kernel_rfl)]
  rw [Lib.run_noEscape]
  simp only [Result.andThen]
  rw [Oper.upon_value]
  go_wp2
  rw [raw_from b w hj hsh (by kernel_rfl)]
  simp only [Result.andThen]
  rw [Oper.upon_value]
  go_wp2
  go_end0
  exact ⟨rfl, rfl⟩

theorem copy_any (B b : Nat) (l : List UInt8) (v : Value) (w : World) (h : Bd B b l v w) :
    Calls Tryd.prog 34 #[.pointer (some ⟨b, 0, none⟩)] w fun e w' => e = .returned (.tuple #[]) ∧ w'.heap[b]? = some (.cells #[.pointer (some ⟨b, 0, none⟩), v] 63 (0, 0)) ∧ w'.ownsRow B 5 1 v l.length (Lib.byteCells l) ∧ Fr b (.slice none 0 0) w w' := by
  have hne := h.ne
  obtain ⟨hB, ⟨p, hp, hb⟩, hr⟩ := h
  rcases hp with rfl | rfl
  · refine (copy_fresh b w (by rw [Lib.cell_of_heap hb]; rfl) (by simp [World.shape?, hb]) (Lib.frozen_of_heap hb 0)).mono ?_
    rintro e w' ⟨rfl, rfl⟩
    refine ⟨rfl, ?_, ?_, ⟨rfl, rfl, rfl, by simp, fun k _ hk _ => Below.heap_setCell w _ _ k hk⟩⟩
    · simp [World.setCell, Array.getElem?_modify, hb]
    · refine own_of_blocks' hr fun g hg => Below.heap_setCell w _ _ g (fun e => hne (by rw [hg, e]))
  · refine (copy_used b w (by rw [Lib.cell_of_heap hb]; rfl)).mono ?_
    rintro e w' ⟨rfl, rfl⟩
    exact ⟨rfl, hb, hr, ⟨rfl, rfl, rfl, Nat.le_refl _, fun _ _ _ _ => rfl⟩⟩
end Go.Proofs.YtfiipfcdddaceaaDoor
