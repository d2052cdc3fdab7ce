import Derived.Test.YtfiipfcdddaceaaGreatDoorQ9Bu
namespace Go.Proofs.YtfiipfcdddaceaaGreatDoor
open Go.RowKit

theorem byteCells_app (l m : List UInt8) : Lib.byteCells (l ++ m) = Lib.byteCells l ++ Lib.byteCells m := by simp [Lib.byteCells]

set_option maxHeartbeats 2000000 in
set_option maxRecDepth 100000 in
theorem writeByte (B b : Nat) (l : List UInt8) (v : Value) (c : UInt8) (ci : Int) (w : World) (h : Bd B b l v w) (hlen : l.length + 1 ≤ 140737488355328) (_hBw : B ≤ w.heap.size) (hci : ci = (c.toNat : Int)) :
    Calls Tryz.prog 136 #[.pointer (some ⟨b, 0, none⟩), .int .u8 ci] w fun e w' => e = .returned .nilIface ∧ ∃ v', Bd B b (l ++ [c]) v' w' ∧ Fr b v w w' := by
  subst hci
  obtain ⟨i0, hi, hz0, hz1, hz2⟩ := info_parts (P := Tryz.prog) (e := 5) (z := .int .u8 0) (size := 1) (bytes := 1) (by kernel_rfl)
  have hne := h.ne
  have hltb := h.lt
  have hB := h.hB
  have HC := hide (copy_any B b l v w h)
  clear h
  go_enter Tryz.func136, Tryz.ntmps136
  go_wp2_with fail
  refine HC.out.mono ?_
  rintro e w1 ⟨rfl, hbk, hown, hfr⟩
  have hz := hfr.size
  have c1 : w1.cell? ⟨b, 1, none⟩ = some v := by rw [Lib.cell_of_heap hbk]; rfl
  go_wp2_with (at_builtin; refine wpList_append_own _ rfl _ _ 105 rfl B 5 i0 (.int .u8 0) 1 1 Tryz.underlying105 hi hz0 hz1 hz2 rfl (by decide) _ _ _ rfl (hown.alloc _) ⟨w1.heap.size, 0, none⟩ 1 1 [.int .u8 (c.toNat : Int)] rfl rfl ?c1 ?c2 ?c3 ?c4 ?c5 ?_)
  case c1 =>
    intro j u hj
    match j, hj with
    | 0, hj => simp at hj; subst hj; simp [Addr.add]
  case c2 => intro u hu; simp at hu; subst hu; rfl
  case c3 => unfold maxLen; omega
  case c4 => omega
  case c5 => simp; omega
  intro v' w2 hown' hgrow _
  have hb2 : w2.heap[b]? = some (.cells #[.pointer (some ⟨b, 0, none⟩), v] 107 (0, 0)) := by
    rw [hgrow.block b (by simp; omega) (fun e => hne e.symm), Below.heap_alloc w1 _ b (by omega)]
    exact hbk
  have d1 : w2.cell? ⟨b, 1, none⟩ = some v := by rw [Lib.cell_of_heap hb2]; rfl
  have f1 : w2.frozen? ⟨b, 1, none⟩ = false := Lib.frozen_of_heap hb2 1
  obtain ⟨g, cap, rfl⟩ := own_shape hown'
  have HG := hide hgrow
  have HF := hide hfr
  have HN := hide hown'
  have hgb : g ≠ b := by
    intro e
    obtain ⟨_, ⟨hv, _⟩ | ⟨g', cap', cur, hv, hg, hc, _⟩⟩ := hown'
    · cases hv
    · simp at hv
      rw [← hv.1, e, hb2] at hc
      simp at hc
  clear hgrow hfr hown' hown
  go_wp2_with fail
  go_ret
  refine ⟨rfl, .slice (some ⟨g, 0, none⟩) (l.length + 1) cap, ⟨hB, ⟨_, .inr rfl, ?_⟩, ?_⟩, ?_⟩
  · simp [World.setCell, Array.getElem?_modify, hb2]
  · rw [byteCells_app, List.length_append]
    exact own_of_blocks' HN.out fun k hk => Below.heap_setCell w2 _ _ k (fun e => hgb (by simp [Value.ownBlock] at hk; rw [hk, e]))
  · refine ⟨HG.out.os.trans HF.out.os, HG.out.tape.trans HF.out.tape, HG.out.output.trans HF.out.output, ?_, fun k hk h1 h2 => ?_⟩
    · have := HG.out.size; simp at this ⊢; omega
    · rw [Below.heap_setCell w2 _ _ k h1, HG.out.block k (by simp; omega) (fun e => h2 e.symm), Below.heap_alloc w1 _ k (by omega)]
      exact HF.out.block k hk h1 (by simp [Value.ownBlock])

set_option maxHeartbeats 2000000 in
set_option maxRecDepth 100000 in
theorem writeString (B b : Nat) (l : List UInt8) (v : Value) (s : ByteArray) (w : World) (h : Bd B b l v w) (hlen : l.length + s.size ≤ 140737488355328) (_hBw : B ≤ w.heap.size) :
    Calls Tryz.prog 61 #[.pointer (some ⟨b, 0, none⟩), .string s] w fun e w' => e = .returned (.tuple #[.int .i64 s.size, .nilIface]) ∧ ∃ v', Bd B b (l ++ s.data.toList) v' w' ∧ Fr b v w w' := by
  obtain ⟨i0, hi, hz0, hz1, hz2⟩ := info_parts (P := Tryz.prog) (e := 5) (z := .int .u8 0) (size := 1) (bytes := 1) (by kernel_rfl)
  have hne := h.ne
  have hltb := h.lt
  have hB := h.hB
  have HC := hide (copy_any B b l v w h)
  clear h
  go_enter Tryz.func61, Tryz.ntmps61
  go_wp2_with fail
  refine HC.out.mono ?_
  rintro e w1 ⟨rfl, hbk, hown, hfr⟩
  have hz := hfr.size
  have c1 : w1.cell? ⟨b, 1, none⟩ = some v := by rw [Lib.cell_of_heap hbk]; rfl
  go_wp2_with (at_builtin; refine Lib.wpList_append_own_string _ rfl _ _ 105 9 rfl B 5 i0 Tryz.underlying105 Tryz.underlying9 hi hz0 hz1 hz2 _ _ _ rfl hown s rfl ?c3 ?c4 ?c5 ?_)
  case c3 => unfold maxLen; omega
  case c4 => omega
  case c5 => omega
  intro v' w2 hown' hgrow _
  have hb2 : w2.heap[b]? = some (.cells #[.pointer (some ⟨b, 0, none⟩), v] 107 (0, 0)) := by
    rw [hgrow.block b (by omega) (fun e => hne e.symm)]
    exact hbk
  have d1 : w2.cell? ⟨b, 1, none⟩ = some v := by rw [Lib.cell_of_heap hb2]; rfl
  have f1 : w2.frozen? ⟨b, 1, none⟩ = false := Lib.frozen_of_heap hb2 1
  have HG := hide hgrow
  have HF := hide hfr
  have HN := hide hown'
  have hgb : v'.ownBlock ≠ some b := by
    intro e
    obtain ⟨_, ⟨hv, _⟩ | ⟨g', cap', cur, hv, hg, hc, _⟩⟩ := hown'
    · subst hv; cases e
    · subst hv
      simp [Value.ownBlock] at e
      rw [e, hb2] at hc
      simp at hc
  obtain ⟨ao, cap, hv⟩ := own_slice hown'
  subst hv
  clear hgrow hfr hown' hown
  go_wp2_with fail
  go_ret2
  refine ⟨rfl, .slice ao (l.length + s.size) cap, ⟨hB, ⟨_, .inr rfl, ?_⟩, ?_⟩, ?_⟩
  · simp [World.setCell, Array.getElem?_modify, hb2]
  · rw [byteCells_app, List.length_append]
    exact own_of_blocks' HN.out fun k hk => Below.heap_setCell w2 _ _ k (fun e => hgb (by rw [hk, e]))
  · refine ⟨HG.out.os.trans HF.out.os, HG.out.tape.trans HF.out.tape, HG.out.output.trans HF.out.output, ?_, fun k hk h1 h2 => ?_⟩
    · have := HG.out.size; simp at this ⊢; omega
    · rw [Below.heap_setCell w2 _ _ k h1, HG.out.block k (by omega) (fun e => h2 e.symm)]
      exact HF.out.block k hk h1 (by simp [Value.ownBlock])
end Go.Proofs.YtfiipfcdddaceaaGreatDoor
