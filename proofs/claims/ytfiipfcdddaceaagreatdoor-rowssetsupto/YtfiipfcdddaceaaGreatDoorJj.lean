import Derived.Test.YtfiipfcdddaceaaGreatDoorOw
import Derived.Test.YtfiipfcdddaceaaGreatDoorJi
import Derived.Lib.AppendStr
import Derived.Lib.Builder
import Derived.Lib.AppendIntMem
namespace Go.Proofs.YtfiipfcdddaceaaGreatDoor
open Go.RowKit

/-- A builder in the block b that holds the bytes l, its row being v, from the block B on. -/
structure Bd (B b : Nat) (l : List UInt8) (v : Value) (w : World) : Prop where
  blk : ∃ p, (p = .pointer none ∨ p = .pointer (some ⟨b, 0, none⟩)) ∧ w.heap[b]? = some (.cells #[p, v] 107 (0, 0))
  row : w.ownsRow B 5 1 v l.length (Lib.byteCells l)

/-- All that lay in w lies in w' as it was, but for the builder and its row. -/
structure Fr (b : Nat) (v : Value) (w w' : World) : Prop where
  os : w'.os = w.os
  tape : w'.tape = w.tape
  output : w'.output = w.output
  size : w.heap.size ≤ w'.heap.size
  block : ∀ k, k < w.heap.size → k ≠ b → v.ownBlock ≠ some k → w'.heap[k]? = w.heap[k]?

theorem Bd.lt {B b : Nat} {l : List UInt8} {v : Value} {w : World} (h : Bd B b l v w) : b < w.heap.size := by
  obtain ⟨⟨p, _, hb⟩, _⟩ := h
  rcases Nat.lt_or_ge b w.heap.size with h' | h'
  · exact h'
  · simp [Array.getElem?_eq_none h'] at hb

theorem Bd.is {B b : Nat} {l : List UInt8} {v : Value} {w : World} (h : Bd B b l v w) (hB : B ≤ b) : Lib.IsBuilder 107 5 B b (Lib.byteCells l) w := by
  obtain ⟨⟨p, hp, hb⟩, hr⟩ := h
  have hne : v.ownBlock ≠ some b := by
    intro e
    obtain ⟨_, ⟨hv, _⟩ | ⟨g, cap, cur, hv, hg, hc, _⟩⟩ := hr
    · subst hv; cases e
    · subst hv
      simp [Value.ownBlock] at e
      subst e
      rw [hb] at hc
      simp at hc
  have hl : (Lib.byteCells l).length = l.length := Lib.byteCells_length l
  rcases hp with rfl | rfl
  · exact .inl ⟨hB, v, hb, by rw [hl]; exact hr, hne⟩
  · exact .inr ⟨hB, v, hb, by rw [hl]; exact hr, hne⟩

theorem Bd.ne {B b : Nat} {l : List UInt8} {v : Value} {w : World} (h : Bd B b l v w) : v.ownBlock ≠ some b := by
  intro e
  obtain ⟨⟨p, _, hb⟩, hr⟩ := h
  obtain ⟨_, ⟨hv, _⟩ | ⟨g, cap, cur, hv, hg, hc, _⟩⟩ := hr
  · subst hv; cases e
  · subst hv
    simp [Value.ownBlock] at e
    subst e
    rw [hb] at hc
    simp at hc

theorem own_of_blocks' {w w' : World} {base : Nat} {e : TypeId} {size : Nat} {v : Value} {n : Nat} {xs : List Value} (h : w.ownsRow base e size v n xs)
    (hb : ∀ g, v.ownBlock = some g → w'.heap[g]? = w.heap[g]?) : w'.ownsRow base e size v n xs := by
  obtain ⟨hl, h | ⟨g, cap, cur, hv, hg, hc, hr⟩⟩ := h
  · exact ⟨hl, .inl h⟩
  · exact ⟨hl, .inr ⟨g, cap, cur, hv, hg, (hb g (by rw [hv]; rfl)).trans hc, hr⟩⟩

theorem Bd.new {w : World} : Bd w.heap.size w.heap.size [] (.slice none 0 0) (w.alloc (.cells #[.pointer none, .slice none 0 0] 107)) :=
  ⟨⟨_, .inl rfl, alloc_new w _⟩, ⟨rfl, .inl ⟨rfl, rfl⟩⟩⟩

theorem Fr.below {B b : Nat} {v : Value} {w w' : World} (h : Fr b v w w') (hb : B ≤ b) (hv : ∀ k, v.ownBlock = some k → B ≤ k) (hB : B ≤ w.heap.size) : Below B w w' :=
  ⟨h.os, h.tape, h.output, h.size, fun k hk => h.block k (by omega) (by omega) (fun e => by have := hv k e; omega)⟩

set_option maxHeartbeats 1000000 in
set_option maxRecDepth 100000 in
theorem copy_used (b : Nat) (w : World) (h0 : w.cell? ⟨b, 0, none⟩ = some (.pointer (some ⟨b, 0, none⟩))) :
    Calls Tryz.prog 106 #[.pointer (some ⟨b, 0, none⟩)] w fun e w' => e = .returned (.tuple #[]) ∧ w' = w := by
  obtain ⟨j, hj, _⟩ := Option.map_eq_some_iff.1 (show (Tryz.prog.info? 107).map (·.size) = some 2 by kernel_rfl)
  go_enter Tryz.func106, Tryz.ntmps106
  go_wp2
  rw [Lib.run_neq_ptr_same w _ Tryz.underlying104 hj]
  go_wp2
  go_end0
  exact ⟨rfl, rfl⟩

theorem raw_to (b : Nat) (w : World) {e : TypeId} {cells : Nat} {j : TypeInfo} (hj : Tryz.prog.info? 107 = some j) (hjs : j.size ≠ 0) (hsh : w.shape? b = some (e, cells)) (h0 : 0 < cells) :
    (convert 104 161 (.pointer (some ⟨b, 0, none⟩))).run Tryz.prog w = .ok (.pointer (some ⟨b, 0, none⟩)) w := by
  simp [convert, run_underlying Tryz.underlying104, run_underlying Tryz.underlying161]
  change Sem.run Tryz.prog (underlying 104 >>= _) w = _
  simp [run_underlying Tryz.underlying104, run_underlying Tryz.underlying161, Conv.seenAt, viewAt, cellsIn, hsh, sizeOf, typeInfo, hj, hjs]
  omega

theorem raw_from (b : Nat) (w : World) {e : TypeId} {cells : Nat} {j : TypeInfo} (hj : Tryz.prog.info? 107 = some j) (hsh : w.shape? b = some (e, cells)) (hl : liesAt Tryz.prog Tryz.prog.depth e (cells / Tryz.prog.cellsOf e) 0 107 1 = true) :
    (convert 161 104 (.pointer (some ⟨b, 0, none⟩))).run Tryz.prog w = .ok (.pointer (some ⟨b, 0, none⟩)) w := by
  simp [convert, run_underlying Tryz.underlying104, run_underlying Tryz.underlying161]
  change Sem.run Tryz.prog (underlying 161 >>= _) w = _
  simp [run_underlying Tryz.underlying161, run_underlying Tryz.underlying104, Conv.seenAt, viewAt, hsh, sizeOf, typeInfo, hj, variablesAt, hl]

set_option maxHeartbeats 1000000 in
set_option maxRecDepth 100000 in
theorem copy_fresh (b : Nat) (w : World) (h0 : w.cell? ⟨b, 0, none⟩ = some (.pointer none)) (hsh : w.shape? b = some (107, 2)) (hfz : w.frozen? ⟨b, 0, none⟩ = false) :
    Calls Tryz.prog 106 #[.pointer (some ⟨b, 0, none⟩)] w fun e w' => e = .returned (.tuple #[]) ∧ w' = w.setCell ⟨b, 0, none⟩ (.pointer (some ⟨b, 0, none⟩)) := by
  obtain ⟨j, hj, hjs⟩ := Option.map_eq_some_iff.1 (show (Tryz.prog.info? 107).map (·.size) = some 2 by kernel_rfl)
  go_enter Tryz.func106, Tryz.ntmps106
  go_wp2
  rw [raw_to b w hj (by rw [hjs]; decide) hsh (Nat.zero_lt_succ 1)]
  simp only [Result.andThen]
  rw [Oper.upon_value]
  go_wp2
  rw [run_callFunc_extern Tryz.func134 (by kernel_rfl) (by kernel_rfl) (by kernel_rfl) (e := Extern.AbiNoEscape.same) (by kernel_rfl)]
  rw [Lib.run_noEscape]
  simp only [Result.andThen]
  rw [Oper.upon_value]
  go_wp2
  rw [raw_from b w hj hsh (by kernel_rfl)]
  simp only [Result.andThen]
  rw [Oper.upon_value]
  go_wp2
  go_end0
  exact ⟨rfl, rfl⟩

theorem copy_any (B b : Nat) (l : List UInt8) (v : Value) (w : World) (h : Bd B b l v w) :
    Calls Tryz.prog 106 #[.pointer (some ⟨b, 0, none⟩)] w fun e w' => e = .returned (.tuple #[]) ∧ w'.heap[b]? = some (.cells #[.pointer (some ⟨b, 0, none⟩), v] 107 (0, 0)) ∧ w'.ownsRow B 5 1 v l.length (Lib.byteCells l) ∧ Fr b (.slice none 0 0) w w' := by
  have hne := h.ne
  obtain ⟨⟨p, hp, hb⟩, hr⟩ := h
  rcases hp with rfl | rfl
  · refine (copy_fresh b w (by rw [Lib.cell_of_heap hb]; rfl) (by simp [World.shape?, hb]) (Lib.frozen_of_heap hb 0)).mono ?_
    rintro e w' ⟨rfl, rfl⟩
    refine ⟨rfl, ?_, ?_, ⟨rfl, rfl, rfl, by simp, fun k _ hk _ => Below.heap_setCell w _ _ k hk⟩⟩
    · simp [World.setCell, Array.getElem?_modify, hb]
    · refine own_of_blocks' hr fun g hg => Below.heap_setCell w _ _ g (fun e => hne (by rw [hg, e]))
  · refine (copy_used b w (by rw [Lib.cell_of_heap hb]; rfl)).mono ?_
    rintro e w' ⟨rfl, rfl⟩
    exact ⟨rfl, hb, hr, ⟨rfl, rfl, rfl, Nat.le_refl _, fun _ _ _ _ => rfl⟩⟩
end Go.Proofs.YtfiipfcdddaceaaGreatDoor

namespace Go.Proofs.YtfiipfcdddaceaaGreatDoor
open Go.RowKit

theorem byteCells_app (l m : List UInt8) : Lib.byteCells (l ++ m) = Lib.byteCells l ++ Lib.byteCells m := by simp [Lib.byteCells]

set_option maxHeartbeats 2000000 in
set_option maxRecDepth 100000 in
theorem writeByte (B b : Nat) (l : List UInt8) (v : Value) (c : UInt8) (ci : Int) (w : World) (h : Bd B b l v w) (hlen : l.length + 1 ≤ 140737488355328) (_hBw : B ≤ w.heap.size) (hci : ci = (c.toNat : Int)) :
    Calls Tryz.prog 136 #[.pointer (some ⟨b, 0, none⟩), .int .u8 ci] w fun e w' => e = .returned .nilIface ∧ ∃ v', Bd B b (l ++ [c]) v' w' ∧ Fr b v w w' := by
  subst hci
  obtain ⟨i0, hi, hz0, hz1, hz2⟩ := info_parts (P := Tryz.prog) (e := 5) (z := .int .u8 0) (size := 1) (bytes := 1) (by kernel_rfl)
  have hne := h.ne
  have hltb := h.lt
  have HC := hide (copy_any B b l v w h)
  clear h
  go_enter Tryz.func136, Tryz.ntmps136
  go_wp2_with fail
  refine HC.out.mono ?_
  rintro e w1 ⟨rfl, hbk, hown, hfr⟩
  have hz := hfr.size
  have c1 : w1.cell? ⟨b, 1, none⟩ = some v := by rw [Lib.cell_of_heap hbk]; rfl
  go_wp2_with (at_builtin; refine wpList_append_own _ rfl _ _ 105 rfl B 5 i0 (.int .u8 0) 1 1 Tryz.underlying105 hi hz0 hz1 hz2 rfl (by decide) _ _ _ rfl (hown.alloc _) ⟨w1.heap.size, 0, none⟩ 1 1 [.int .u8 (c.toNat : Int)] rfl rfl ?c1 ?c2 ?c3 ?c4 ?c5 ?_)
  case c1 =>
    intro j u hj
    match j, hj with
    | 0, hj => simp at hj; subst hj; simp [Addr.add]
  case c2 => intro u hu; simp at hu; subst hu; rfl
  case c3 => unfold maxLen; omega
  case c4 => omega
  case c5 => simp; omega
  intro v' w2 hown' hgrow _
  have hb2 : w2.heap[b]? = some (.cells #[.pointer (some ⟨b, 0, none⟩), v] 107 (0, 0)) := by
    rw [hgrow.block b (by simp; omega) (fun e => hne e.symm), Below.heap_alloc w1 _ b (by omega)]
    exact hbk
  have d1 : w2.cell? ⟨b, 1, none⟩ = some v := by rw [Lib.cell_of_heap hb2]; rfl
  have f1 : w2.frozen? ⟨b, 1, none⟩ = false := Lib.frozen_of_heap hb2 1
  obtain ⟨g, cap, rfl⟩ := own_shape hown'
  have HG := hide hgrow
  have HF := hide hfr
  have HN := hide hown'
  have hgb : g ≠ b := by
    intro e
    obtain ⟨_, ⟨hv, _⟩ | ⟨g', cap', cur, hv, hg, hc, _⟩⟩ := hown'
    · cases hv
    · simp at hv
      rw [← hv.1, e, hb2] at hc
      simp at hc
  clear hgrow hfr hown' hown
  go_wp2_with fail
  go_ret
  refine ⟨rfl, .slice (some ⟨g, 0, none⟩) (l.length + 1) cap, ⟨⟨_, .inr rfl, ?_⟩, ?_⟩, ?_⟩
  · simp [World.setCell, Array.getElem?_modify, hb2]
  · rw [byteCells_app, List.length_append]
    exact own_of_blocks' HN.out fun k hk => Below.heap_setCell w2 _ _ k (fun e => hgb (by simp [Value.ownBlock] at hk; rw [hk, e]))
  · refine ⟨HG.out.os.trans HF.out.os, HG.out.tape.trans HF.out.tape, HG.out.output.trans HF.out.output, ?_, fun k hk h1 h2 => ?_⟩
    · have := HG.out.size; simp at this ⊢; omega
    · rw [Below.heap_setCell w2 _ _ k h1, HG.out.block k (by simp; omega) (fun e => h2 e.symm), Below.heap_alloc w1 _ k (by omega)]
      exact HF.out.block k hk h1 (by simp [Value.ownBlock])

set_option maxHeartbeats 2000000 in
set_option maxRecDepth 100000 in
theorem writeString (B b : Nat) (l : List UInt8) (v : Value) (s : ByteArray) (w : World) (h : Bd B b l v w) (hlen : l.length + s.size ≤ 140737488355328) (_hBw : B ≤ w.heap.size) :
    Calls Tryz.prog 61 #[.pointer (some ⟨b, 0, none⟩), .string s] w fun e w' => e = .returned (.tuple #[.int .i64 s.size, .nilIface]) ∧ ∃ v', Bd B b (l ++ s.data.toList) v' w' ∧ Fr b v w w' := by
  obtain ⟨i0, hi, hz0, hz1, hz2⟩ := info_parts (P := Tryz.prog) (e := 5) (z := .int .u8 0) (size := 1) (bytes := 1) (by kernel_rfl)
  have hne := h.ne
  have hltb := h.lt
  have HC := hide (copy_any B b l v w h)
  clear h
  go_enter Tryz.func61, Tryz.ntmps61
  go_wp2_with fail
  refine HC.out.mono ?_
  rintro e w1 ⟨rfl, hbk, hown, hfr⟩
  have hz := hfr.size
  have c1 : w1.cell? ⟨b, 1, none⟩ = some v := by rw [Lib.cell_of_heap hbk]; rfl
  go_wp2_with (at_builtin; refine Lib.wpList_append_own_string _ rfl _ _ 105 9 rfl B 5 i0 Tryz.underlying105 Tryz.underlying9 hi hz0 hz1 hz2 _ _ _ rfl hown s rfl ?c3 ?c4 ?c5 ?_)
  case c3 => unfold maxLen; omega
  case c4 => omega
  case c5 => omega
  intro v' w2 hown' hgrow _
  have hb2 : w2.heap[b]? = some (.cells #[.pointer (some ⟨b, 0, none⟩), v] 107 (0, 0)) := by
    rw [hgrow.block b (by omega) (fun e => hne e.symm)]
    exact hbk
  have d1 : w2.cell? ⟨b, 1, none⟩ = some v := by rw [Lib.cell_of_heap hb2]; rfl
  have f1 : w2.frozen? ⟨b, 1, none⟩ = false := Lib.frozen_of_heap hb2 1
  have HG := hide hgrow
  have HF := hide hfr
  have HN := hide hown'
  have hgb : v'.ownBlock ≠ some b := by
    intro e
    obtain ⟨_, ⟨hv, _⟩ | ⟨g', cap', cur, hv, hg, hc, _⟩⟩ := hown'
    · subst hv; cases e
    · subst hv
      simp [Value.ownBlock] at e
      rw [e, hb2] at hc
      simp at hc
  obtain ⟨ao, cap, hv⟩ := own_slice hown'
  subst hv
  clear hgrow hfr hown' hown
  go_wp2_with fail
  go_ret2
  refine ⟨rfl, .slice ao (l.length + s.size) cap, ⟨⟨_, .inr rfl, ?_⟩, ?_⟩, ?_⟩
  · simp [World.setCell, Array.getElem?_modify, hb2]
  · rw [byteCells_app, List.length_append]
    exact own_of_blocks' HN.out fun k hk => Below.heap_setCell w2 _ _ k (fun e => hgb (by rw [hk, e]))
  · refine ⟨HG.out.os.trans HF.out.os, HG.out.tape.trans HF.out.tape, HG.out.output.trans HF.out.output, ?_, fun k hk h1 h2 => ?_⟩
    · have := HG.out.size; simp at this ⊢; omega
    · rw [Below.heap_setCell w2 _ _ k h1, HG.out.block k (by omega) (fun e => h2 e.symm)]
      exact HF.out.block k hk h1 (by simp [Value.ownBlock])
end Go.Proofs.YtfiipfcdddaceaaGreatDoor

namespace Go.Proofs.YtfiipfcdddaceaaGreatDoor
open Go.RowKit

def qb (c : UInt8) : List UInt8 := if c = 34 ∨ c = 92 then [92, c] else if c = 10 then [92, 110] else [c]
def quoteL (l : List UInt8) : List UInt8 := 34 :: (l.flatMap qb ++ [34])

theorem qb_le (c : UInt8) : (qb c).length ≤ 2 := by unfold qb; split <;> (try split) <;> simp
theorem flat_le (l : List UInt8) : (l.flatMap qb).length ≤ 2 * l.length := by
  induction l with
  | nil => simp
  | cons c l ih => have := qb_le c; simp only [List.flatMap_cons, List.length_append, List.length_cons]; omega
theorem flat_snoc (s : ByteArray) (k : Nat) (h : k < s.size) : (s.data.toList.take (k + 1)).flatMap qb = (s.data.toList.take k).flatMap qb ++ qb s[k] := by
  rw [List.take_succ_eq_append_getElem (by simpa using h), List.flatMap_append]
  simp
  rfl

theorem Bd.step {B b : Nat} {l : List UInt8} {v : Value} {w w' : World} {w0 : World} (h : Bd B b l v w) (hf : Fr b v w w') (h0 : Below B w0 w) (hB : B ≤ w0.heap.size) (hb : B ≤ b := by exact Nat.le_refl _) : Below B w0 w' :=
  h0.trans (hf.below hb (fun k hk => own_lt h.row k hk) (Nat.le_trans hB h0.size))

theorem byte_is (c : UInt8) (n : Nat) (hn : n < 256) : ((c.toNat : Int) == (n : Int)) = true ↔ c = UInt8.ofNat n := by
  simp only [beq_iff_eq]
  constructor
  · intro h
    have h' : c.toNat = n := by omega
    rw [← h']; simp
  · intro h
    subst h
    simp
    omega
theorem qb_two (c : UInt8) (h : ((c.toNat : Int) == 34) = true ∨ ((c.toNat : Int) == 92) = true) : qb c = [92, c] := by
  unfold qb
  rw [if_pos]
  rcases h with h | h
  · exact .inl ((byte_is c 34 (by omega)).1 h)
  · exact .inr ((byte_is c 92 (by omega)).1 h)
theorem qb_nl (c : UInt8) (h : ((c.toNat : Int) == 10) = true) : qb c = [92, 110] := by
  have e : c = 10 := (byte_is c 10 (by omega)).1 h
  subst e
  rfl
theorem qb_one (c : UInt8) (h1 : ((c.toNat : Int) == 34) = false) (h2 : ((c.toNat : Int) == 92) = false) (h3 : ((c.toNat : Int) == 10) = false) : qb c = [c] := by
  have e1 : ¬ c = 34 := fun e => by subst e; simp at h1
  have e2 : ¬ c = 92 := fun e => by subst e; simp at h2
  have e3 : ¬ c = 10 := fun e => by subst e; simp at h3
  simp [qb, e1, e2, e3]

set_option maxHeartbeats 2000000 in
theorem quote_any (s : ByteArray) (w : World) (hs : s.size ≤ 1099511627776) :
    Calls Tryz.prog 112 #[.string s] w fun e w' => e = .returned (.string ⟨(quoteL s.data.toList).toArray⟩) ∧ Below w.heap.size w w' := by
  have hsl : s.data.toList.length = s.size := by simp
  go_enter Tryz.func112, Tryz.ntmps112
  go_wp2_with fail
  refine (writeByte w.heap.size w.heap.size [] (.slice none 0 0) 34 _ _ Bd.new (by simp) (by simp) rfl).mono ?_
  rintro x w1 ⟨rfl, v1, hb1, hf1⟩
  have HB1 := hide hb1
  have HW1 : Hid (Below w.heap.size w w1) := Bd.new.step hf1 ((Below.refl _ _).alloc (Nat.le_refl _) _) (Nat.le_refl _)
  clear hb1 hf1
  go_wp2_with fail
  go_loopw [9] (fun i wr => ∃ (k : Nat) (v : Value), k ≤ s.size ∧ i = .int .i64 k ∧ Bd w.heap.size w.heap.size (34 :: (s.data.toList.take k).flatMap qb) v wr ∧ Below w.heap.size w wr) (fun i _ => s.size - (intOf i).toNat)
  case atStart => exact ⟨0, v1, by omega, rfl, HB1.out, HW1.out⟩
  case round =>
    obtain ⟨k, v, hk, rfl, hbd, hbw⟩ := hrel
    have HB := hide hbd
    have HW := hide hbw
    have hfl := flat_le (s.data.toList.take k)
    have htl : (s.data.toList.take k).length ≤ s.size := by rw [← hsl]; exact (List.take_sublist _ _).length_le
    have hz := hbw.size
    clear hbd hbw
    by_cases hlt : k < s.size
    · have HS := hide (flat_snoc s k hlt)
      cases h1 : ((s[k].toNat : Int) == 34)
      · cases h2 : ((s[k].toNat : Int) == 92)
        · cases h3 : ((s[k].toNat : Int) == 10)
          · go_wp2_with fail
            refine (writeByte w.heap.size w.heap.size _ v s[k] _ _ HB.out (by simp only [List.length_cons]; omega) hz rfl).mono ?_
            rintro x w2 ⟨rfl, v2, hb2, hf2⟩
            have HB2 := hide hb2
            have HW2 := hide (HB.out.step hf2 HW.out (Nat.le_refl _))
            clear hb2 hf2
            go_wp2_with fail
            refine ⟨⟨k + 1, v2, by omega, by go_num, ?_, HW2.out⟩, by simp [intOf]; omega⟩
            rw [HS.out, qb_one s[k] h1 h2 h3]
            exact HB2.out
          · go_wp2_with fail
            refine (writeString w.heap.size w.heap.size _ v ⟨#[92, 110]⟩ _ HB.out (by rw [show (ByteArray.mk #[92, 110]).size = 2 from rfl]; simp only [List.length_cons]; omega) hz).mono ?_
            rintro x w2 ⟨rfl, v2, hb2, hf2⟩
            have HB2 := hide hb2
            have HW2 := hide (HB.out.step hf2 HW.out (Nat.le_refl _))
            clear hb2 hf2
            go_wp2_with fail
            refine ⟨⟨k + 1, v2, by omega, by go_num, ?_, HW2.out⟩, by simp [intOf]; omega⟩
            rw [HS.out, qb_nl s[k] h3]
            exact HB2.out
        · go_wp2_with fail
          refine (writeByte w.heap.size w.heap.size _ v 92 _ _ HB.out (by simp only [List.length_cons]; omega) hz rfl).mono ?_
          rintro x w2 ⟨rfl, v2, hb2, hf2⟩
          have HB2 := hide hb2
          have HW2 := hide (HB.out.step hf2 HW.out (Nat.le_refl _))
          have hz2 := HW2.out.size
          clear hb2 hf2
          go_wp2_with fail
          refine (writeByte w.heap.size w.heap.size _ v2 s[k] _ _ HB2.out (by simp only [List.length_cons, List.length_append, List.length_nil]; omega) hz2 rfl).mono ?_
          rintro x w3 ⟨rfl, v3, hb3, hf3⟩
          have HB3 := hide hb3
          have HW3 := hide (HB2.out.step hf3 HW2.out (Nat.le_refl _))
          clear hb3 hf3
          go_wp2_with fail
          refine ⟨⟨k + 1, v3, by omega, by go_num, ?_, HW3.out⟩, by simp [intOf]; omega⟩
          rw [HS.out, qb_two s[k] (.inr h2)]
          have := HB3.out
          rw [List.append_assoc] at this
          exact this
      · go_wp2_with fail
        refine (writeByte w.heap.size w.heap.size _ v 92 _ _ HB.out (by simp only [List.length_cons]; omega) hz rfl).mono ?_
        rintro x w2 ⟨rfl, v2, hb2, hf2⟩
        have HB2 := hide hb2
        have HW2 := hide (HB.out.step hf2 HW.out (Nat.le_refl _))
        have hz2 := HW2.out.size
        clear hb2 hf2
        go_wp2_with fail
        refine (writeByte w.heap.size w.heap.size _ v2 s[k] _ _ HB2.out (by simp only [List.length_cons, List.length_append, List.length_nil]; omega) hz2 rfl).mono ?_
        rintro x w3 ⟨rfl, v3, hb3, hf3⟩
        have HB3 := hide hb3
        have HW3 := hide (HB2.out.step hf3 HW2.out (Nat.le_refl _))
        clear hb3 hf3
        go_wp2_with fail
        refine ⟨⟨k + 1, v3, by omega, by go_num, ?_, HW3.out⟩, by simp [intOf]; omega⟩
        rw [HS.out, qb_two s[k] (.inl h1)]
        have := HB3.out
        rw [List.append_assoc] at this
        exact this
    · obtain rfl : k = s.size := by omega
      have et : s.data.toList.take s.size = s.data.toList := by rw [← hsl]; exact List.take_length
      have HB0 : Hid (Bd w.heap.size w.heap.size (34 :: s.data.toList.flatMap qb) v wr) := by have := HB.out; rw [et] at this; exact this
      have hfl2 := flat_le s.data.toList
      go_wp2_with fail
      refine (writeByte w.heap.size w.heap.size _ v 34 _ _ HB0.out (by simp only [List.length_cons]; omega) hz rfl).mono ?_
      rintro x w2 ⟨rfl, v2, hb2, hf2⟩
      have HB2 := hide hb2
      have HW2 := hide (HB0.out.step hf2 HW.out (Nat.le_refl _))
      have hz2 := HW2.out.size
      clear hb2 hf2
      go_wp2_with fail
      refine (Tryz.Builder_String_any w.heap.size w.heap.size _ _ (HB2.out.is (Nat.le_refl _)) hz2).mono ?_
      rintro x w3 ⟨rfl, hb3⟩
      have HB3 := hide hb3
      clear hb3
      go_wp2_with fail
      go_ret
      exact ⟨rfl, HW2.out.trans HB3.out⟩
end Go.Proofs.YtfiipfcdddaceaaGreatDoor

namespace Go.Proofs.YtfiipfcdddaceaaGreatDoor
open Go.RowKit

theorem itoa_any (n : Int) (h0 : -9223372036854775808 ≤ n) (h1 : n ≤ 9223372036854775807) (w : World) (h : Lib.TabIs Tryz.prog w "internal/strconv.uint64pow10" .u64 Lib.pow10Tab) :
    Calls Tryz.prog 111 #[.int .i64 n] w fun e w' => e = .returned (.string ⟨(Lib.itoa n).toArray⟩) ∧ Below w.heap.size w w' :=
  (Tryz.strconv_Itoa n h0 h1 w h).mono fun _ _ ⟨h1, d, os, h2⟩ => ⟨h1, by rw [h2]; exact Lib.below_grow _ _ (Nat.le_refl _) d os⟩

def plainL (t : Tm) : List UInt8 := if t.kind = 1 then Lib.itoa t.num else if t.kind = 3 then quoteL t.text.data.toList else t.text.data.toList

/-- A term that can be: its number is an int, its text is short. -/
def TmOk (t : Tm) : Prop := -9223372036854775808 ≤ t.num ∧ t.num ≤ 9223372036854775807 ∧ t.text.size ≤ 1099511627776

set_option maxHeartbeats 1000000 in
theorem plain_any (t : Tm) (w : World) (ht : TmOk t) (hw : Lib.TabIs Tryz.prog w "internal/strconv.uint64pow10" .u64 Lib.pow10Tab) :
    Calls Tryz.prog 73 #[t.val] w fun e w' => e = .returned (.string ⟨(plainL t).toArray⟩) ∧ Below w.heap.size w w' := by
  obtain ⟨k, n, tx⟩ := t
  obtain ⟨h0, h1, h2⟩ := ht
  simp only [Tm.val] at *
  have HI := hide (fun w h => itoa_any n h0 h1 w h)
  have HQ := hide (fun w => quote_any tx w h2)
  have HT := hide hw
  clear hw h0 h1
  cases e1 : (k == 1)
  · cases e3 : (k == 3)
    · have hp : plainL ⟨k, n, tx⟩ = tx.data.toList := by
        have a : ¬ k = 1 := by simpa using e1
        have b : ¬ k = 3 := by simpa using e3
        simp [plainL, a, b]
      rw [hp]
      go_enter Tryz.func73, Tryz.ntmps73
      go_wp2_with fail
      go_ret
      exact ⟨rfl, (Below.refl _ _).alloc (Nat.le_refl _) _⟩
    · have hp : plainL ⟨k, n, tx⟩ = quoteL tx.data.toList := by
        have a : ¬ k = 1 := by simpa using e1
        have b : k = 3 := by simpa using e3
        simp [plainL, b]
      rw [hp]
      go_enter Tryz.func73, Tryz.ntmps73
      go_wp2_with fail
      refine (HQ.out _).mono ?_
      rintro x w1 ⟨rfl, hb⟩
      have HB := hide hb
      clear hb
      go_wp2_with fail
      go_ret
      exact ⟨rfl, ((Below.refl _ _).alloc (Nat.le_refl _) _).trans (HB.out.mono (by simp))⟩
  · have hp : plainL ⟨k, n, tx⟩ = Lib.itoa n := by
      have a : k = 1 := by simpa using e1
      simp [plainL, a]
    rw [hp]
    go_enter Tryz.func73, Tryz.ntmps73
    go_wp2_with fail
    refine (HI.out _ (Lib.tabIs_alloc HT.out _)).mono ?_
    rintro x w1 ⟨rfl, hb⟩
    have HB := hide hb
    clear hb
    go_wp2_with fail
    go_ret
    exact ⟨rfl, ((Below.refl _ _).alloc (Nat.le_refl _) _).trans (HB.out.mono (by simp))⟩
end Go.Proofs.YtfiipfcdddaceaaGreatDoor
