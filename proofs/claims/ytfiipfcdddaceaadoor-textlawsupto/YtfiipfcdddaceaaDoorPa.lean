import Derived.Test.YtfiipfcdddaceaaDoorCl
import Derived.Defers
import Derived.Recover
namespace Go.Proofs.YtfiipfcdddaceaaDoor
open Go.RowKit

theorem Ok.other {r q : Nat} {s : ByteArray} {i : Nat} {w w' : World} (h : Ok r s i w) (k : Keep q w w') (hq : q ≠ r) (h0 : q ≠ 0) : Ok r s i w' :=
  ⟨h.size, h.le, h.plain, h.pos, ⟨Nat.lt_of_lt_of_le h.rd.lt k.size, (k.cell (Ne.symm hq) h.rd.lt).trans h.rd.c0, (k.cell (Ne.symm hq) h.rd.lt).trans h.rd.c1, (k.frozen (Ne.symm hq) h.rd.lt).trans h.rd.f1⟩,
    ⟨Nat.lt_of_lt_of_le h.mks.1 k.size, fun j hj => (k.cell (Ne.symm h0) h.mks.1).trans (h.mks.2 j hj)⟩⟩

/-- Of the block pb all but its first cell is as it was. -/
def Side (pb : Nat) (w w' : World) : Prop := (∀ o, o ≠ 0 → w'.cell? ⟨pb, o, none⟩ = w.cell? ⟨pb, o, none⟩) ∧ (∀ o, w'.frozen? ⟨pb, o, none⟩ = w.frozen? ⟨pb, o, none⟩)
theorem Side.trans {pb : Nat} {a b c : World} (h : Side pb a b) (k : Side pb b c) : Side pb a c :=
  ⟨fun o ho => (k.1 o ho).trans (h.1 o ho), fun o => (k.2 o).trans (h.2 o)⟩
theorem Side.of_block {pb : Nat} {w w' : World} (h : w'.heap[pb]? = w.heap[pb]?) : Side pb w w' :=
  ⟨fun _ _ => World.cell?_of_block (w := w) h, fun _ => World.frozen?_of_block (w := w) h⟩
theorem Side.set (pb : Nat) (w : World) (u : Value) : Side pb w (w.setCell ⟨pb, 0, none⟩ u) :=
  ⟨fun o ho => World.cell?_setCell_other _ _ _ _ (fun e => ho (by simpa using (congrArg Addr.off e).symm)), fun _ => World.frozen?_setCell _ _ _ _⟩

set_option maxHeartbeats 2000000 in
theorem parse2 (pb n m c cb : Nat) (nm : ByteArray) (a ab : Option Addr) (w : World) (hlt : pb < w.heap.size) (hc : w.cell? ⟨pb, 0, none⟩ = some (.slice none 0 0)) (hf : w.frozen? ⟨pb, 0, none⟩ = false) :
    Calls Tryd.prog 25 #[.agg #[.string nm, .slice a n c, .slice ab m cb], .pointer (some ⟨pb, 0, none⟩)] w fun e w' => e = .returned (.tuple #[]) ∧ Keep pb w w' ∧ Side pb w w' ∧
      ∃ g cap, w.heap.size ≤ g ∧ w'.cell? ⟨pb, 0, none⟩ = some (.slice (some ⟨g, 0, none⟩) 1 cap) ∧ w'.ownsRow w.heap.size 55 3 (.slice (some ⟨g, 0, none⟩) 1 cap) 1 [.string nm, .slice a n c, .slice ab m cb] := by
  obtain ⟨i0, hi, hz0, hz1, hz2⟩ := info_parts (P := Tryd.prog) (e := 55) (z := .agg #[.string ⟨#[]⟩, .slice none 0 0, .slice none 0 0]) (size := 3) (bytes := 64) (by kernel_rfl)
  have hown : w.ownsRow w.heap.size 55 3 (.slice none 0 0) 0 [] := ⟨rfl, .inl ⟨rfl, rfl⟩⟩
  have HO := hide hown
  clear hown
  go_enter Tryd.func25, Tryd.ntmps25
  go_wp2_with (at_builtin; refine wpList_append_own _ rfl _ _ 43 rfl w.heap.size 55 i0 (.agg #[.string ⟨#[]⟩, .slice none 0 0, .slice none 0 0]) 3 64 Tryd.underlying43 hi hz0 hz1 hz2 rfl (by decide) _ _ _ rfl ((HO.out.alloc _).alloc _) ⟨w.heap.size + 1, 0, none⟩ 1 1 [.string nm, .slice a n c, .slice ab m cb] rfl rfl ?c1 ?c2 ?c3 ?c4 ?c5 ?_)
  case c1 =>
    intro j u hj
    match j, hj with
    | 0, hj => simp at hj; subst hj; simp [Addr.add]
    | 1, hj => simp at hj; subst hj; simp [Addr.add]
    | 2, hj => simp at hj; subst hj; simp [Addr.add]
  case c2 => intro u hu; simp at hu; rcases hu with rfl | rfl | rfl <;> rfl
  case c3 => unfold maxLen; omega
  case c4 => omega
  case c5 => simp; omega
  intro v' w5 hown' hgrow _
  obtain ⟨g', cap', rfl⟩ := own_shape hown'
  have hg : w.heap.size ≤ g' := own_lt hown' g' rfl
  have hk : Keep pb w w5 := (((Keep.refl pb w).alloc (by omega) _).alloc (by simp; omega) _).grown hgrow (fun k hk => by cases hk) hlt
  have e0 : w5.heap[pb]? = w.heap[pb]? := by
    rw [hgrow.block pb (by simp; omega) (fun e => by cases e), Below.heap_alloc _ _ _ (by simp; omega), Below.heap_alloc _ _ _ hlt]
  have d0 : w5.cell? ⟨pb, 0, none⟩ = some (.slice none 0 0) := (World.cell?_of_block (w := w) e0).trans hc
  have d1 : w5.frozen? ⟨pb, 0, none⟩ = false := (World.frozen?_of_block (w := w) e0).trans hf
  have HK := hide hk
  have HN := hide hown'
  have HE := hide e0
  clear hk hown' e0
  go_wp2_with fail
  go_end0
  exact ⟨rfl, HK.out.setCell _ _, (Side.of_block HE.out).trans (Side.set _ _ _), g', cap', hg, World.cell?_setCell_same _ _ _ d0, own_set HN.out hlt _⟩
end Go.Proofs.YtfiipfcdddaceaaDoor
