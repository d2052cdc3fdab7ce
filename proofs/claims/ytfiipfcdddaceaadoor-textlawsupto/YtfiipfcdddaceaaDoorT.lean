import Derived.Test.YtfiipfcdddaceaaDoorP
import Derived.Deep.RegionWith
namespace Go.Proofs.YtfiipfcdddaceaaDoor
open Go.RowKit

/-- What the readers go by: no remark in the text; the reader; the table. -/
structure Ok (r : Nat) (s : ByteArray) (i : Nat) (w : World) : Prop where
  size : s.size ≤ maxLen
  le : i ≤ s.size
  plain : ∀ j (h : j < s.size), ((s[j].toNat : Int) == 37) = false
  pos : 0 < r
  rd : Rd r s i w
  mks : Mk w

theorem Ok.drewN {r : Nat} {s : ByteArray} {i : Nat} {w : World} (h : Ok r s i w) (n : Nat) : Ok r s i (w.drewN n) :=
  ⟨h.size, h.le, h.plain, h.pos, h.rd.drewN n, h.mks⟩
theorem Ok.drew {r : Nat} {s : ByteArray} {i : Nat} {w : World} (h : Ok r s i w) : Ok r s i w.drew :=
  ⟨h.size, h.le, h.plain, h.pos, ⟨h.rd.lt, h.rd.c0, h.rd.c1, h.rd.f1⟩, h.mks⟩
theorem Ok.below {r : Nat} {s : ByteArray} {i : Nat} {w w' : World} (h : Ok r s i w) (hb : Below w.heap.size w w') : Ok r s i w' :=
  ⟨h.size, h.le, h.plain, h.pos, h.rd.below hb, h.mks.below hb⟩
theorem Ok.keep {r : Nat} {s : ByteArray} {i k : Nat} {w w' : World} (h : Ok r s i w) (hk : Keep r w w') (hr : Rd r s k w') (hl : k ≤ s.size) : Ok r s k w' :=
  ⟨h.size, hl, h.plain, h.pos, hr, h.mks.keep hk h.pos⟩

theorem ps_le (s : ByteArray) (i : Nat) (h : i ≤ s.size) : ps s i ≤ s.size := by
  unfold ps
  have := (List.takeWhile_sublist (p := fun c : UInt8 => blankB c.toNat) (l := s.data.toList.drop i)).length_le
  simp at this
  omega

def mlen (m : Nat) : Nat := (marksL.getD m []).length

theorem mk_len (s : ByteArray) (i m : Nat) (hi : i ≤ s.size) (hm : m < 13) (h : mk (s.data.toList.drop i) = m) : i + mlen m ≤ s.size := by
  subst h
  have hl : marksL.length = 13 := rfl
  have hp := List.findIdx_getElem (xs := marksL) (p := fun m => m.isPrefixOf (s.data.toList.drop i)) (w := by unfold mk at hm; omega)
  have := (List.isPrefixOf_iff_prefix.1 hp).length_le
  unfold mlen
  rw [getD_get (by omega)]
  simp at this
  unfold mk
  omega

theorem pass_at (r : Nat) (s : ByteArray) (i t : Nat) (ti : Int) (w : World) (ht : t ≤ s.size) (e : ti = (t : Int)) (h : Ok r s i w) :
    Calls Tryd.prog 36 #[.pointer (some ⟨r, 0, none⟩), .int .i64 ti] w fun e w' => e = .returned (.tuple #[]) ∧ Ok r s (ps s t) w' ∧ Keep r w w' := by
  subst e
  exact (pass_any r s i t w h.size ht h.plain h.rd).mono fun e w' ⟨h1, h2, h3⟩ => ⟨h1, h.keep h3 h2 (ps_le s t ht), h3⟩

set_option maxHeartbeats 1000000 in
theorem takes_no (r : Nat) (s : ByteArray) (i m : Nat) (w : World) (h : Ok r s i w) (hm : mk (s.data.toList.drop i) ≠ m) :
    Calls Tryd.prog 37 #[.pointer (some ⟨r, 0, none⟩), .int .i64 m] w fun e w' => e = .returned (.bool false) ∧ ∃ n, w' = w.drewN n := by
  have hc := mark_any r s i w h.size h.le h.rd h.mks
  generalize mk (s.data.toList.drop i) = q at *
  have hne : ((q : Int) != (m : Int)) = true := by rw [bne_iff_ne]; omega
  have HC := hide hc
  clear hc
  go_enter Tryd.func37, Tryd.ntmps37
  go_wp2_with fail
  refine HC.out.mono ?_
  rintro e w1 ⟨rfl, n, hw⟩
  go_wp2_with fail
  go_ret
  exact ⟨rfl, n, rfl⟩

set_option maxHeartbeats 1000000 in
theorem takes_yes (r : Nat) (s : ByteArray) (i m : Nat) (w : World) (h : Ok r s i w) (hm : mk (s.data.toList.drop i) = m) (h13 : m < 13) :
    Calls Tryd.prog 37 #[.pointer (some ⟨r, 0, none⟩), .int .i64 m] w fun e w' => e = .returned (.bool true) ∧ Ok r s (ps s (i + mlen m)) w' ∧ Keep r w w' := by
  have hc := mark_any r s i w h.size h.le h.rd h.mks
  have hl := mk_len s i m h.le h13 hm
  rw [hm] at hc
  clear hm
  have hne : ((m : Int) != (m : Int)) = false := by simp
  have HC := hide hc
  clear hc
  go_enter Tryd.func37, Tryd.ntmps37
  go_wp2_with fail
  refine HC.out.mono ?_
  rintro e w1 ⟨rfl, n, hw⟩
  have HO : Hid (Ok r s i w1) := by rw [hw]; exact h.drewN _
  have HK : Hid (Keep r w w1) := by rw [hw]; exact (Keep.refl _ _).drewN _
  clear hw h
  have hm1 := HO.out.mks.2 m h13
  have hz : (markB m).size = mlen m := rfl
  have HZ := hide hz
  clear hz
  obtain ⟨_, c0, c1, f1⟩ := HO.out.rd
  have hs := HO.out.size
  unfold maxLen at hs
  go_wp2_with fail
  go_region_with (go_at_call 36; refine (pass_at r s i (i + mlen m) _ _ hl ?_ ?_).mono ?_; (rw [IntKind.wrap_i64, HZ.out]; omega); (exact HO.out.drew); rintro e w' ⟨rfl, h1, h2⟩)
  all_goals
    go_wp2_with fail
    go_ret
    exact ⟨rfl, h1, HK.out.drew.trans h2⟩

set_option maxHeartbeats 1000000 in
theorem needs_yes (r : Nat) (s : ByteArray) (i m : Nat) (w : World) (h : Ok r s i w) (hm : mk (s.data.toList.drop i) = m) (h13 : m < 13) :
    Calls Tryd.prog 47 #[.pointer (some ⟨r, 0, none⟩), .int .i64 m] w fun e w' => e = .returned (.tuple #[]) ∧ Ok r s (ps s (i + mlen m)) w' ∧ Keep r w w' := by
  have HC := hide (takes_yes r s i m w h hm h13)
  clear hm
  go_enter Tryd.func47, Tryd.ntmps47
  go_wp2_with fail
  refine HC.out.mono ?_
  rintro e w1 ⟨rfl, h1, h2⟩
  go_wp2_with fail
  go_end0
  exact ⟨rfl, h1, h2⟩
end Go.Proofs.YtfiipfcdddaceaaDoor
