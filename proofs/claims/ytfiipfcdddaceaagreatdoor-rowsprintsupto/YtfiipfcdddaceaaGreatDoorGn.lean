import Derived.Test.YtfiipfcdddaceaaGreatDoorGi
namespace Go.Proofs.YtfiipfcdddaceaaGreatDoor
open Go.RowKit

set_option maxRecDepth 100000 in
set_option maxHeartbeats 2000000 in
theorem given_none (nm : ByteArray) (a : Option Addr) (c : Nat) (at_ : Int) (w : World) :
    Calls Tryz.prog 43 #[.agg #[.string nm, .slice a 0 c, .int .i64 at_]] w fun e w' => e = .returned (.agg #[.string nm, .slice none 0 0]) ∧ Below w.heap.size w w' := by
  go_enter Tryz.func43, Tryz.ntmps43
  go_wp2_with fail
  go_loop [4] (fun i => i = .int .i64 0) (fun _ => 0)
  case atStart => rfl
  case round =>
    subst hrel
    go_wp2_with fail
    refine bodyPost_ret (v := .agg #[.string nm, .slice none 0 0]) (by simp [results, go_sem]) rfl ⟨rfl, ?_⟩
    exact below3 _ _ _ _

theorem given_any (nm : ByteArray) (va : Value) (n : Nat) (at_ : Int) (t : Nat → Tm) (w : World) (h : IsRTerms w va n t) :
    Calls Tryz.prog 43 #[.agg #[.string nm, va, .int .i64 at_]] w fun e w' => ∃ v, e = .returned (.agg #[.string nm, v]) ∧ IsTerms w' v n t ∧ Below w.heap.size w w' := by
  obtain ⟨hn, ⟨a, c, rfl, rfl⟩ | ⟨g, off, c, rfl, hg, hc, ht⟩⟩ := h
  · exact (given_none nm a c at_ w).mono fun _ _ ⟨h1, h2⟩ => ⟨_, h1, ⟨hn, .inl ⟨_, _, rfl, rfl⟩⟩, h2⟩
  · exact (given_some nm g off c n at_ t w hn hg hc ht).mono fun _ _ ⟨v, h1, h2, h3⟩ => ⟨v, h1, own_terms h2 hn, h3⟩

theorem IsRTerms.below {w w' : World} {v : Value} {n : Nat} {t : Nat → Tm} (h : IsRTerms w v n t) (hb : Below w.heap.size w w') : IsRTerms w' v n t := by
  obtain ⟨hn, h | ⟨g, off, c, hv, hg, hc, ht⟩⟩ := h
  · exact ⟨hn, .inl h⟩
  · refine ⟨hn, .inr ⟨g, off, c, hv, Nat.lt_of_lt_of_le hg hb.size, hc, fun j hj => ?_⟩⟩
    obtain ⟨a, b, c⟩ := ht j hj
    exact ⟨(hb.cell (p := ⟨g, _, none⟩) hg).trans a, (hb.cell (p := ⟨g, _, none⟩) hg).trans b, (hb.cell (p := ⟨g, _, none⟩) hg).trans c⟩

end Go.Proofs.YtfiipfcdddaceaaGreatDoor
