import Derived.Test.YtfiipfcdddaceaaGreatDoorCn
namespace Go.Proofs.YtfiipfcdddaceaaGreatDoor
open Go.RowKit Go.Sort Go.Shelf

/-- A list of atoms that lies in memory, from block B on. -/
def Atoms (B : Nat) (w : World) (v : Value) (l : List Atm) : Prop :=
  l.length ≤ 1073741824 ∧ ((v = .slice none 0 0 ∧ l = []) ∨ ∃ g c, v = .slice (some ⟨g, 0, none⟩) l.length c ∧ B ≤ g ∧ g < w.heap.size ∧ l.length ≤ c ∧
    ∀ i (h : i < l.length), ∃ tp tc, w.cell? ⟨g, i * 2, none⟩ = some (.string l[i].na) ∧ w.cell? ⟨g, i * 2 + 1, none⟩ = some (.slice tp l[i].n tc) ∧ IsTerms w (.slice tp l[i].n tc) l[i].n l[i].t ∧ ∀ a, tp = some a → B ≤ a.block ∧ a.block < w.heap.size)

theorem Atoms.below {B : Nat} {w w' : World} {v : Value} {l : List Atm} (h : Atoms B w v l) (hb : Below w.heap.size w w') : Atoms B w' v l := by
  obtain ⟨hl, h | ⟨g, c, hv, hB, hg, hc, ht⟩⟩ := h
  · exact ⟨hl, .inl h⟩
  · refine ⟨hl, .inr ⟨g, c, hv, hB, Nat.lt_of_lt_of_le hg hb.size, hc, fun i hi => ?_⟩⟩
    obtain ⟨tp, tc, h1, h2, h3, h4⟩ := ht i hi
    exact ⟨tp, tc, (hb.cell (p := ⟨g, _, none⟩) hg).trans h1, (hb.cell (p := ⟨g, _, none⟩) hg).trans h2, h3.below hb, fun a ha => ⟨(h4 a ha).1, Nat.lt_of_lt_of_le (h4 a ha).2 hb.size⟩⟩
theorem Atoms.mono {B B' : Nat} {w : World} {v : Value} {l : List Atm} (h : Atoms B w v l) (hB : B' ≤ B) : Atoms B' w v l := by
  obtain ⟨hl, h | ⟨g, c, hv, hg0, hg, hc, ht⟩⟩ := h
  · exact ⟨hl, .inl h⟩
  · refine ⟨hl, .inr ⟨g, c, hv, by omega, hg, hc, fun i hi => ?_⟩⟩
    obtain ⟨tp, tc, h1, h2, h3, h4⟩ := ht i hi
    exact ⟨tp, tc, h1, h2, h3, fun a ha => ⟨Nat.le_trans hB (h4 a ha).1, (h4 a ha).2⟩⟩

/-- One element of a row that is sorted. -/
structure El (w0 : World) where
  na : ByteArray
  tp : Option Addr
  n : Nat
  tc : Nat
  t : Nat → Tm
  ok : IsTerms w0 (.slice tp n tc) n t
abbrev elOf (w0 : World) : Inhabited (El w0) := ⟨⟨⟨#[]⟩, none, 0, 0, fun _ => ⟨0, 0, ⟨#[]⟩⟩, ⟨by omega, .inl ⟨none, 0, rfl, rfl⟩⟩⟩⟩
abbrev twoE (w0 : World) : Two (El w0) := ⟨El.na, El.tp, El.n, El.tc⟩
def El.atm {w0 : World} (e : El w0) : Atm := ⟨e.na, e.n, e.t⟩
def cfE {w0 : World} (x y : El w0) : Int := cmpX x.atm y.atm
theorem cfE_cmp (w0 : World) : Cmp (cfE (w0 := w0)) := on_cmp cmpX_cmp El.atm

theorem below_sorted {w0 w : World} [Inhabited (El w0)] {blk m : Nat} {dk : Array (El w0)} {os : Array Obj} {B : Nat} (hB : B ≤ blk) (hw : B ≤ w.heap.size) : Below B w (sortWorldK (enc2 (twoE w0)) 2 w blk 0 m dk os) := by
  refine ⟨rfl, rfl, rfl, ?_, fun k hk => ?_⟩
  · exact size_sortWorldK_c (enc2 (twoE w0)) 2 w blk 0 m dk os
  · unfold sortWorldK putRowK putRow mapBlock
    simp only [grow, Sort.ahead]
    rw [Array.getElem?_append, if_pos (by rw [Array.size_modify]; omega), Array.getElem?_modify, if_neg (by omega)]

theorem cmpLays_z (w0 w : World) [Inhabited (El w0)] (hb : Below w0.heap.size w0 w) (blk size : Nat) (hblk : w0.heap.size ≤ blk) : CmpLays Tryz.prog 22 #[] (enc2 (twoE w0)) 2 cfE blk 0 size w := by
  intro m os dk _ x y
  have hB : Below w0.heap.size w0 (sortWorldK (enc2 (twoE w0)) 2 w blk 0 m dk os) := hb.trans (below_sorted hblk hb.size)
  have h := order_gr x.na y.na (.slice x.tp x.n x.tc) (.slice y.tp y.n y.tc) x.n y.n x.t y.t _ (x.ok.below hB) (y.ok.below hB)
  exact h

set_option maxRecDepth 100000 in
set_option maxHeartbeats 2000000 in
theorem sort_any (w0 w : World) [Inhabited (El w0)] (hb : Below w0.heap.size w0 w) (blk cap : Nat) (d : Array (El w0)) (hblk : w0.heap.size ≤ blk) (hlt : blk < w.heap.size) (hH : HoldsK (enc2 (twoE w0)) 2 w blk 0 d) (hsz : d.size < 1099511627776) :
    Calls Tryz.prog 120 #[.slice (some ⟨blk, 0, none⟩) d.size cap, .func (.func 22) #[] #[]] w fun e w' => e = .returned (.tuple #[]) ∧ ∃ d', (PermIn 0 d.size d d' ∧ SortedIn (ltOf cfE) 0 d.size d') ∧ SWK (enc2 (twoE w0)) 2 w blk 0 d' w' := by
  have HC := hide (stable_any cfE (cfE_cmp w0).swo blk cap d w (cmpLays_z w0 w hb blk d.size hblk) ⟨fun _ => rfl, fun x v hv => by simp [enc2] at hv; rcases hv with rfl | rfl <;> rfl, hH, hlt⟩ hsz)
  go_enter Tryz.func120, Tryz.ntmps120
  go_wp2_with (go_at_call 142; refine HC.out.mono ?_; rintro e w' ⟨rfl, d1, H1, S1⟩)
  go_end0
  exact ⟨rfl, d1, H1, S1⟩

set_option maxRecDepth 100000 in
set_option maxHeartbeats 2000000 in
theorem ins_none (p : Option Addr) (cap : Nat) (w : World) : Calls Tryz.prog 155 #[.slice p 0 cap, .int .i64 0, .int .i64 0, .func (.func 22) #[] #[]] w fun e w' => e = .returned (.tuple #[]) ∧ w' = w := by
  go_enter Tryz.func155, Tryz.ntmps155
  go_wp2_with fail
  go_loop [8] (fun i => i = .int .i64 1) (fun _ => 0)
  case atStart => rfl
  case round =>
    subst hrel
    go_wp2_with fail
    go_end0
    exact ⟨rfl, rfl⟩
set_option maxRecDepth 100000 in
set_option maxHeartbeats 2000000 in
theorem stable_none (p : Option Addr) (cap : Nat) (w : World) : Calls Tryz.prog 142 #[.slice p 0 cap, .int .i64 0, .func (.func 22) #[] #[]] w fun e w' => e = .returned (.tuple #[]) ∧ w' = w := by
  have HC := hide (ins_none p cap w)
  go_enter Tryz.func142, Tryz.ntmps142
  go_wp2_with fail
  go_loop [7, 8] (fun i j => i = .int .i64 0 ∧ j = .int .i64 20) (fun _ _ => 0)
  case atStart => exact ⟨rfl, rfl⟩
  case round =>
    obtain ⟨rfl, rfl⟩ := hrel
    go_wp2_with (go_at_call 155; refine HC.out.mono ?_; rintro e w' ⟨rfl, rfl⟩)
    go_loop [6] (fun i => i = .int .i64 20) (fun _ => 0)
    case atStart => rfl
    case round =>
      subst hrel
      go_wp2_with fail
      go_end0
      exact ⟨rfl, rfl⟩
set_option maxRecDepth 100000 in
set_option maxHeartbeats 2000000 in
theorem sort_none (p : Option Addr) (cap : Nat) (w : World) : Calls Tryz.prog 120 #[.slice p 0 cap, .func (.func 22) #[] #[]] w fun e w' => e = .returned (.tuple #[]) ∧ w' = w := by
  have HC := hide (stable_none p cap w)
  go_enter Tryz.func120, Tryz.ntmps120
  go_wp2_with (go_at_call 142; refine HC.out.mono ?_; rintro e w' ⟨rfl, rfl⟩)
  go_end0
  exact ⟨rfl, rfl⟩
end Go.Proofs.YtfiipfcdddaceaaGreatDoor
