import Derived.Test.YtfiipfcdddaceaaGreatDoorOa
import Derived.BigQuiet
namespace Go.Proofs.YtfiipfcdddaceaaGreatDoor
open Go.RowKit

theorem ints_any (a b : Int) (w : World) : Calls Tryz.prog 71 #[.int .i64 a, .int .i64 b] w fun e w' => e = .returned (.int .i64 (Lib.compareInt a b)) ∧ w' = w := by
  by_cases h1 : a < b
  · have e : Lib.compareInt a b = -1 := by simp [Lib.compareInt, h1]
    rw [e]
    go_enter Tryz.func71, Tryz.ntmps71
    go_wp2
    go_ret
    exact ⟨rfl, rfl⟩
  · by_cases h2 : b < a
    · have e : Lib.compareInt a b = 1 := by simp [Lib.compareInt, h1, h2]
      rw [e]
      go_enter Tryz.func71, Tryz.ntmps71
      go_wp2
      go_ret
      exact ⟨rfl, rfl⟩
    · have e : Lib.compareInt a b = 0 := by simp [Lib.compareInt, h1, h2]
      rw [e]
      go_enter Tryz.func71, Tryz.ntmps71
      go_wp2
      go_ret
      exact ⟨rfl, rfl⟩

/-- Two texts whose first k bytes are the same. -/
def Alike (a b : ByteArray) (k : Nat) : Prop := ∀ j (h : j < k) (ha : j < a.size) (hb : j < b.size), a[j] = b[j]

theorem ba_list (a : ByteArray) (k : Nat) (h : k < a.size) : a.data.toList[k]? = some a[k] := by
  rw [List.getElem?_eq_getElem (by simpa using h)]
  rfl

theorem cmpL_ne : ∀ (x y : List UInt8) (k : Nat) (c d : UInt8), (∀ j, j < k → x[j]? = y[j]?) → x[k]? = some c → y[k]? = some d → c ≠ d → (if Op.bytesLess x y then (-1 : Int) else if x == y then 0 else 1) = Lib.compareInt c.toNat d.toNat
  | [], _, k, c, d, _, h, _, _ => by simp at h
  | _ :: _, [], k, c, d, _, _, h, _ => by simp at h
  | p :: x, q :: y, 0, c, d, _, h1, h2, hn => by
    simp at h1 h2
    subst h1 h2
    have hn' : ¬ p.toNat = q.toNat := fun e => hn (UInt8.toNat_inj.1 e)
    rw [bl_eq]
    by_cases h : p < q
    · have h' : p.toNat < q.toNat := h
      have : (p :: x) < (q :: y) := List.Lex.rel h
      simp [this, Lib.compareInt, h']
    · have h' : ¬ p.toNat < q.toNat := h
      have : ¬ (p :: x) < (q :: y) := fun e => by
        rcases List.cons_lt_cons_iff.1 e with e | ⟨e, _⟩
        · exact h e
        · exact hn e
      have h2 : q.toNat < p.toNat := by omega
      simp [this, Lib.compareInt, h', h2, hn]
  | p :: x, q :: y, k + 1, c, d, h, h1, h2, hn => by
    have e0 := h 0 (by omega)
    simp at e0
    subst e0
    have := cmpL_ne x y k c d (fun j hj => by simpa using h (j + 1) (by omega)) (by simpa using h1) (by simpa using h2) hn
    rw [← this, bl_eq, bl_eq]
    simp

theorem cmpL_all : ∀ (x y : List UInt8), (∀ j, j < x.length → j < y.length → x[j]? = y[j]?) → (if Op.bytesLess x y then (-1 : Int) else if x == y then 0 else 1) = Lib.compareInt x.length y.length
  | [], [], _ => by rfl
  | [], q :: y, _ => by
    rw [bl_eq]
    simp [Lib.compareInt]
  | p :: x, [], _ => by
    rw [bl_eq]
    simp [Lib.compareInt]
    omega
  | p :: x, q :: y, h => by
    have e0 := h 0 (by simp) (by simp)
    simp at e0
    subst e0
    have := cmpL_all x y (fun j hj hk => by simpa using h (j + 1) (by simp; omega) (by simp; omega))
    have e : Lib.compareInt ((p :: x).length : Int) ((p :: y).length : Int) = Lib.compareInt x.length y.length := by
      simp [Lib.compareInt]
    rw [e, ← this, bl_eq, bl_eq]
    simp

theorem cmpS_ne (a b : ByteArray) (k : Nat) (h : Alike a b k) (ha : k < a.size) (hb : k < b.size) (hn : a[k] ≠ b[k]) : cmpS a b = Lib.compareInt (a[k].toNat : Int) (b[k].toNat : Int) := by
  unfold cmpS
  rw [ByteArray.toList_eq, ByteArray.toList_eq]
  refine cmpL_ne _ _ k _ _ (fun j hj => ?_) (ba_list a k ha) (ba_list b k hb) hn
  rw [ba_list a j (by omega), ba_list b j (by omega), h j hj (by omega) (by omega)]
theorem cmpS_all (a b : ByteArray) (k : Nat) (h : Alike a b k) (hk : a.size ≤ k ∨ b.size ≤ k) : cmpS a b = Lib.compareInt (a.size : Int) (b.size : Int) := by
  unfold cmpS
  rw [ByteArray.toList_eq, ByteArray.toList_eq]
  have ea : a.data.toList.length = a.size := by simp
  have eb : b.data.toList.length = b.size := by simp
  rw [cmpL_all _ _ (fun j hj hj' => by rw [ba_list a j (by omega), ba_list b j (by omega), h j (by omega) (by omega) (by omega)]), ea, eb]

theorem below_drewN {m : Nat} {w w' : World} (h : Below m w w') (n : Nat) : Below m w (w'.drewN n) := by
  exact ⟨h.os, h.tape, h.output, h.size, h.block⟩

theorem wrap_byte (c : UInt8) : IntKind.i64.wrap (c.toNat : Int) = (c.toNat : Int) := by
  have := c.toNat_lt
  exact IntWalk.i64_in _ ⟨by omega, by omega⟩

set_option maxHeartbeats 2000000 in
theorem words_any (a b : ByteArray) (w : World) (ha : a.size ≤ 1099511627776) : Calls Tryz.prog 70 #[.string a, .string b] w fun e w' => e = .returned (.int .i64 (cmpS a b)) ∧ Below w.heap.size w w' := by
  have HI := hide (fun x y w => ints_any x y w)
  go_enter Tryz.func70, Tryz.ntmps70
  go_wp2_with fail
  go_loopw [5] (fun i wr => ∃ k : Nat, k ≤ a.size ∧ i = .int .i64 k ∧ Alike a b k ∧ Below w.heap.size w wr) (fun i _ => a.size - (intOf i).toNat)
  case atStart => exact ⟨0, by omega, rfl, fun j h => absurd h (Nat.not_lt_zero j), Below.refl _ _⟩
  case round =>
    obtain ⟨k, hk, rfl, hal, hbw⟩ := hrel
    have HA := hide hal
    have HW := hide hbw
    clear hal hbw
    by_cases h1 : k < a.size
    · by_cases h2 : k < b.size
      · cases h3 : ((a[k].toNat : Int) != (b[k].toNat : Int))
        · go_wp2_with fail
          go_quiet (fail)
          go_wp2_with fail
          refine ⟨⟨k + 1, by omega, by go_num, fun j hj ja jb => ?_, below_drewN HW.out _⟩, by simp [intOf]; omega⟩
          by_cases hjk : j < k
          · exact HA.out j hjk ja jb
          · obtain rfl : j = k := by omega
            simp at h3
            exact UInt8.toNat_inj.1 (by omega)
        · have E : Hid (cmpS a b = Lib.compareInt (IntKind.i64.wrap (a[k].toNat : Int)) (IntKind.i64.wrap (b[k].toNat : Int))) := by
            show cmpS a b = _
            rw [wrap_byte, wrap_byte]
            exact cmpS_ne a b k HA.out h1 h2 (fun e => by rw [e] at h3; simp at h3)
          go_wp2_with fail
          go_quiet (fail)
          go_wp2_with fail
          go_region_with (go_at_call 71; refine (HI.out _ _ _).mono ?_; rintro x w2 ⟨rfl, rfl⟩)
          all_goals
            go_wp2_with fail
            go_ret
            exact ⟨by rw [E.out]; rfl, (below_drewN HW.out _).drew⟩
      · have E := hide (cmpS_all a b k HA.out (.inr (by omega)))
        go_wp2_with fail
        refine (HI.out _ _ _).mono ?_
        rintro x w1 ⟨rfl, rfl⟩
        go_wp2_with fail
        go_ret
        exact ⟨by rw [E.out]; rfl, HW.out⟩
    · have E := hide (cmpS_all a b k HA.out (.inl (by omega)))
      go_wp2_with fail
      refine (HI.out _ _ _).mono ?_
      rintro x w1 ⟨rfl, rfl⟩
      go_wp2_with fail
      go_ret
      exact ⟨by rw [E.out]; rfl, HW.out⟩
end Go.Proofs.YtfiipfcdddaceaaGreatDoor

namespace Go.Proofs.YtfiipfcdddaceaaGreatDoor
open Go.RowKit

set_option maxHeartbeats 1000000 in
theorem rterms_any (a b : Tm) (p q : Int) (w : World) (ha : a.text.size ≤ 1099511627776) : Calls Tryz.prog 72 #[.agg #[.int .i64 a.kind, .int .i64 a.num, .string a.text, .int .i64 p], .agg #[.int .i64 b.kind, .int .i64 b.num, .string b.text, .int .i64 q]] w fun e w' => e = .returned (.int .i64 (cmpT a b)) ∧ Below w.heap.size w w' := by
  obtain ⟨k1, n1, x1⟩ := a
  obtain ⟨k2, n2, x2⟩ := b
  have HI := hide (fun x y w => ints_any x y w)
  have HS := hide (fun y w => words_any x1 y w ha)
  clear ha
  cases hk : (k1 != k2)
  · cases h1 : (k1 == 1)
    · have e : cmpT ⟨k1, n1, x1⟩ ⟨k2, n2, x2⟩ = cmpS x1 x2 := by
        have a : k1 = k2 := by simpa using hk
        have b : ¬ k1 = 1 := by simpa using h1
        subst a
        simp [cmpT, b]
      rw [e]
      go_enter Tryz.func72, Tryz.ntmps72
      go_wp2_with fail
      refine (HS.out _ _).mono ?_
      rintro x w1 ⟨rfl, hb1⟩
      have HB1 := hide hb1
      clear hb1
      go_wp2_with fail
      go_ret
      exact ⟨rfl, (two_alloc _ _ _).trans (HB1.out.mono (by simp; omega))⟩
    · have e : cmpT ⟨k1, n1, x1⟩ ⟨k2, n2, x2⟩ = Lib.compareInt n1 n2 := by
        have a : k1 = k2 := by simpa using hk
        have b : k1 = 1 := by simpa using h1
        subst a
        simp [cmpT, b]
      rw [e]
      go_enter Tryz.func72, Tryz.ntmps72
      go_wp2_with fail
      refine (HI.out _ _ _).mono ?_
      rintro x w1 ⟨rfl, rfl⟩
      go_wp2_with fail
      go_ret
      exact ⟨rfl, two_alloc _ _ _⟩
  · have e : cmpT ⟨k1, n1, x1⟩ ⟨k2, n2, x2⟩ = Lib.compareInt k1 k2 := by
      have a : ¬ k1 = k2 := by simpa using hk
      simp [cmpT, a]
    rw [e]
    go_enter Tryz.func72, Tryz.ntmps72
    go_wp2_with fail
    refine (HI.out _ _ _).mono ?_
    rintro x w1 ⟨rfl, rfl⟩
    go_wp2_with fail
    go_ret
    exact ⟨rfl, two_alloc _ _ _⟩

/-- n terms of the document's, each with its place. -/
def R4 (w : World) (g off n : Nat) (t : Nat → Tm) (p : Nat → Int) : Prop :=
  ∀ j, j < n → w.cell? ⟨g, off + j * 4, none⟩ = some (.int .i64 (t j).kind) ∧ w.cell? ⟨g, off + j * 4 + 1, none⟩ = some (.int .i64 (t j).num) ∧ w.cell? ⟨g, off + j * 4 + 2, none⟩ = some (.string (t j).text) ∧ w.cell? ⟨g, off + j * 4 + 3, none⟩ = some (.int .i64 (p j))
def IsR4 (w : World) (v : Value) (n : Nat) (t : Nat → Tm) (p : Nat → Int) : Prop :=
  n ≤ 1099511627776 ∧ ((∃ a c, v = .slice a 0 c ∧ n = 0) ∨ ∃ g off c, v = .slice (some ⟨g, off, none⟩) n c ∧ g < w.heap.size ∧ n ≤ c ∧ R4 w g off n t p)
theorem IsR4.plain {w : World} {v : Value} {n : Nat} {t : Nat → Tm} {p : Nat → Int} (h : IsR4 w v n t p) : IsRTerms w v n t := by
  obtain ⟨hn, h | ⟨g, off, c, hv, hg, hc, ht⟩⟩ := h
  · exact ⟨hn, .inl h⟩
  · exact ⟨hn, .inr ⟨g, off, c, hv, hg, hc, fun j hj => ⟨(ht j hj).1, (ht j hj).2.1, (ht j hj).2.2.1⟩⟩⟩
theorem IsR4.below {w w' : World} {v : Value} {n : Nat} {t : Nat → Tm} {p : Nat → Int} (h : IsR4 w v n t p) (hb : Below w.heap.size w w') : IsR4 w' v n t p := by
  obtain ⟨hn, h | ⟨g, off, c, hv, hg, hc, ht⟩⟩ := h
  · exact ⟨hn, .inl h⟩
  · refine ⟨hn, .inr ⟨g, off, c, hv, Nat.lt_of_lt_of_le hg hb.size, hc, fun j hj => ?_⟩⟩
    obtain ⟨a, b, c, d⟩ := ht j hj
    exact ⟨(hb.cell (p := ⟨g, _, none⟩) hg).trans a, (hb.cell (p := ⟨g, _, none⟩) hg).trans b, (hb.cell (p := ⟨g, _, none⟩) hg).trans c, (hb.cell (p := ⟨g, _, none⟩) hg).trans d⟩
theorem IsR4.shape {w : World} {v : Value} {n : Nat} {t : Nat → Tm} {p : Nat → Int} (h : IsR4 w v n t p) : ∃ a c, v = .slice a n c := by
  obtain ⟨_, ⟨a, c, hv, h0⟩ | ⟨g, off, c, hv, _⟩⟩ := h
  · subst h0; exact ⟨a, c, hv⟩
  · exact ⟨_, _, hv⟩
end Go.Proofs.YtfiipfcdddaceaaGreatDoor

namespace Go.Proofs.YtfiipfcdddaceaaGreatDoor
open Go.RowKit

theorem firstN_app (l r : List Int) : firstN (l ++ r) = if firstN l = 0 then firstN r else firstN l := by
  induction l with
  | nil => simp [firstN]
  | cons x l ih =>
    by_cases hx : x = 0
    · subst hx
      have e : ∀ l : List Int, firstN (0 :: l) = firstN l := fun l => by simp [firstN]
      rw [List.cons_append, e, e]
      exact ih
    · have e : ∀ l : List Int, firstN (x :: l) = x := fun l => by simp [firstN, hx]
      rw [List.cons_append, e, e, if_neg hx]
theorem cmpTs_succ (ta tb : Nat → Tm) (k : Nat) : cmpTs ta tb (k + 1) = if cmpTs ta tb k = 0 then cmpT (ta k) (tb k) else cmpTs ta tb k := by
  unfold cmpTs
  rw [List.range_succ, List.map_append, firstN_app]
  have : firstN (List.map (fun j => cmpT (ta j) (tb j)) [k]) = cmpT (ta k) (tb k) := by
    simp only [List.map_cons, List.map_nil, firstN, List.find?_cons]
    by_cases h : cmpT (ta k) (tb k) = 0
    · simp [h]
    · have : (cmpT (ta k) (tb k) != 0) = true := by simpa using h
      rw [this]; rfl
  rw [this]
theorem cmpTs_more (ta tb : Nat → Tm) (k n : Nat) (h : k ≤ n) (h0 : cmpTs ta tb k ≠ 0) : cmpTs ta tb n = cmpTs ta tb k := by
  induction n with
  | zero => obtain rfl : k = 0 := by omega
            rfl
  | succ n ih =>
    by_cases hk : k = n + 1
    · rw [hk]
    · rw [cmpTs_succ, ih (by omega), if_neg h0]

/-- How far two atoms part by their names and how many terms they have. -/
def headA (na nb : ByteArray) (n m : Nat) : Int := if cmpS na nb = 0 then Lib.compareInt n m else cmpS na nb
/-- How far they part by k terms, too. -/
def uptoA (na nb : ByteArray) (n m : Nat) (ta tb : Nat → Tm) (k : Nat) : Int := if headA na nb n m = 0 then cmpTs ta tb k else headA na nb n m
theorem uptoA_zero (na nb : ByteArray) (n m : Nat) (ta tb : Nat → Tm) : uptoA na nb n m ta tb 0 = headA na nb n m := by
  unfold uptoA
  split
  · rename_i h; rw [h]; rfl
  · rfl
theorem uptoA_all (na nb : ByteArray) (n m : Nat) (ta tb : Nat → Tm) : uptoA na nb n m ta tb n = cmpA na nb n m ta tb := by
  unfold uptoA headA cmpA
  by_cases h : cmpS na nb = 0
  · simp only [h, if_true]
  · simp only [h, if_false]
theorem uptoA_more (na nb : ByteArray) (n m : Nat) (ta tb : Nat → Tm) (k : Nat) (hk : k ≤ n) (h : uptoA na nb n m ta tb k ≠ 0) : uptoA na nb n m ta tb k = cmpA na nb n m ta tb := by
  rw [← uptoA_all]
  unfold uptoA at *
  split at h
  · rename_i h0; rw [if_pos h0, if_pos h0, cmpTs_more _ _ _ _ hk h]
  · rename_i h0; rw [if_neg h0, if_neg h0]
theorem uptoA_step (na nb : ByteArray) (n m : Nat) (ta tb : Nat → Tm) (k : Nat) (h : uptoA na nb n m ta tb k = 0) : uptoA na nb n m ta tb (k + 1) = cmpT (ta k) (tb k) ∧ n = m := by
  unfold uptoA at h ⊢
  by_cases h0 : headA na nb n m = 0
  · rw [if_pos h0] at h ⊢
    rw [cmpTs_succ, if_pos h]
    refine ⟨rfl, ?_⟩
    unfold headA at h0
    split at h0
    · have := cmpI_eq _ _ h0; omega
    · rename_i h1; exact absurd h0 h1
  · rw [if_neg h0] at h; exact absurd h h0

/-- The terms of a slice that has some. -/
def Some4 (w : World) (a : Option Addr) (n c : Nat) (t : Nat → Tm) (p : Nat → Int) : Prop := 0 < n → ∃ g off, a = some ⟨g, off, none⟩ ∧ g < w.heap.size ∧ n ≤ c ∧ R4 w g off n t p
theorem IsR4.some {w : World} {a : Option Addr} {n c : Nat} {t : Nat → Tm} {p : Nat → Int} (h : IsR4 w (.slice a n c) n t p) : Some4 w a n c t p := by
  intro hn
  obtain ⟨_, ⟨a, c, hv, h0⟩ | ⟨g, off, c', hv, hg, hc, ht⟩⟩ := h
  · omega
  · cases hv
    exact ⟨g, off, rfl, hg, hc, ht⟩

abbrev TwoR (w : World) (na nb : ByteArray) (aa ab : Option Addr) (n m ca cb : Nat) (pa pb : Int) : World := (w.alloc (.cells #[.string na, .slice aa n ca, .int .i64 pa] 44)).alloc (.cells #[.string nb, .slice ab m cb, .int .i64 pb] 44)

set_option maxRecDepth 100000 in
set_option maxHeartbeats 8000000 in
theorem rorder_any (na nb : ByteArray) (aa ab : Option Addr) (n m ca cb : Nat) (pa pb : Int) (ta tb : Nat → Tm) (qa qb : Nat → Int) (w : World) (hn : n ≤ 1099511627776) (hna : na.size ≤ 1099511627776) (hts : ∀ j, j < n → (ta j).text.size ≤ 1099511627776) (ha : Some4 w aa n ca ta qa) (hb : Some4 w ab m cb tb qb) :
    Calls Tryz.prog 23 #[.agg #[.string na, .slice aa n ca, .int .i64 pa], .agg #[.string nb, .slice ab m cb, .int .i64 pb]] w fun e w' => e = .returned (.int .i64 (cmpA na nb n m ta tb)) ∧ Below w.heap.size w w' := by
  have HI := hide (ints_any n m)
  have HS := hide (words_any na nb (TwoR w na nb aa ab n m ca cb pa pb) hna)
  have HA := hide ha
  have HB := hide hb
  have HTS := hide hts
  clear ha hb hts hna
  have HH : Hid (headA na nb n m = if cmpS na nb = 0 then Lib.compareInt n m else cmpS na nb) := rfl
  go_enter Tryz.func23, Tryz.ntmps23
  go_wp2_with fail
  refine HS.out.mono ?_
  rintro x w1 ⟨rfl, hb1⟩
  have HW1 : Hid (Below (w.heap.size + 2) (TwoR w na nb aa ab n m ca cb pa pb) w1) := hb1.mono (by simp)
  have a1 : w1.cell? ⟨w.heap.size, 1, none⟩ = some (.slice aa n ca) := (HW1.out.cell (p := ⟨w.heap.size, 1, none⟩) (by show w.heap.size < _; omega)).trans (by rw [cell_alloc_old _ _ _ _ (by simp)]; simp)
  have b1 : w1.cell? ⟨w.heap.size + 1, 1, none⟩ = some (.slice ab m cb) := (HW1.out.cell (p := ⟨w.heap.size + 1, 1, none⟩) (by show w.heap.size + 1 < _; omega)).trans (by simp)
  have hz1 : w.heap.size + 1 < w1.heap.size := by have := HW1.out.size; simp at this; omega
  clear hb1
  cases hc : (cmpS na nb == 0)
  · have hne : cmpS na nb ≠ 0 := by simpa using hc
    have E : Hid (cmpA na nb n m ta tb = cmpS na nb) := by
      show cmpA na nb n m ta tb = cmpS na nb
      unfold cmpA
      rw [if_neg hne]
    clear hne
    go_wp2_with fail
    go_loopw [5, 6] (fun c i wr => c = .int .i64 (cmpS na nb) ∧ i = .int .i64 0 ∧ wr = w1) (fun _ _ _ => 0)
    case atStart => exact ⟨rfl, rfl, rfl⟩
    case round =>
      obtain ⟨rfl, rfl, rfl⟩ := hrel
      by_cases hlt : 0 < n
      · have hlt' : (0 : Int) < (n : Int) := by omega
        go_wp2_with fail
        go_ret
        exact ⟨by rw [E.out]; rfl, (two_alloc w _ _).trans (HW1.out.mono (by omega))⟩
      · have hlt' : ¬ (0 : Int) < (n : Int) := by omega
        go_wp2_with fail
        go_ret
        exact ⟨by rw [E.out]; rfl, (two_alloc w _ _).trans (HW1.out.mono (by omega))⟩
  · have h0 : headA na nb n m = Lib.compareInt n m := by
      unfold headA
      rw [if_pos (by simpa using hc)]
    have E0 := hide h0
    clear h0
    go_wp2_with fail
    refine (HI.out _).mono ?_
    rintro x w2 ⟨rfl, rfl⟩
    go_wp2_with fail
    go_loopw [5, 6] (fun c i wr => ∃ k : Nat, k ≤ n ∧ c = .int .i64 (uptoA na nb n m ta tb k) ∧ i = .int .i64 k ∧ Below (w.heap.size + 2) (TwoR w na nb aa ab n m ca cb pa pb) wr) (fun _ i _ => n - (intOf i).toNat)
    case atStart => exact ⟨0, by omega, by rw [uptoA_zero, E0.out], rfl, HW1.out⟩
    case round =>
      obtain ⟨k, hk, rfl, rfl, hbw⟩ := hrel
      clear a1 b1 hz1
      have a1 : wr.cell? ⟨w.heap.size, 1, none⟩ = some (.slice aa n ca) := (hbw.cell (p := ⟨w.heap.size, 1, none⟩) (by show w.heap.size < _; omega)).trans (by rw [cell_alloc_old _ _ _ _ (by simp)]; simp)
      have b1 : wr.cell? ⟨w.heap.size + 1, 1, none⟩ = some (.slice ab m cb) := (hbw.cell (p := ⟨w.heap.size + 1, 1, none⟩) (by show w.heap.size + 1 < _; omega)).trans (by simp)
      have hzz : w.heap.size + 1 < wr.heap.size := by have := hbw.size; simp at this; omega
      have HW := hide hbw
      have HW0 : Hid (Below w.heap.size w wr) := (two_alloc w _ _).trans (hbw.mono (by omega))
      clear hbw
      by_cases hlt : k < n
      · cases hq : (uptoA na nb n m ta tb k == 0)
        · have E1 := hide (uptoA_more na nb n m ta tb k hk (by simpa using hq))
          go_wp2_with fail
          go_ret
          exact ⟨by rw [← E1.out]; rfl, HW0.out⟩
        · obtain ⟨e1, e2⟩ := uptoA_step na nb n m ta tb k (by simpa using hq)
          have E1 := hide e1
          clear e1
          subst e2
          obtain ⟨ga, oa, rfl, hga, hca, hta⟩ := HA.out (by omega)
          obtain ⟨gb, ob, rfl, hgb, hcb, htb⟩ := HB.out (by omega)
          obtain ⟨c0, c1, c2, c3⟩ := hta k hlt
          obtain ⟨f0, f1, f2, f3⟩ := htb k hlt
          have d0 := (HW0.out.cell (p := ⟨ga, _, none⟩) hga).trans c0
          have d1 := (HW0.out.cell (p := ⟨ga, _, none⟩) hga).trans c1
          have d2 := (HW0.out.cell (p := ⟨ga, _, none⟩) hga).trans c2
          have d3 := (HW0.out.cell (p := ⟨ga, _, none⟩) hga).trans c3
          have e0 := (HW0.out.cell (p := ⟨gb, _, none⟩) hgb).trans f0
          have e1 := (HW0.out.cell (p := ⟨gb, _, none⟩) hgb).trans f1
          have e2 := (HW0.out.cell (p := ⟨gb, _, none⟩) hgb).trans f2
          have e3 := (HW0.out.cell (p := ⟨gb, _, none⟩) hgb).trans f3
          have HK := hide (fun w => rterms_any (ta k) (tb k) (qa k) (qb k) w (HTS.out k hlt))
          have hgaw : ga < wr.heap.size := by have := HW0.out.size; omega
          have hgbw : gb < wr.heap.size := by have := HW0.out.size; omega
          clear c0 c1 c2 c3 f0 f1 f2 f3 hta htb
          go_upto_region 7 with fail
          go_region_with (go_at_call 72; refine (HK.out _).mono ?_; rintro x w2 ⟨rfl, hb2⟩)
          all_goals
            have HX : Hid (Below (w.heap.size + 2) (TwoR w na nb (some ⟨ga, oa, none⟩) (some ⟨gb, ob, none⟩) n n ca cb pa pb) w2) := HW.out.drew.trans (hb2.mono (by simp; omega))
            clear hb2
            go_wp2_with fail
            refine ⟨⟨k + 1, by omega, by rw [E1.out], by go_num, HX.out⟩, by simp [intOf]; omega⟩
      · obtain rfl : k = n := by omega
        have E1 := hide (uptoA_all na nb k m ta tb)
        go_wp2_with fail
        go_ret
        exact ⟨by rw [← E1.out]; rfl, HW0.out⟩
end Go.Proofs.YtfiipfcdddaceaaGreatDoor

namespace Go.Proofs.YtfiipfcdddaceaaGreatDoor
open Go.RowKit

theorem ba_app (l : List UInt8) (s : ByteArray) : (⟨l.toArray⟩ : ByteArray) ++ s = ⟨(l ++ s.data.toList).toArray⟩ := by
  apply ByteArray.ext
  simp

theorem ba_one (s : ByteArray) (k : Nat) (h : k < s.size) : (s.extract k (k + 1)).data.toList = [s[k]] := by
  have h' : k < s.data.size := h
  rw [ByteArray.data_extract, Array.toList_extract]
  apply List.ext_getElem?
  intro i
  cases i with
  | zero =>
    simp
    rw [Array.getElem?_eq_getElem h']
    rfl
  | succ i => simp; omega

set_option maxRecDepth 100000 in
set_option maxHeartbeats 4000000 in
theorem rquote_any (n : Int) (tx : ByteArray) (p : Int) (w : World) (h2 : tx.size ≤ 1099511627776) :
    Calls Tryz.prog 75 #[.agg #[.int .i64 3, .int .i64 n, .string tx, .int .i64 p]] w fun e w' => e = .returned (.string ⟨(quoteL tx.data.toList).toArray⟩) ∧ Below w.heap.size w w' := by
  have hsl : tx.data.toList.length = tx.size := by simp
  go_enter Tryz.func75, Tryz.ntmps75
  go_wp2_with fail
  go_loopw [3, 4] (fun s i wr => ∃ (k : Nat) (S : ByteArray), k ≤ tx.size ∧ s = .string S ∧ S = ⟨(34 :: (tx.data.toList.take k).flatMap qb).toArray⟩ ∧ i = .int .i64 k ∧ wr = w.alloc (.cells #[.int .i64 3, .int .i64 n, .string tx, .int .i64 p] 92)) (fun _ i _ => tx.size - (intOf i).toNat)
  case atStart => exact ⟨0, _, by omega, rfl, rfl, rfl, rfl⟩
  case round =>
    obtain ⟨k, S, hk, rfl, hS, rfl, rfl⟩ := hrel
    have hSz : S.size ≤ 2 * k + 1 := by
      have h1 := flat_le (tx.data.toList.take k)
      have h2 : (tx.data.toList.take k).length ≤ k := by rw [List.length_take]; omega
      have h3 : S.size = (34 :: (tx.data.toList.take k).flatMap qb).length := by rw [hS]; rfl
      rw [h3, List.length_cons]
      omega
    have HE := hide hS
    clear hS
    by_cases hlt : k < tx.size
    · have HS := hide (flat_snoc tx k hlt)
      cases h1 : ((tx[k].toNat : Int) == 34)
      · cases h2 : ((tx[k].toNat : Int) == 92)
        · cases h3 : ((tx[k].toNat : Int) == 10)
          · have hr : ¬ 9223372036854775807 < S.size + (min (k + 1) tx.size - k) := by omega
            go_wp2_with fail
            refine ⟨⟨k + 1, _, by omega, rfl, ?_, by go_num, trivial⟩, by simp [intOf]; omega⟩
            rw [HS.out, qb_one tx[k] h1 h2 h3, HE.out, ba_app, ba_one tx k hlt]
            rfl
          · have hr : ¬ 9223372036854775807 < S.size + 2 := by omega
            go_wp2_with fail
            refine ⟨⟨k + 1, _, by omega, rfl, ?_, by go_num, trivial⟩, by simp [intOf]; omega⟩
            rw [HS.out, qb_nl tx[k] h3, HE.out, ba_app]
            rfl
        · have hr : ¬ 9223372036854775807 < S.size + 2 := by omega
          have hc : tx[k] = 92 := (byte_is tx[k] 92 (by omega)).1 h2
          go_wp2_with fail
          refine ⟨⟨k + 1, _, by omega, rfl, ?_, by go_num, trivial⟩, by simp [intOf]; omega⟩
          rw [HS.out, qb_two tx[k] (.inr h2), HE.out, ba_app, hc]
          rfl
      · have hr : ¬ 9223372036854775807 < S.size + 2 := by omega
        have hc : tx[k] = 34 := (byte_is tx[k] 34 (by omega)).1 h1
        go_wp2_with fail
        refine ⟨⟨k + 1, _, by omega, rfl, ?_, by go_num, trivial⟩, by simp [intOf]; omega⟩
        rw [HS.out, qb_two tx[k] (.inl h1), HE.out, ba_app, hc]
        rfl
    · obtain rfl : k = tx.size := by omega
      have et : tx.data.toList.take tx.size = tx.data.toList := by rw [← hsl]; exact List.take_length
      have hr : ¬ 9223372036854775807 < S.size + 1 := by omega
      go_wp2_with fail
      go_ret
      refine ⟨?_, (Below.refl _ _).alloc (Nat.le_refl _) _⟩
      rw [HE.out, et, ba_app]
      rfl

def pstr (t : Tm) : ByteArray := ⟨(plainL t).toArray⟩

set_option maxHeartbeats 1000000 in
theorem rshowTerm_any (t : Tm) (p : Int) (w : World) (ht : TmOk t) (hw : Lib.TabIs Tryz.prog w "internal/strconv.uint64pow10" .u64 Lib.pow10Tab) :
    Calls Tryz.prog 75 #[.agg #[.int .i64 t.kind, .int .i64 t.num, .string t.text, .int .i64 p]] w fun e w' => e = .returned (.string (pstr t)) ∧ Below w.heap.size w w' := by
  obtain ⟨k, n, tx⟩ := t
  obtain ⟨h0, h1, h2⟩ := ht
  have HI := hide (fun w h => itoa_any n h0 h1 w h)
  have HQ := hide (fun w => rquote_any n tx p w h2)
  have HT := hide hw
  unfold pstr
  clear hw h0 h1
  cases e1 : (k == 1)
  · cases e3 : (k != 3)
    · obtain rfl : k = 3 := by simpa using e3
      have hp : plainL ⟨3, n, tx⟩ = quoteL tx.data.toList := by simp [plainL]
      rw [hp]
      exact HQ.out _
    · have hp : plainL ⟨k, n, tx⟩ = tx.data.toList := by
        have a : ¬ k = 1 := by simpa using e1
        have b : ¬ k = 3 := by simpa using e3
        simp [plainL, a, b]
      rw [hp]
      go_enter Tryz.func75, Tryz.ntmps75
      go_wp2_with fail
      go_ret
      exact ⟨rfl, (Below.refl _ _).alloc (Nat.le_refl _) _⟩
  · have hp : plainL ⟨k, n, tx⟩ = Lib.itoa n := by
      have a : k = 1 := by simpa using e1
      simp [plainL, a]
    rw [hp]
    go_enter Tryz.func75, Tryz.ntmps75
    go_wp2_with fail
    refine (HI.out _ (Lib.tabIs_alloc HT.out _)).mono ?_
    rintro x w1 ⟨rfl, hb⟩
    have HB := hide hb
    clear hb
    go_wp2_with fail
    go_ret
    exact ⟨rfl, ((Below.refl _ _).alloc (Nat.le_refl _) _).trans (HB.out.mono (by simp))⟩
end Go.Proofs.YtfiipfcdddaceaaGreatDoor
