import Derived.Test.YtfiipfcdddaceaaGreatDoorQ9Fa
import Derived.BigQuiet
namespace Go.Proofs.YtfiipfcdddaceaaGreatDoor
open Go.RowKit

theorem ints_any (a b : Int) (w : World) : Calls Tryz.prog 71 #[.int .i64 a, .int .i64 b] w fun e w' => e = .returned (.int .i64 (Lib.compareInt a b)) ∧ w' = w := by
  by_cases h1 : a < b
  · have e : Lib.compareInt a b = -1 := by simp [Lib.compareInt, h1]
    rw [e]
    go_enter Tryz.func71, Tryz.ntmps71
    go_wp2
    go_ret
    exact ⟨rfl, rfl⟩
  · by_cases h2 : b < a
    · have e : Lib.compareInt a b = 1 := by simp [Lib.compareInt, h1, h2]
      rw [e]
      go_enter Tryz.func71, Tryz.ntmps71
      go_wp2
      go_ret
      exact ⟨rfl, rfl⟩
    · have e : Lib.compareInt a b = 0 := by simp [Lib.compareInt, h1, h2]
      rw [e]
      go_enter Tryz.func71, Tryz.ntmps71
      go_wp2
      go_ret
      exact ⟨rfl, rfl⟩

/-- Two texts whose first k bytes are the same. -/
def Alike (a b : ByteArray) (k : Nat) : Prop := ∀ j (h : j < k) (ha : j < a.size) (hb : j < b.size), a[j] = b[j]

theorem ba_list (a : ByteArray) (k : Nat) (h : k < a.size) : a.data.toList[k]? = some a[k] := by
  rw [List.getElem?_eq_getElem (by simpa using h)]
  rfl

theorem cmpL_ne : ∀ (x y : List UInt8) (k : Nat) (c d : UInt8), (∀ j, j < k → x[j]? = y[j]?) → x[k]? = some c → y[k]? = some d → c ≠ d → (if Op.bytesLess x y then (-1 : Int) else if x == y then 0 else 1) = Lib.compareInt c.toNat d.toNat
  | [], _, k, c, d, _, h, _, _ => by simp at h
  | _ :: _, [], k, c, d, _, _, h, _ => by simp at h
  | p :: x, q :: y, 0, c, d, _, h1, h2, hn => by
    simp at h1 h2
    subst h1 h2
    have hn' : ¬ p.toNat = q.toNat := fun e => hn (UInt8.toNat_inj.1 e)
    rw [bl_eq]
    by_cases h : p < q
    · have h' : p.toNat < q.toNat := h
      have : (p :: x) < (q :: y) := List.Lex.rel h
      simp [this, Lib.compareInt, h']
    · have h' : ¬ p.toNat < q.toNat := h
      have : ¬ (p :: x) < (q :: y) := fun e => by
        rcases List.cons_lt_cons_iff.1 e with e | ⟨e, _⟩
        · exact h e
        · exact hn e
      have h2 : q.toNat < p.toNat := by omega
      simp [this, Lib.compareInt, h', h2, hn]
  | p :: x, q :: y, k + 1, c, d, h, h1, h2, hn => by
    have e0 := h 0 (by omega)
    simp at e0
    subst e0
    have := cmpL_ne x y k c d (fun j hj => by simpa using h (j + 1) (by omega)) (by simpa using h1) (by simpa using h2) hn
    rw [← this, bl_eq, bl_eq]
    simp

theorem cmpL_all : ∀ (x y : List UInt8), (∀ j, j < x.length → j < y.length → x[j]? = y[j]?) → (if Op.bytesLess x y then (-1 : Int) else if x == y then 0 else 1) = Lib.compareInt x.length y.length
  | [], [], _ => by rfl
  | [], q :: y, _ => by
    rw [bl_eq]
    simp [Lib.compareInt]
  | p :: x, [], _ => by
    rw [bl_eq]
    simp [Lib.compareInt]
    omega
  | p :: x, q :: y, h => by
    have e0 := h 0 (by simp) (by simp)
    simp at e0
    subst e0
    have := cmpL_all x y (fun j hj hk => by simpa using h (j + 1) (by simp; omega) (by simp; omega))
    have e : Lib.compareInt ((p :: x).length : Int) ((p :: y).length : Int) = Lib.compareInt x.length y.length := by
      simp [Lib.compareInt]
    rw [e, ← this, bl_eq, bl_eq]
    simp

theorem cmpS_ne (a b : ByteArray) (k : Nat) (h : Alike a b k) (ha : k < a.size) (hb : k < b.size) (hn : a[k] ≠ b[k]) : cmpS a b = Lib.compareInt (a[k].toNat : Int) (b[k].toNat : Int) := by
  unfold cmpS
  rw [ByteArray.toList_eq, ByteArray.toList_eq]
  refine cmpL_ne _ _ k _ _ (fun j hj => ?_) (ba_list a k ha) (ba_list b k hb) hn
  rw [ba_list a j (by omega), ba_list b j (by omega), h j hj (by omega) (by omega)]
theorem cmpS_all (a b : ByteArray) (k : Nat) (h : Alike a b k) (hk : a.size ≤ k ∨ b.size ≤ k) : cmpS a b = Lib.compareInt (a.size : Int) (b.size : Int) := by
  unfold cmpS
  rw [ByteArray.toList_eq, ByteArray.toList_eq]
  have ea : a.data.toList.length = a.size := by simp
  have eb : b.data.toList.length = b.size := by simp
  rw [cmpL_all _ _ (fun j hj hj' => by rw [ba_list a j (by omega), ba_list b j (by omega), h j (by omega) (by omega) (by omega)]), ea, eb]

theorem below_drewN {m : Nat} {w w' : World} (h : Below m w w') (n : Nat) : Below m w (w'.drewN n) := by
  exact ⟨h.os, h.tape, h.output, h.size, h.block⟩

theorem wrap_byte (c : UInt8) : IntKind.i64.wrap (c.toNat : Int) = (c.toNat : Int) := by
  have := c.toNat_lt
  exact IntWalk.i64_in _ ⟨by omega, by omega⟩

set_option maxHeartbeats 2000000 in
theorem words_any (a b : ByteArray) (w : World) (ha : a.size ≤ 1099511627776) : Calls Tryz.prog 70 #[.string a, .string b] w fun e w' => e = .returned (.int .i64 (cmpS a b)) ∧ Below w.heap.size w w' := by
  have HI := hide (fun x y w => ints_any x y w)
  go_enter Tryz.func70, Tryz.ntmps70
  go_wp2_with fail
  go_loopw [5] (fun i wr => ∃ k : Nat, k ≤ a.size ∧ i = .int .i64 k ∧ Alike a b k ∧ Below w.heap.size w wr) (fun i _ => a.size - (intOf i).toNat)
  case atStart => exact ⟨0, by omega, rfl, fun j h => absurd h (Nat.not_lt_zero j), Below.refl _ _⟩
  case round =>
    obtain ⟨k, hk, rfl, hal, hbw⟩ := hrel
    have HA := hide hal
    have HW := hide hbw
    clear hal hbw
    by_cases h1 : k < a.size
    · by_cases h2 : k < b.size
      · cases h3 : ((a[k].toNat : Int) != (b[k].toNat : Int))
        · go_wp2_with fail
          go_quiet (fail)
          go_wp2_with fail
          refine ⟨⟨k + 1, by omega, by go_num, fun j hj ja jb => ?_, below_drewN HW.out _⟩, by simp [intOf]; omega⟩
          by_cases hjk : j < k
          · exact HA.out j hjk ja jb
          · obtain rfl : j = k := by omega
            simp at h3
            exact UInt8.toNat_inj.1 (by omega)
        · have E : Hid (cmpS a b = Lib.compareInt (IntKind.i64.wrap (a[k].toNat : Int)) (IntKind.i64.wrap (b[k].toNat : Int))) := by
            show cmpS a b = _
            rw [wrap_byte, wrap_byte]
            exact cmpS_ne a b k HA.out h1 h2 (fun e => by rw [e] at h3; simp at h3)
          go_wp2_with fail
          go_quiet (fail)
          go_wp2_with fail
          go_region_with (go_at_call 71; refine (HI.out _ _ _).mono ?_; rintro x w2 ⟨rfl, rfl⟩)
          all_goals
            go_wp2_with fail
            go_ret
            exact ⟨by rw [E.out]; rfl, (below_drewN HW.out _).drew⟩
      · have E := hide (cmpS_all a b k HA.out (.inr (by omega)))
        go_wp2_with fail
        refine (HI.out _ _ _).mono ?_
        rintro x w1 ⟨rfl, rfl⟩
        go_wp2_with fail
        go_ret
        exact ⟨by rw [E.out]; rfl, HW.out⟩
    · have E := hide (cmpS_all a b k HA.out (.inl (by omega)))
      go_wp2_with fail
      refine (HI.out _ _ _).mono ?_
      rintro x w1 ⟨rfl, rfl⟩
      go_wp2_with fail
      go_ret
      exact ⟨by rw [E.out]; rfl, HW.out⟩
end Go.Proofs.YtfiipfcdddaceaaGreatDoor
