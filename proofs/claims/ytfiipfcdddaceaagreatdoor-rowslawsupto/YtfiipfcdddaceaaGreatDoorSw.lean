import Derived.Test.YtfiipfcdddaceaaGreatDoorSt
import Derived.Test.YtfiipfcdddaceaaGreatDoorOs
namespace Go.Proofs.YtfiipfcdddaceaaGreatDoor
open Go.RowKit Go.Sort Go.Shelf

/-- What the sort is told of one element: its two cells. -/
structure Two (α : Type) where
  name : α → ByteArray
  tp : α → Option Addr
  tn : α → Nat
  tc : α → Nat
def enc2 {α : Type} (T : Two α) (x : α) : List Value := [.string (T.name x), .slice (T.tp x) (T.tn x) (T.tc x)]

variable {α : Type} [Inhabited α] {T : Two α}

theorem swk_two {w0 W : World} {blk : Nat} {d0 dk : Array α} (S : SWK (enc2 T) 2 w0 blk 0 dk W) (R : RowK (enc2 T) 2 w0 blk 0 d0) (hs : dk.size = d0.size) (i : Nat) (hi : i < dk.size) :
    W.cell? ⟨blk, i * 2, none⟩ = some (.string (T.name dk[i]!)) ∧ W.cell? ⟨blk, i * 2 + 1, none⟩ = some (.slice (T.tp dk[i]!) (T.tn dk[i]!) (T.tc dk[i]!)) ∧
    W.frozen? ⟨blk, i * 2, none⟩ = false ∧ W.frozen? ⟨blk, i * 2 + 1, none⟩ = false := by
  have h := S.holds R.hblk R.hH hs
  have a := HoldsK.cell h hi (c := 0) (by omega)
  have b := HoldsK.cell h hi (c := 1) (by omega)
  simp only [Nat.zero_add, Nat.add_zero, enc2, List.getElem!_cons_zero, List.getElem!_cons_succ] at a b
  exact ⟨a.1, b.1, a.2, b.2⟩

set_option maxHeartbeats 4000000 in
set_option maxRecDepth 1000000 in
theorem swapRange_any (g : Nat) (cb : Array Value) (blk cap a b n : Nat) (d0 d : Array α) (w0 w : World) (R : RowK (enc2 T) 2 w0 blk 0 d0) (hs : d0.size = d.size)
    (S : SWK (enc2 T) 2 w0 blk 0 d w) (hab : a + n ≤ b) (hb : b + n ≤ d.size) (hsz : d.size < 1099511627776) :
    Calls Tryz.prog 176 #[.slice (some ⟨blk, 0, none⟩) d.size cap, .int .i64 a, .int .i64 b, .int .i64 n, .func (.func g) #[] cb] w fun e w' => e = .returned (.tuple #[]) ∧ ∃ d', Swpd a b n d d' ∧ SWK (enc2 T) 2 w0 blk 0 d' w' := by
  have S0 := hide S
  clear S
  go_enter Tryz.func176, Tryz.ntmps176
  go_wp2_with fail
  go_loopw [10] (fun v wr => ∃ i : Nat, ∃ dk : Array α, v = .int .i64 i ∧ i ≤ n ∧ dk.size = d.size ∧ Hid (Swpd a b i d dk) ∧ Hid (SWK (enc2 T) 2 w0 blk 0 dk wr)) (fun v _ => n - (intOf v).toNat)
  case atStart => exact ⟨0, d, rfl, Nat.zero_le _, rfl, Swpd.zero _ _ _, S0.out⟩
  case round =>
    clear S0
    obtain ⟨i, dk, rfl, hi, hds, H1, S1⟩ := hrel
    by_cases hlt : i < n
    · have ea : ((a : Int) + (i : Int)).toNat = a + i := by omega
      have eb : ((b : Int) + (i : Int)).toNat = b + i := by omega
      obtain ⟨x0, x1, xf0, xf1⟩ := swk_two S1.out R (by omega) (a + i) (by omega)
      obtain ⟨y0, y1, yf0, yf1⟩ := swk_two S1.out R (by omega) (b + i) (by omega)
      have S2 : Hid (SWK (enc2 T) 2 w0 blk 0 (swp dk (a + i) (b + i)) ((wr.drew.setCells blk (0 + (a + i) * 2) (enc2 T dk[b + i]!)).setCells blk (0 + (b + i) * 2) (enc2 T dk[a + i]!))) := S1.out.swapped R (a + i) (b + i) (by omega) (by omega)
      clear S1
      go_wp2_with fail
      go_big_region
      clear x0 x1 xf0 xf1 y0 y1 yf0 yf1
      go_wp2_with fail
      refine ⟨⟨i + 1, swp dk (a + i) (b + i), by go_num, by omega, by rw [size_swp]; exact hds, H1.out.step (by omega) (by omega), ?_⟩, by simp [intOf]; omega⟩
      have h := S2.out
      simp only [World.setCells, enc2, Nat.zero_add] at h
      exact h
    · obtain rfl : i = n := by omega
      go_wp2_with fail
      go_end0
      exact ⟨rfl, dk, H1.out, S1.out⟩
end Go.Proofs.YtfiipfcdddaceaaGreatDoor
