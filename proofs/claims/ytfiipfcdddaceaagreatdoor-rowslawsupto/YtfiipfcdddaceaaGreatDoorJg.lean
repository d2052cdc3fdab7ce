import Derived.Test.YtfiipfcdddaceaaGreatDoorOs
namespace Go.Proofs.YtfiipfcdddaceaaGreatDoor
open Go.RowKit

/-- What a comparison is: -1, 0 or 1, turned round the other way, and it goes on over a third one. -/
structure Cmp {α : Type} (f : α → α → Int) : Prop where
  three : ∀ a b, f a b = -1 ∨ f a b = 0 ∨ f a b = 1
  turn : ∀ a b, f a b = - f b a
  refl : ∀ a, f a a = 0
  zero : ∀ a b c, f a b = 0 → f a c = f b c
  less : ∀ a b c, f a b = -1 → f b c = -1 → f a c = -1

theorem cmpI_cmp : Cmp Lib.compareInt := by
  refine ⟨fun a b => ?_, fun a b => ?_, fun a => ?_, fun a b c h => ?_, fun a b c h k => ?_⟩
  all_goals simp only [Lib.compareInt] at *
  · split
    · simp
    · split <;> simp
  · by_cases h1 : a < b
    · have h2 : ¬ b < a := by omega
      simp [h1, h2]
    · by_cases h2 : b < a <;> simp [h1, h2]
  · simp
  · split at h
    · simp at h
    · split at h
      · simp at h
      · obtain rfl : a = b := by omega
        rfl
  · split at h
    · split at k
      · rw [if_pos (by omega)]
      · split at k <;> simp at k
    · split at h <;> simp at h

theorem lt_irrefl' (l : List UInt8) : ¬ l < l := List.lt_irrefl l
theorem bl_eq : ∀ (x y : List UInt8), Op.bytesLess x y = decide (x < y)
  | [], [] => by simp [Op.bytesLess]
  | [], _ :: _ => by simp [Op.bytesLess]
  | _ :: _, [] => by simp [Op.bytesLess]
  | a :: x, b :: y => by
    have ih := bl_eq x y
    simp only [Op.bytesLess, ih, List.cons_lt_cons_iff]
    by_cases h1 : a < b
    · simp [h1]
    · by_cases h2 : a = b
      · subst h2; simp
      · simp [h1, h2]

theorem cmpS_cmp : Cmp cmpS := by
  have tl : ∀ a b : ByteArray, (a.toList == b.toList) = decide (a.toList = b.toList) := fun a b => by
    rw [Bool.eq_iff_iff]; simp
  have e : ∀ a b, cmpS a b = if a.toList < b.toList then -1 else if a.toList = b.toList then 0 else 1 := fun a b => by
    simp only [cmpS, bl_eq, tl, decide_eq_true_eq]
  refine ⟨fun a b => ?_, fun a b => ?_, fun a => ?_, fun a b c h => ?_, fun a b c h k => ?_⟩
  all_goals simp only [e] at *
  · split
    · simp
    · split <;> simp
  · by_cases h1 : a.toList < b.toList
    · have h2 : ¬ b.toList < a.toList := List.lt_asymm h1
      have h3 : ¬ b.toList = a.toList := fun e => by rw [e] at h1; exact List.lt_irrefl _ h1
      simp [h1, h2, h3]
    · by_cases h2 : a.toList = b.toList
      · simp [h2, List.lt_irrefl]
      · have h3 : b.toList < a.toList := by
          rcases Std.lt_trichotomy a.toList b.toList with h | h | h
          · exact absurd h h1
          · exact absurd h h2
          · exact h
        simp [h1, h2, h3]
  · simp [List.lt_irrefl]
  · split at h
    · simp at h
    · split at h
      · rename_i h2
        rw [h2]
      · simp at h
  · split at h
    · split at k
      · rename_i h1 h2
        rw [if_pos (List.lt_trans h1 h2)]
      · split at k <;> simp at k
    · split at h <;> simp at h
end Go.Proofs.YtfiipfcdddaceaaGreatDoor

namespace Go.Proofs.YtfiipfcdddaceaaGreatDoor
open Go.RowKit

def lex {α : Type} (g h : α → α → Int) (a b : α) : Int := if g a b = 0 then h a b else g a b
theorem lex_cmp {α : Type} {g h : α → α → Int} (hg : Cmp g) (hh : Cmp h) : Cmp (lex g h) := by
  refine ⟨fun a b => ?_, fun a b => ?_, fun a => ?_, fun a b c e => ?_, fun a b c e k => ?_⟩
  · unfold lex; split
    · exact hh.three a b
    · exact hg.three a b
  · unfold lex
    have h1 := hg.turn a b
    by_cases h : g a b = 0
    · rw [if_pos h, if_pos (by omega)]; exact hh.turn a b
    · rw [if_neg h, if_neg (by omega)]; exact h1
  · simp [lex, hg.refl, hh.refl]
  · unfold lex at *
    split at e
    · rename_i h0
      rw [hg.zero a b c h0, hh.zero a b c e]
    · rename_i h0; exact absurd e h0
  · unfold lex at *
    have hc1 := hg.turn b c
    have hc2 := hg.turn a c
    have hc3 := hg.turn a b
    by_cases h0 : g a b = 0
    · rw [if_pos h0] at e
      rw [hg.zero a b c h0]
      by_cases h1 : g b c = 0
      · rw [if_pos h1] at k ⊢; exact hh.less a b c e k
      · rw [if_neg h1] at k ⊢; exact k
    · rw [if_neg h0] at e
      by_cases h1 : g b c = 0
      · rw [if_pos h1] at k
        have h2 : g a c = -1 := by
          have h3 := hg.zero c b a (by omega)
          have h4 := hg.turn c a
          have h5 := hg.turn b a
          omega
        rw [h2]; simp
      · rw [if_neg h1] at k
        have h2 := hg.less a b c e k
        rw [h2]; simp
theorem on_cmp {α β : Type} {g : β → β → Int} (hg : Cmp g) (f : α → β) : Cmp (fun a b => g (f a) (f b)) :=
  ⟨fun _ _ => hg.three _ _, fun _ _ => hg.turn _ _, fun _ => hg.refl _, fun _ _ _ h => hg.zero _ _ _ h, fun _ _ _ h k => hg.less _ _ _ h k⟩

def nkey (t : Tm) : Int := if t.kind = 1 then t.num else 0
def tkey (t : Tm) : ByteArray := if t.kind = 1 then ⟨#[]⟩ else t.text
theorem cmpT_lex (a b : Tm) : cmpT a b = lex (fun a b => Lib.compareInt a.kind b.kind) (lex (fun a b => Lib.compareInt (nkey a) (nkey b)) (fun a b => cmpS (tkey a) (tkey b))) a b := by
  show cmpT a b = if Lib.compareInt a.kind b.kind = 0 then (if Lib.compareInt (nkey a) (nkey b) = 0 then cmpS (tkey a) (tkey b) else Lib.compareInt (nkey a) (nkey b)) else Lib.compareInt a.kind b.kind
  by_cases h : a.kind = b.kind
  · have hk : Lib.compareInt a.kind b.kind = 0 := by rw [h]; exact cmpI_cmp.refl _
    rw [if_pos hk]
    by_cases h1 : a.kind = 1
    · have h2 : b.kind = 1 := by omega
      have e1 : cmpT a b = Lib.compareInt a.num b.num := by unfold cmpT; rw [if_pos h, if_pos h1]
      have e2 : nkey a = a.num := by simp [nkey, h1]
      have e3 : nkey b = b.num := by simp [nkey, h2]
      have e4 : tkey a = tkey b := by simp [tkey, h1, h2]
      rw [e1, e2, e3, e4, cmpS_cmp.refl]
      split
      · assumption
      · rfl
    · have h2 : ¬ b.kind = 1 := by omega
      have e1 : cmpT a b = cmpS a.text b.text := by unfold cmpT; rw [if_pos h, if_neg h1]
      have e2 : nkey a = nkey b := by simp [nkey, h1, h2]
      have e3 : tkey a = a.text := by simp [tkey, h1]
      have e4 : tkey b = b.text := by simp [tkey, h2]
      rw [e1, e2, e3, e4, if_pos (cmpI_cmp.refl _)]
  · rw [if_neg (fun e => h (cmpI_eq _ _ e))]
    unfold cmpT
    rw [if_neg h]
theorem cmpT_cmp : Cmp cmpT := by
  have e : cmpT = lex (fun a b => Lib.compareInt a.kind b.kind) (lex (fun a b => Lib.compareInt (nkey a) (nkey b)) (fun a b => cmpS (tkey a) (tkey b))) := by
    funext a b; exact cmpT_lex a b
  rw [e]
  exact lex_cmp (on_cmp cmpI_cmp Tm.kind) (lex_cmp (on_cmp cmpI_cmp nkey) (on_cmp cmpS_cmp tkey))

/-- Two lists of terms. -/
def cmpL : List Tm → List Tm → Int
  | [], [] => 0
  | [], _ :: _ => -1
  | _ :: _, [] => 1
  | a :: x, b :: y => if cmpT a b = 0 then cmpL x y else cmpT a b

theorem cmpL_three : ∀ x y, cmpL x y = -1 ∨ cmpL x y = 0 ∨ cmpL x y = 1
  | [], [] => by simp [cmpL]
  | [], _ :: _ => by simp [cmpL]
  | _ :: _, [] => by simp [cmpL]
  | a :: x, b :: y => by
    simp only [cmpL]
    split
    · exact cmpL_three x y
    · exact cmpT_cmp.three a b
theorem cmpL_turn : ∀ x y, cmpL x y = - cmpL y x
  | [], [] => by simp [cmpL]
  | [], _ :: _ => by simp [cmpL]
  | _ :: _, [] => by simp [cmpL]
  | a :: x, b :: y => by
    simp only [cmpL]
    have h := cmpT_cmp.turn a b
    by_cases h0 : cmpT a b = 0
    · rw [if_pos h0, if_pos (by omega)]; exact cmpL_turn x y
    · rw [if_neg h0, if_neg (by omega)]; exact h
theorem cmpL_refl : ∀ x, cmpL x x = 0
  | [] => rfl
  | a :: x => by simp only [cmpL]; rw [if_pos (cmpT_cmp.refl a)]; exact cmpL_refl x
theorem cmpL_zero : ∀ x y z, cmpL x y = 0 → cmpL x z = cmpL y z
  | [], [], _, _ => rfl
  | [], _ :: _, _, h => by simp [cmpL] at h
  | _ :: _, [], _, h => by simp [cmpL] at h
  | a :: x, b :: y, z, h => by
    simp only [cmpL] at h
    split at h
    · rename_i h0
      cases z with
      | nil => simp [cmpL]
      | cons c z =>
        simp only [cmpL]
        rw [cmpT_cmp.zero a b c h0, cmpL_zero x y z h]
    · rename_i h0; exact absurd h h0
theorem cmpL_less : ∀ x y z, cmpL x y = -1 → cmpL y z = -1 → cmpL x z = -1
  | [], [], _, h, _ => by simp [cmpL] at h
  | [], _ :: _, [], _, k => by simp [cmpL] at k
  | [], _ :: _, _ :: _, _, _ => by simp [cmpL]
  | _ :: _, [], _, h, _ => by simp [cmpL] at h
  | _ :: _, _ :: _, [], _, k => by simp [cmpL] at k
  | a :: x, b :: y, c :: z, h, k => by
    simp only [cmpL] at h k ⊢
    by_cases h0 : cmpT a b = 0
    · rw [if_pos h0] at h
      rw [cmpT_cmp.zero a b c h0]
      by_cases h1 : cmpT b c = 0
      · rw [if_pos h1] at k ⊢; exact cmpL_less x y z h k
      · rw [if_neg h1] at k ⊢; exact k
    · rw [if_neg h0] at h
      by_cases h1 : cmpT b c = 0
      · have h2 : cmpT a c = -1 := by
          have h3 := cmpT_cmp.zero c b a (by have := cmpT_cmp.turn c b; omega)
          have h4 := cmpT_cmp.turn c a
          have h5 := cmpT_cmp.turn b a
          omega
        rw [h2]; simp
      · rw [if_neg h1] at k
        have h2 := cmpT_cmp.less a b c h k
        rw [h2]; simp
theorem cmpL_cmp : Cmp cmpL := ⟨cmpL_three, cmpL_turn, cmpL_refl, cmpL_zero, cmpL_less⟩

theorem firstN_zip : ∀ x y : List Tm, x.length = y.length → firstN (List.zipWith cmpT x y) = cmpL x y
  | [], [], _ => rfl
  | [], _ :: _, h => by simp at h
  | _ :: _, [], h => by simp at h
  | a :: x, b :: y, h => by
    have ih := firstN_zip x y (by simpa using h)
    simp only [List.zipWith_cons_cons, cmpL]
    unfold firstN at *
    by_cases h0 : cmpT a b = 0
    · rw [if_pos h0, ← ih]; simp [h0]
    · rw [if_neg h0]; simp [h0]

def tlist (t : Nat → Tm) (n : Nat) : List Tm := (List.range n).map t
theorem cmpTs_eq (ta tb : Nat → Tm) (n : Nat) : cmpTs ta tb n = cmpL (tlist ta n) (tlist tb n) := by
  rw [← firstN_zip _ _ (by simp [tlist])]
  unfold cmpTs tlist
  rw [List.zipWith_map]
  simp

/-- An atom: its name and its terms. -/
def cmpAt : (ByteArray × List Tm) → (ByteArray × List Tm) → Int :=
  lex (fun a b => cmpS a.1 b.1) (lex (fun a b => Lib.compareInt a.2.length b.2.length) (fun a b => cmpL a.2 b.2))
theorem cmpAt_cmp : Cmp cmpAt := lex_cmp (on_cmp cmpS_cmp Prod.fst) (lex_cmp (on_cmp cmpI_cmp (fun a : ByteArray × List Tm => (a.2.length : Int))) (on_cmp cmpL_cmp Prod.snd))
theorem cmpAt_at (na nb : ByteArray) (x y : List Tm) : cmpAt (na, x) (nb, y) = if cmpS na nb = 0 then (if Lib.compareInt x.length y.length = 0 then cmpL x y else Lib.compareInt x.length y.length) else cmpS na nb := rfl
theorem cmpA_eq (na nb : ByteArray) (n m : Nat) (ta tb : Nat → Tm) : cmpA na nb n m ta tb = cmpAt (na, tlist ta n) (nb, tlist tb m) := by
  have l1 : (tlist ta n).length = n := by simp [tlist]
  have l2 : (tlist tb m).length = m := by simp [tlist]
  rw [cmpAt_at, l1, l2]
  unfold cmpA
  by_cases h : cmpS na nb = 0
  · rw [if_pos h, if_pos h]
    by_cases h2 : Lib.compareInt n m = 0
    · rw [if_pos h2, if_pos h2]
      have := cmpI_eq _ _ h2
      obtain rfl : n = m := by omega
      exact cmpTs_eq ta tb n
    · rw [if_neg h2, if_neg h2]
  · rw [if_neg h, if_neg h]

end Go.Proofs.YtfiipfcdddaceaaGreatDoor
