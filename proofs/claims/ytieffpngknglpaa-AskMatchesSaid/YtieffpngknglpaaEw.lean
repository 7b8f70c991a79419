
/-
  A writer of pack (the program's) that is new since a world: one contract a call. For every stage whose code puts bytes so.
-/
import Derived.Test.YtieffpngknglpaaOd
import Derived.Test.YtieffpngknglpaaOe
namespace Go.Proofs.Ytieffpngknglpaa
open Go.RowKit

/-- A writer at p, new since w, that has bytes l. -/
def Wt (w : World) (p : Nat) (wr : World) (l : List UInt8) : Prop := w.heap.size ≤ p ∧ ∃ u, Wr wr p u l ∧ (∀ k, u.ownBlock = some k → w.heap.size ≤ k) ∧ Turn (fun _ => False) w wr
section
variable {w wr w' : World} {p : Nat} {l l' : List UInt8}
theorem Wt.turn (h : Wt w p wr l) : Turn (fun _ => False) w wr := by
  obtain ⟨_, u, _, _, h⟩ := h
  exact h
theorem Wt.later (h : Wt w p wr l) (ht : Turn (fun _ => False) wr w') : Wt w p w' l := by
  obtain ⟨h0, u, ⟨h1, h2⟩, h3, h4⟩ := h
  exact ⟨h0, u, ⟨h1.turn ht (fun f => f), h2.turn ht (fun _ _ f => f)⟩, h3, h4.trans ht (fun _ _ f => f)⟩
theorem Wt.put {u u' : Value} (h0 : w.heap.size ≤ p) (h3 : ∀ k, u.ownBlock = some k → w.heap.size ≤ k) (h4 : Turn (fun _ => False) w wr) (hp : Put wr p u w' u' l') : Wt w p w' l' := by
  obtain ⟨g1, g2, g3⟩ := hp
  refine ⟨h0, u', g1, fun k hk => ?_, h4.trans g2 (fun k hk e => ?_)⟩
  · rcases g3 with e | e
    · exact h3 k (by rw [← e]; exact hk)
    · exact Nat.le_trans h4.size (e k hk)
  · rcases e with e | e
    · omega
    · have := h3 k e; omega
/-- Boxes of other types than a writer's, and a byte's rows, are as they were. -/
def KeepB (w w' : World) : Prop := ∀ g t cs, t ≠ 45 → t ≠ 5 → Box w g t cs → Box w' g t cs
theorem KeepB.of {u u' : Value} (hw : Wr wr p u l) (hp : Put wr p u w' u' l') : KeepB wr w' := by
  intro g t cs h1 h2 hb
  refine hb.turn hp.2.1 (fun e => ?_)
  rcases e with e | e
  · subst e
    have e2 := hw.1.symm.trans hb
    injection e2 with e2
    injection e2 with _ e3
    exact h1 e3.symm
  · exact hw.2.ne_box hb (fun e => h2 e.symm) e
theorem KeepB.trans {a b c : World} (h : KeepB a b) (g : KeepB b c) : KeepB a c := fun k t cs h1 h2 hb => g k t cs h1 h2 (h k t cs h1 h2 hb)
theorem KeepB.refl (w : World) : KeepB w w := fun _ _ _ _ _ h => h
/-- A writer that was just laid. -/
theorem Wt.new (w : World) (hw : Turn (fun _ => False) w wr) : Wt w wr.heap.size (wr.alloc (.cells #[.slice none 0 0] 45)) [] :=
  ⟨hw.size, _, ⟨Box.new wr _ _, By.nil _⟩, (fun k e => by simp [Value.ownBlock] at e), hw.alloc _⟩
theorem wt_num (h : Wt w p wr l) (n : Nat) (hn : Hid (n < 18446744073709551616)) (hl : l.length ≤ 1000000) :
    Calls Try.prog 21 #[.pointer (some ⟨p, 0, none⟩), .int .u64 n] wr fun e w' => e = .returned (.pointer (some ⟨p, 0, none⟩)) ∧ Wt w p w' (l ++ enc n) ∧ KeepB wr w' := by
  obtain ⟨h0, u, h1, h3, h4⟩ := h
  exact (num_put p u l n wr h1 hn hl).mono fun e w' ⟨he, v', hp⟩ => ⟨he, Wt.put h0 h3 h4 hp, KeepB.of h1 hp⟩
theorem wt_text (h : Wt w p wr l) (t : List UInt8) (ht : t.length ≤ 900000) (hl : l.length ≤ 900000) :
    Calls Try.prog 23 #[.pointer (some ⟨p, 0, none⟩), .string ⟨t.toArray⟩] wr fun e w' => e = .returned (.pointer (some ⟨p, 0, none⟩)) ∧ Wt w p w' (l ++ (enc t.length ++ t)) ∧ KeepB wr w' := by
  obtain ⟨h0, u, h1, h3, h4⟩ := h
  exact (text_put p u l ⟨t.toArray⟩ wr h1 (by show t.toArray.size ≤ _; simpa using ht) hl).mono fun e w' ⟨he, v', hp⟩ => ⟨he, Wt.put h0 h3 h4 hp, KeepB.of h1 hp⟩
theorem wt_bytes (h : Wt w p wr l) (hl : l.length ≤ 1000000) :
    Calls Try.prog 24 #[.pointer (some ⟨p, 0, none⟩)] wr fun e w' => ∃ v', e = .returned v' ∧ Made w w' v' l := by
  obtain ⟨h0, u, h1, h3, h4⟩ := h
  exact (bytes_any p u l wr h1 hl).mono fun e w' ⟨v', he, hb, ht, hk⟩ => ⟨v', he, hb, h4.trans ht (fun _ _ f => f), fun k e => Nat.le_trans h4.size (hk k e)⟩
end

end Go.Proofs.Ytieffpngknglpaa
