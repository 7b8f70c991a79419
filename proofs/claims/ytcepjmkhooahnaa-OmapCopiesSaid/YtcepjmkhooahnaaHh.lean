
/-
  Stage 6: acts that came in, one of them; the maps behind some of them.
-/
import Derived.Test.YtcepjmkhooahnaaHg
namespace Go.Proofs.Ytcepjmkhooahnaa
open Go.RowKit omi

theorem ac_at {w : World} {A : Option Addr} {n c : Nat} {l : List AC} (h : RdE EA w (.slice A n c) l) {j : Nat} {a : AC} (hj : l[j]? = some a) :
    ∃ ad, A = some ad ∧ ∀ W, Turn (fun _ => False) w W → W.cell? (ad.add (j * 3)) = some (.int .i64 a.kind) ∧ W.cell? ⟨(ad.add (j * 3)).block, (ad.add (j * 3)).off + 1, none⟩ = some (.int .i64 a.k) ∧
      W.cell? ⟨(ad.add (j * 3)).block, (ad.add (j * 3)).off + 2, none⟩ = some (.string ⟨a.v.toArray⟩) := by
  obtain ⟨ad, hA, _⟩ := h.cells hj
  refine ⟨ad, hA, fun W ht => ?_⟩
  obtain ⟨ad', hA', hc⟩ := (h.later ht).cells hj
  rw [hA] at hA'
  cases hA'
  exact ⟨hc 0 _ rfl, by rw [show (⟨(ad.add (j * 3)).block, (ad.add (j * 3)).off + 1, none⟩ : Addr) = (ad.add (j * 3)).add 1 from rfl, eadd_add]; exact hc 1 _ rfl,
    by rw [show (⟨(ad.add (j * 3)).block, (ad.add (j * 3)).off + 2, none⟩ : Addr) = (ad.add (j * 3)).add 2 from rfl, eadd_add]; exact hc 2 _ rfl⟩

/-- The two maps, made since w, behind n acts. -/
structure Run (w : World) (g1 g2 : Nat) (n : Nat) (W : World) : Prop where
  out : ∃ (L : List (Int × List UInt8)) (sv : Value), Two W g1 g2 sv L ∧ L.length ≤ n ∧ ∀ j, sv.ownBlock = some j → w.heap.size ≤ j
  turn : Turn (fun _ => False) w W
  new1 : w.heap.size ≤ g1
  new2 : w.heap.size ≤ g2
theorem Run.start {w w1 : World} {g1 : Nat} (hm : MP w1 g1 []) (ht : Turn (fun _ => False) w w1) (h1 : w.heap.size ≤ g1) : Run w g1 w1.heap.size 0 (w1.alloc (.cells #[.slice none 0 0] 29)) :=
  ⟨⟨[], .slice none 0 0, ⟨hm.later ((Turn.refl _ w1).alloc _), ⟨Box.new w1 _ _, RdE.nil _, by simp [Value.ownBlock]⟩, by simp [Value.ownBlock]⟩, Nat.le_refl _, fun j e => by simp [Value.ownBlock] at e⟩, ht.alloc _, h1, ht.size⟩
theorem Run.step {w W W' : World} {g1 g2 n : Nat} {L : List (Int × List UInt8)} {sv : Value} (h : Run w g1 g2 n W) (_h2 : Two W g1 g2 sv L) (hl : L.length ≤ n) (hn : ∀ j, sv.ownBlock = some j → w.heap.size ≤ j) (ha : Acted W W' g1 g2 sv L.length) : Run w g1 g2 (n + 1) W' := by
  obtain ⟨M, sv', h3, h4, h5⟩ := ha.out
  refine ⟨⟨M, sv', h3, by omega, fun j hj => ?_⟩, ?_, h.new1, h.new2⟩
  · rcases h5 j hj with e | e
    · exact hn j e
    · exact Nat.le_trans h.turn.size e
  · exact h.turn.fresh ha.turn (fun k e => e.elim (fun e => e ▸ h.new1) (fun e => e ▸ h.new2))
theorem Run.later {w W W' : World} {g1 g2 n : Nat} (h : Run w g1 g2 n W) (ht : Turn (fun _ => False) W W') : Run w g1 g2 n W' := by
  obtain ⟨L, sv, h2, h3, h4⟩ := h.out
  exact ⟨⟨L, sv, h2.later ht, h3, h4⟩, h.turn.trans ht (fun _ _ f => f), h.new1, h.new2⟩

end Go.Proofs.Ytcepjmkhooahnaa
