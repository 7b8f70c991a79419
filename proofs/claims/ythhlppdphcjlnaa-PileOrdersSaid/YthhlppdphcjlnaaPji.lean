
/-
  The program's pile (things: int64), one that a call has made: what each call on it comes to.
-/
import Derived.Test.YthhlppdphcjlnaaPii
namespace Go.Proofs.Ythhlppdphcjlnaa.pli
open Go.RowKit Go.ChangeShapes Go.WideShapes Go.Deep

/-- A pile, new since world w: its things are L, n were pushed. -/
def Mine (w : World) (g : Nat) (L : List Int) (n : Nat) (w' : World) : Prop :=
  ∃ sv, Mp w' g sv L n ∧ w.heap.size ≤ g ∧ (∀ k, sv.ownBlock = some k → w.heap.size ≤ k) ∧ Turn (fun _ => False) w w'
theorem Mine.turn {w w' : World} {g n : Nat} {L : List Int} (h : Mine w g L n w') : Turn (fun _ => False) w w' := h.choose_spec.2.2.2
theorem Mine.later {w w' w2 : World} {g n : Nat} {L : List Int} (h : Mine w g L n w') (ht : Turn (fun _ => False) w' w2) : Mine w g L n w2 := by
  obtain ⟨sv, h1, h2, h3, h4⟩ := h
  exact ⟨sv, h1.later ht, h2, h3, h4.trans ht (fun _ _ f => f)⟩
/-- Elsewhere something turns. -/
theorem Mine.apart {S : Nat → Prop} {w w' w2 : World} {g n : Nat} {L : List Int} (h : Mine w g L n w') (ht : Turn S w' w2) (hs : ∀ k, S k → w.heap.size ≤ k) (hg : ¬ S g) (hv : ∀ sv, Mp w' g sv L n → ∀ k, sv.ownBlock = some k → ¬ S k) : Mine w g L n w2 := by
  obtain ⟨sv, h1, h2, h3, h4⟩ := h
  exact ⟨sv, h1.turn ht hg (hv sv h1), h2, h3, h4.trans ht (fun k hk e => absurd (hs k e) (by omega))⟩
theorem mine_new {w wa : World} (ht : Turn (fun _ => False) w wa) : Calls Try.prog 20 #[lessV] wa fun e w' => e = .returned (.pointer (some ⟨wa.heap.size, 0, none⟩)) ∧ Mine w wa.heap.size [] 0 w' ∧ Turn (fun _ => False) wa w' :=
  (new_any wa).mono fun e w' ⟨he, hm, h2⟩ => ⟨he, ⟨_, hm, ht.size, (fun k e => by simp [Value.ownBlock] at e), ht.trans h2 (fun _ _ f => f)⟩, h2⟩
theorem mine_push {w wa : World} {g n : Nat} {L : List Int} (x : Int) (h : Mine w g L n wa) (hn : n ≤ 100000) (hl : L.length ≤ 100000) :
    Calls Try.prog 22 #[.pointer (some ⟨g, 0, none⟩), (.int .i64 x)] wa fun e w' => (∃ v, e = .returned v) ∧ Mine w g (insS ltN x L) (n + 1) w' ∧ ∃ S, Turn S wa w' ∧ (∀ k, S k → k = g ∨ ∃ sv, Mp wa g sv L n ∧ sv.ownBlock = some k) := by
  obtain ⟨sv, h1, h2, h3, h4⟩ := h
  refine (push_any g n sv L x wa h1 hn hl).mono fun e w' ⟨he, sv', m1, m2, m3⟩ => ⟨he, ⟨sv', m1, h2, fun k hk => ?_, h4.trans m2 (fun k hk e => ?_)⟩, _, m2, fun k e => e.imp id (fun e => ⟨sv, h1, e⟩)⟩
  · rcases m3 k hk with e | e
    · exact Nat.le_trans h4.size e
    · exact h3 k e
  · rcases e with e | e
    · omega
    · have := h3 k e; omega
theorem mine_pop {w wa : World} {g n : Nat} {x : Int} {R : List Int} (h : Mine w g (x :: R) n wa) (hl : R.length ≤ 100000) :
    Calls Try.prog 23 #[.pointer (some ⟨g, 0, none⟩)] wa fun e w' => e = .returned (.tuple #[(.int .i64 x), .bool true]) ∧ Mine w g R n w' ∧ ∃ S, Turn S wa w' ∧ (∀ k, S k → k = g ∨ ∃ sv, Mp wa g sv (x :: R) n ∧ sv.ownBlock = some k) := by
  obtain ⟨sv, h1, h2, h3, h4⟩ := h
  refine (pop_some g n sv x R wa h1 hl).mono fun e w' ⟨he, sv', m1, m2, m3⟩ => ⟨he, ⟨sv', m1, h2, fun k hk => h3 k (m3 k hk), h4.trans m2 (fun k hk e => ?_)⟩, _, m2, fun k e => e.imp id (fun e => ⟨sv, h1, e⟩)⟩
  rcases e with e | e
  · omega
  · have := h3 k e; omega
theorem mine_pop0 {w wa : World} {g n : Nat} (h : Mine w g [] n wa) :
    Calls Try.prog 23 #[.pointer (some ⟨g, 0, none⟩)] wa fun e w' => e = .returned (.tuple #[(.int .i64 0), .bool false]) ∧ Mine w g [] n w' ∧ ∃ S, Turn S wa w' ∧ (∀ k, S k → k = g ∨ ∃ sv, Mp wa g sv [] n ∧ sv.ownBlock = some k) := by
  obtain ⟨sv, h1, h2, h3, h4⟩ := h
  refine (pop_none g n sv wa h1).mono fun e w' ⟨he, sv', m1, m2, m3⟩ => ⟨he, ⟨sv', m1, h2, fun k hk => h3 k (m3 k hk), h4.trans m2 (fun k hk e => ?_)⟩, _, m2, fun k e => e.imp id (fun e => ⟨sv, h1, e⟩)⟩
  rcases e with e | e
  · omega
  · have := h3 k e; omega
theorem mine_len {w wa : World} {g n : Nat} {L : List Int} (h : Mine w g L n wa) : Calls Try.prog 26 #[.pointer (some ⟨g, 0, none⟩)] wa fun e w' => e = .returned (.int .i64 (L.length : Int)) ∧ wa = w' := by
  obtain ⟨sv, h1, -⟩ := h
  exact len_any g n sv L wa h1
theorem mine_top0 {w wa : World} {g n : Nat} (h : Mine w g [] n wa) : Calls Try.prog 25 #[.pointer (some ⟨g, 0, none⟩)] wa fun e w' => e = .returned (.tuple #[(.int .i64 0), .bool false]) ∧ Turn (fun _ => False) wa w' := by
  obtain ⟨sv, h1, -⟩ := h
  exact top_any g n sv [] wa h1
theorem mine_top {w wa : World} {g n : Nat} {x : Int} {R : List Int} (h : Mine w g (x :: R) n wa) : Calls Try.prog 25 #[.pointer (some ⟨g, 0, none⟩)] wa fun e w' => e = .returned (.tuple #[(.int .i64 x), .bool true]) ∧ Turn (fun _ => False) wa w' := by
  obtain ⟨sv, h1, -⟩ := h
  exact top_any g n sv (x :: R) wa h1
theorem mine_sorted {w wa : World} {g n : Nat} {L : List Int} (h : Mine w g L n wa) (hl : L.length ≤ 100000) : Calls Try.prog 24 #[.pointer (some ⟨g, 0, none⟩)] wa fun e w' => Drained wa (fun _ => False) L e w' := by
  obtain ⟨sv, h1, -⟩ := h
  exact sorted_any g n sv L wa h1 hl

end Go.Proofs.Ythhlppdphcjlnaa.pli
