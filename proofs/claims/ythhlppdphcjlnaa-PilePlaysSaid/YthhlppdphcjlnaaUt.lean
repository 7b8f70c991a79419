
/-
  Stage 7: the program's pile of items, and the document's, side by side.
-/
import Derived.Test.YthhlppdphcjlnaaUa
import Derived.Test.YthhlppdphcjlnaaPjw
import Derived.Test.YthhlppdphcjlnaaEd
import Derived.Test.YthhlppdphcjlnaaUo
namespace Go.Proofs.Ythhlppdphcjlnaa
open Go.RowKit Go.ChangeShapes Go.WideShapes Go.Deep plw

theorem lt_of_row {w : World} {sv : Value} {L : List (Int × List UInt8)} (h : RdE EI w sv L) (h0 : 0 < L.length) {k : Nat} (hk : sv.ownBlock = some k) : k < w.heap.size := by
  obtain ⟨A, c, rfl⟩ := h.shape
  obtain ⟨p, hp⟩ : ∃ p, L[0]? = some p := ⟨_, List.getElem?_eq_getElem h0⟩
  obtain ⟨ad, rfl, hc⟩ := h.cells hp
  have h1 := World.block_lt_of_cell? w _ (hc 0 _ rfl)
  rw [eadd_block] at h1
  have : ad.block = k := by simpa [Value.ownBlock] using hk
  omega
/-- The document's row lies apart from the program's pile. -/
def Apart (w : World) (g : Nat) (svp sv : Value) (wr : World) : Prop := ∀ k, sv.ownBlock = some k → w.heap.size ≤ k ∧ k < wr.heap.size ∧ k ≠ g ∧ svp.ownBlock ≠ some k
/-- Both piles, new since w. -/
structure Both7 (w : World) (g gr : Nat) (svp sv : Value) (L : List (Int × List UInt8)) (n : Nat) (wr : World) : Prop where
  m : Mp wr g svp L n
  g0 : w.heap.size ≤ g
  s0 : ∀ k, svp.ownBlock = some k → w.heap.size ≤ k
  r : RP wr gr sv L
  r0 : w.heap.size ≤ gr
  ap : Apart w g svp sv wr
  turn : Turn (fun _ => False) w wr
section
variable {w wr w2 w3 : World} {g gr n : Nat} {svp sv : Value} {L : List (Int × List UInt8)}
theorem Both7.far (h : Both7 w g gr svp sv L n wr) : gr ≠ g ∧ svp.ownBlock ≠ some gr := by
  obtain ⟨H, S, hp, _⟩ := h.m
  refine ⟨fun e => ?_, hp.row.not_box h.r.obj (by decide)⟩
  subst e
  have e2 := hp.obj.symm.trans h.r.obj
  injection e2 with e2
  injection e2 with _ e3
  exact absurd e3 (by decide)
theorem Both7.later (h : Both7 w g gr svp sv L n wr) (ht : Turn (fun _ => False) wr w2) : Both7 w g gr svp sv L n w2 :=
  ⟨h.m.later ht, h.g0, h.s0, h.r.later ht, h.r0, fun k hk => ⟨(h.ap k hk).1, Nat.lt_of_lt_of_le (h.ap k hk).2.1 ht.size, (h.ap k hk).2.2⟩, h.turn.trans ht (fun _ _ f => f)⟩
/-- The program's pile has changed alone. -/
theorem Both7.half (h : Both7 w g gr svp sv L n wr) {S : Nat → Prop} (hS : ∀ k, S k → k = g ∨ svp.ownBlock = some k) (ht : Turn S wr w2) : RP w2 gr sv L ∧ Turn (fun _ => False) w w2 := by
  have hf := h.far
  refine ⟨h.r.turn ht (fun s => ?_) (fun k hk s => ?_), h.turn.trans ht (fun k hk s => ?_)⟩
  · rcases hS _ s with e | e
    · exact hf.1 e
    · exact hf.2 e
  · have ha := h.ap k hk
    rcases hS _ s with e | e
    · exact ha.2.2.1 e
    · exact ha.2.2.2 e
  · have h1 := h.g0
    rcases hS _ s with e | e
    · omega
    · have := h.s0 k e; omega
/-- Then the document's. -/
theorem Both7.whole (h : Both7 w g gr svp sv L n wr) {M : List (Int × List UInt8)} {m : Nat} {svp' sv' : Value} (hm : Mp w2 g svp' M m) (hs : ∀ k, svp'.ownBlock = some k → wr.heap.size ≤ k ∨ svp.ownBlock = some k) (ht2 : Turn (fun _ => False) w w2) (hsz : wr.heap.size ≤ w2.heap.size)
    (hr : RP w3 gr sv' M) (ht : Turn (fun k => k = gr) w2 w3) (hsv : (∀ k, sv'.ownBlock = some k → w2.heap.size ≤ k ∧ k < w3.heap.size) ∨ (∀ k, sv'.ownBlock = some k → sv.ownBlock = some k)) (hbox : Box w2 gr 32 #[sv]) : Both7 w g gr svp' sv' M m w3 := by
  have hf := h.far
  have hgl := h.m.lt
  have hgr : svp'.ownBlock ≠ some gr := by
    obtain ⟨H, S, hp, _⟩ := hm
    exact hp.row.not_box hbox (by decide)
  have hw := h.turn.size
  refine ⟨hm.turn ht (fun e => hf.1 e.symm) (fun k hk e => hgr (by rw [hk, e])), h.g0, fun k hk => ?_, hr, h.r0, fun k hk => ?_, ht2.trans ht (fun k hk e => by have := h.r0; omega)⟩
  · rcases hs k hk with e | e
    · omega
    · exact h.s0 k e
  · rcases hsv with e | e
    · obtain ⟨e1, e2⟩ := e k hk
      have := ht2.size
      refine ⟨by omega, e2, by omega, fun e3 => ?_⟩
      have := (hm.lt.2 k e3).1
      omega
    · have ha := h.ap k (e k hk)
      refine ⟨ha.1, Nat.lt_of_lt_of_le ha.2.1 (Nat.le_trans hsz ht.size), ha.2.2.1, fun e3 => ?_⟩
      rcases hs k e3 with e4 | e4
      · omega
      · exact ha.2.2.2 e4
end

/-- Both piles behind some acts. -/
def Run7 (w : World) (g gr i : Nat) (wr : World) : Prop := ∃ svp sv L n, Both7 w g gr svp sv L n wr ∧ n ≤ i ∧ L.length ≤ i

end Go.Proofs.Ythhlppdphcjlnaa
