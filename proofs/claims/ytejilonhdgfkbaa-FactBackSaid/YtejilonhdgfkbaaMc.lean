
/-
  Two cells together, by the program and by the document.
-/
import Derived.Test.YtejilonhdgfkbaaMb
namespace Go.Proofs.Ytejilonhdgfkbaa
open Go.RowKit

/-- What a call that makes a cell answers. -/
def outC : Option Cl → Value
  | some c => .tuple #[cv c, .bool true]
  | none => .tuple #[cv Cl.zero, .bool false]
theorem okC_zero : okC Cl.zero := ⟨rfl, rfl, rfl, rfl⟩
theorem okC_of {v : Int} (h : fit v = true) : okC (Cl.of v) := ⟨rfl, h, h, h⟩
theorem okC_merge {a b c : Cl} (ha : okC a) (hb : okC b) (h : mergeC a b = some c) : okC c := by
  unfold mergeC at h
  split at h
  · cases h
    exact hb
  · split at h
    · cases h
      exact ha
    · split at h
      · rename_i g
        rw [Bool.and_eq_true] at g
        cases h
        obtain ⟨_, _, a3, a4⟩ := ha
        obtain ⟨_, _, b3, b4⟩ := hb
        refine ⟨g.1, g.2, ?_, ?_⟩
        · show fit (min a.lo b.lo) = true
          rw [fit_iff] at *
          omega
        · show fit (max a.hi b.hi) = true
          rw [fit_iff] at *
          omega
      · cases h
theorem merge_l {n : Int} (s lo hi : Int) (b : Cl) (h : n = 0) : Ending.returned (.tuple #[cv b, .bool true]) = .returned (outC (mergeC ⟨n, s, lo, hi⟩ b)) := by
  unfold mergeC
  rw [if_pos h]
  rfl
theorem merge_r {m : Int} (t lo' hi' : Int) (a : Cl) (h : ¬ a.n = 0) (g : m = 0) : Ending.returned (.tuple #[cv a, .bool true]) = .returned (outC (mergeC a ⟨m, t, lo', hi'⟩)) := by
  unfold mergeC
  rw [if_neg h, if_pos g]
  rfl
theorem merge_no {a b : Cl} (h0 : ¬ a.n = 0) (h1 : ¬ b.n = 0) (h : fit (a.n + b.n) = false ∨ fit (a.s + b.s) = false) : Ending.returned (.tuple #[cv Cl.zero, .bool false]) = .returned (outC (mergeC a b)) := by
  unfold mergeC
  rw [if_neg h0, if_neg h1, if_neg (by rcases h with h | h <;> rw [h] <;> simp)]
  rfl
theorem merge_yes {a b : Cl} (h0 : ¬ a.n = 0) (h1 : ¬ b.n = 0) (ha : fit (a.n + b.n) = true) (hb : fit (a.s + b.s) = true) {LO HI : Int} (g1 : LO = min a.lo b.lo) (g2 : HI = max a.hi b.hi) :
    Ending.returned (.tuple #[.agg #[.int .i64 (a.n + b.n), .int .i64 (a.s + b.s), .int .i64 LO, .int .i64 HI], .bool true]) = .returned (outC (mergeC a b)) := by
  subst g1 g2
  unfold mergeC
  rw [if_neg h0, if_neg h1, if_pos (by rw [ha, hb]; rfl)]
  rfl

end Go.Proofs.Ytejilonhdgfkbaa
