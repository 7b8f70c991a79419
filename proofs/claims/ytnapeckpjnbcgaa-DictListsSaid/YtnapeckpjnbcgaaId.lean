
/-
  A region that draws its order, walked by hand: an operation is taken first, the activation written out.
-/
import Derived.Test.YtnapeckpjnbcgaaIc
import Derived.Stop.RegionWithIn
namespace Go.Proofs.Ytnapeckpjnbcgaa
open Go.RowKit

theorem take_at {F : Fence} {n : Nat} {P : Program} {ops : Array Oper} {Q : Exit → Act → World → Prop} {md : Region.Mode} (i d : Nat) {oi : Oper} (v : Value) {fuel : Nat} {listed : Array Bool} {ts : Array Value} {ds : List Deferred} {w : World}
    (hro : F.round = none) (hi : ops[i]? = some oi) (hd : oi.dst = some d)
    (hs : Region.noSelect ops = true) (hf : Region.free md ops listed i = true) (hr : (Region.ready md ops listed).contains i = true)
    (hQ : ∀ c (a : Act) w, Q (.panic c) (a.put oi.dst v) w → Q (.panic c) a w) (hy : YieldsFenced P ops oi v { tmps := ts, defers := ds })
    (h : wpAnyIn F n P md ops Q fuel (listed.setIfInBounds i true) { tmps := ts.setIfInBounds d v, defers := ds } w) : wpAnyIn F n P md ops Q (fuel + 1) listed { tmps := ts, defers := ds } w := by
  refine wpAnyIn_take hro hi hs hf hr hQ hy ?_
  rw [hd]
  exact h

end Go.Proofs.Ytnapeckpjnbcgaa
