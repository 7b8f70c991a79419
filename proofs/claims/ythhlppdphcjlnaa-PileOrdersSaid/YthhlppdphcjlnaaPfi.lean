
/-
  The program's pile (things: int64): Pop.
-/
import Derived.Test.YthhlppdphcjlnaaPei
namespace Go.Proofs.Ythhlppdphcjlnaa.pli
open Go.RowKit Go.ChangeShapes Go.WideShapes Go.Deep

/-- What is left when the first goes, the last put in its place. -/
theorem pop_rep {d s z : Int × Nat} {H T' : List (Int × Nat)} (hr : Rep ltN d H (s :: T')) {k : Nat} (hk : H.length = k + 1) (hz : H[k]? = some z) :
    DownX (bef ltN) (at0 d ((H.set 0 z).take k)) ((H.set 0 z).take k).length 0 ∧ ((H.set 0 z).take k).Perm T' := by
  have h0 := hr.first weak_lt
  cases H with
  | nil => cases h0
  | cons r H1 =>
    obtain rfl : r = s := by simpa using h0
    have hp : H1.Perm T' := hr.perm.cons_inv
    rcases List.eq_nil_or_concat H1 with e | ⟨T, y, e⟩
    · subst e
      obtain rfl : k = 0 := by simpa using hk.symm
      refine ⟨⟨fun j h1 h2 => absurd h2 (by simp), fun h => absurd h (Nat.lt_irrefl _)⟩, ?_⟩
      simpa using hp
    · rw [List.concat_eq_append] at e
      subst e
      have hkT : k = T.length + 1 := by simpa using hk.symm
      have hzy : y = z := by
        rw [hkT, List.getElem?_cons_succ, List.getElem?_append_right (Nat.le_refl _), Nat.sub_self] at hz
        simpa using hz
      subst hzy
      have e1 : ((r :: (T ++ [y])).set 0 y).take k = y :: T := by
        rw [List.set_cons_zero, hkT, List.take_succ_cons, List.take_left]
      rw [e1]
      obtain ⟨h1, h2⟩ := pop_down (lt := bef ltN) (d := d) (z := y) (r := r) (T := T) (H := r :: (T ++ [y])) rfl hr.heap
      exact ⟨h1, h2.trans hp⟩
/-- The zero item. -/
abbrev zeroI : Int × Nat := (0, 0)
/-- clear of one item of a row. -/
theorem clear_one {w : World} {ad : Addr} {n c c' : Nat} {L : List (Int × Nat)} (h : OwE EN 69 w (.slice (some ad) n c) L) {j : Nat} (hj : j < L.length) (ty : TypeId) :
    (Builtin.clear_ #[65] ty #[.slice (some (ad.add (j * 2))) 1 c']).run Try.prog w = .ok (.tuple #[]) (w.setCells ad.block (ad.off + j * 2) (EN.enc zeroI)) := by
  have ht := h.there hj
  obtain ⟨cur, ha, -⟩ := h.home
  have hadd : ad.add (j * 2) = ⟨ad.block, ad.off + j * 2, none⟩ := by
    obtain ⟨b, o, s⟩ := ad
    simp only [Addr.mk.injEq, true_and] at ha
    obtain ⟨rfl, rfl⟩ := ha
    rw [own_add, Nat.zero_add]
  have hv : ∀ w, (zeroValue 69).run Try.prog w = .ok (.agg #[.int .i64 0, .int .u64 0]) w := fun w => by kernel_rfl
  have hst := run_storeCells_cells (P := Try.prog) ad.block (ad.off + j * 2) (EN.enc zeroI) 0 w (fun i hi => (ht i (by rw [EN.len] at hi; exact hi)).1) (fun i hi => (ht i (by rw [EN.len] at hi; exact hi)).2) (EN.one zeroI)
  have e : (Builtin.zeroCells (Value.cells (.agg #[.int .i64 0, .int .u64 0])) 1).toList = EN.enc zeroI := by kernel_rfl
  rw [hadd]
  simp [Builtin.clear_, run_underlying Try.underlying65, hv]
  rw [e]
  simp only [Nat.add_zero] at hst
  rw [hst]
  rfl

/-- Behind a pop. -/
def Popped (w : World) (g : Nat) (sv : Value) (L : List Int) (n : Nat) (v : Value) (e : Ending) (w' : World) : Prop :=
  e = .returned v ∧ ∃ sv', Mp w' g sv' L n ∧ Turn (fun k => k = g ∨ sv.ownBlock = some k) w w' ∧ ∀ k, sv'.ownBlock = some k → sv.ownBlock = some k

set_option maxRecDepth 100000 in
set_option maxHeartbeats 4000000 in
theorem pop_none (g n : Nat) (sv : Value) (w : World) (h : Mp w g sv [] n) :
    Calls Try.prog 23 #[.pointer (some ⟨g, 0, none⟩)] w fun e w' => Popped w g sv [] n (.tuple #[(.int .i64 0), .bool false]) e w' := by
  have HM := Lib.hid h
  have HTOP : Hid (∀ W, Turn (fun _ => False) w W → Calls Try.prog 25 #[.pointer (some ⟨g, 0, none⟩)] W fun e w' => e = .returned (.tuple #[(.int .i64 0), .bool false]) ∧ Turn (fun _ => False) W w') := fun W ht => top_any g n sv [] W (h.later ht)
  clear h
  go_enter Try.func23, Try.ntmps23
  go_wp2_with (go_at_call 25; refine (HTOP.out _ (Turn.refl _ w)).mono ?_; rintro e w1 ⟨rfl, ht⟩; have HT := Lib.hid ht; clear ht)
  go_ret2
  exact ⟨rfl, sv, HM.out.later HT.out, HT.out.mono (fun _ _ f => f.elim), fun k e => e⟩

end Go.Proofs.Ythhlppdphcjlnaa.pli
