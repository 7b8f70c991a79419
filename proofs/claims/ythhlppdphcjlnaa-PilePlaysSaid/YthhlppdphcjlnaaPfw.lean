
/-
  The program's pile (things: ossuaryref07.Item): Pop.
-/
import Derived.Test.YthhlppdphcjlnaaPew
namespace Go.Proofs.Ythhlppdphcjlnaa.plw
open Go.RowKit Go.ChangeShapes Go.WideShapes Go.Deep

/-- What is left when the first goes, the last put in its place. -/
theorem pop_rep {d s z : (Int × List UInt8) × Nat} {H T' : List ((Int × List UInt8) × Nat)} (hr : Rep ltW d H (s :: T')) {k : Nat} (hk : H.length = k + 1) (hz : H[k]? = some z) :
    DownX (bef ltW) (at0 d ((H.set 0 z).take k)) ((H.set 0 z).take k).length 0 ∧ ((H.set 0 z).take k).Perm T' := by
  have h0 := hr.first weak_lt
  cases H with
  | nil => cases h0
  | cons r H1 =>
    obtain rfl : r = s := by simpa using h0
    have hp : H1.Perm T' := hr.perm.cons_inv
    rcases List.eq_nil_or_concat H1 with e | ⟨T, y, e⟩
    · subst e
      obtain rfl : k = 0 := by simpa using hk.symm
      refine ⟨⟨fun j h1 h2 => absurd h2 (by simp), fun h => absurd h (Nat.lt_irrefl _)⟩, ?_⟩
      simpa using hp
    · rw [List.concat_eq_append] at e
      subst e
      have hkT : k = T.length + 1 := by simpa using hk.symm
      have hzy : y = z := by
        rw [hkT, List.getElem?_cons_succ, List.getElem?_append_right (Nat.le_refl _), Nat.sub_self] at hz
        simpa using hz
      subst hzy
      have e1 : ((r :: (T ++ [y])).set 0 y).take k = y :: T := by
        rw [List.set_cons_zero, hkT, List.take_succ_cons, List.take_left]
      rw [e1]
      obtain ⟨h1, h2⟩ := pop_down (lt := bef ltW) (d := d) (z := y) (r := r) (T := T) (H := r :: (T ++ [y])) rfl hr.heap
      exact ⟨h1, h2.trans hp⟩
/-- The zero item. -/
abbrev zeroI : (Int × List UInt8) × Nat := ((0, []), 0)
/-- clear of one item of a row. -/
theorem clear_one {w : World} {ad : Addr} {n c c' : Nat} {L : List ((Int × List UInt8) × Nat)} (h : OwE EN 61 w (.slice (some ad) n c) L) {j : Nat} (hj : j < L.length) (ty : TypeId) :
    (Builtin.clear_ #[56] ty #[.slice (some (ad.add (j * 3))) 1 c']).run Try.prog w = .ok (.tuple #[]) (w.setCells ad.block (ad.off + j * 3) (EN.enc zeroI)) := by
  have ht := h.there hj
  obtain ⟨cur, ha, -⟩ := h.home
  have hadd : ad.add (j * 3) = ⟨ad.block, ad.off + j * 3, none⟩ := by
    obtain ⟨b, o, s⟩ := ad
    simp only [Addr.mk.injEq, true_and] at ha
    obtain ⟨rfl, rfl⟩ := ha
    rw [own_add, Nat.zero_add]
  have hv : ∀ w, (zeroValue 61).run Try.prog w = .ok (.agg #[.int .i64 0, .string ⟨#[]⟩, .int .u64 0]) w := fun w => by kernel_rfl
  have hst := run_storeCells_cells (P := Try.prog) ad.block (ad.off + j * 3) (EN.enc zeroI) 0 w (fun i hi => (ht i (by rw [EN.len] at hi; exact hi)).1) (fun i hi => (ht i (by rw [EN.len] at hi; exact hi)).2) (EN.one zeroI)
  have e : (Builtin.zeroCells (Value.cells (.agg #[.int .i64 0, .string ⟨#[]⟩, .int .u64 0])) 1).toList = EN.enc zeroI := by kernel_rfl
  rw [hadd]
  simp [Builtin.clear_, run_underlying Try.underlying56, hv]
  rw [e]
  simp only [Nat.add_zero] at hst
  rw [hst]
  rfl

/-- Behind a pop. -/
def Popped (w : World) (g : Nat) (sv : Value) (L : List (Int × List UInt8)) (n : Nat) (v : Value) (e : Ending) (w' : World) : Prop :=
  e = .returned v ∧ ∃ sv', Mp w' g sv' L n ∧ Turn (fun k => k = g ∨ sv.ownBlock = some k) w w' ∧ ∀ k, sv'.ownBlock = some k → sv.ownBlock = some k

set_option maxRecDepth 100000 in
set_option maxHeartbeats 4000000 in
theorem pop_none (g n : Nat) (sv : Value) (w : World) (h : Mp w g sv [] n) :
    Calls Try.prog 12 #[.pointer (some ⟨g, 0, none⟩)] w fun e w' => Popped w g sv [] n (.tuple #[(.agg #[.int .i64 0, .string ⟨#[]⟩]), .bool false]) e w' := by
  have HM := Lib.hid h
  have HTOP : Hid (∀ W, Turn (fun _ => False) w W → Calls Try.prog 14 #[.pointer (some ⟨g, 0, none⟩)] W fun e w' => e = .returned (.tuple #[(.agg #[.int .i64 0, .string ⟨#[]⟩]), .bool false]) ∧ Turn (fun _ => False) W w') := fun W ht => top_any g n sv [] W (h.later ht)
  clear h
  go_enter Try.func12, Try.ntmps12
  go_wp2_with (go_at_call 14; refine (HTOP.out _ ((Turn.refl _ w).alloc _)).mono ?_; rintro e w1 ⟨rfl, ht⟩; have HT := Lib.hid (((Turn.refl (fun _ => False) w).alloc (.cells #[.int .i64 0, .string ⟨#[]⟩] 27)).trans ht (fun _ _ f => f)); have HR := Lib.hid (((Box.new w 27 #[.int .i64 0, .string ⟨#[]⟩]).turn ht (fun f => f)).alloc (.cells #[.int .i64 0, .string ⟨#[]⟩] 27)); clear ht; have r0 := HR.out.cell 0; have r1 := HR.out.cell 1; have r2 := HR.out.free 0; have r3 := HR.out.free 1)
  have HTE : Hid (Turn (fun _ => False) w (((w1.alloc (.cells #[.int .i64 0, .string ⟨#[]⟩] 27)).setCell ⟨w.heap.size, 0, none⟩ (.int .i64 0)).setCell ⟨w.heap.size, 1, none⟩ (.string ⟨#[]⟩))) :=
    Turn.setCell (Turn.setCell (HT.out.alloc _) (fun e => absurd e (Nat.lt_irrefl _)) _) (fun e => absurd e (Nat.lt_irrefl _)) _
  refine bodyPost_ret (v := .tuple #[(.agg #[.int .i64 0, .string ⟨#[]⟩]), .bool false]) ?_ rfl ⟨rfl, sv, HM.out.later HTE.out, HTE.out.mono (fun _ _ f => f.elim), fun k e => e⟩
  rw [results_cell_tmp rfl]
  go_simp

end Go.Proofs.Ythhlppdphcjlnaa.plw
