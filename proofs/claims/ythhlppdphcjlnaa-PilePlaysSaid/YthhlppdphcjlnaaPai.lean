
/-
  The program's pile (things: int64): things and items in memory; which of two comes first.
-/
import Derived.Test.YthhlppdphcjlnaaEb
import Derived.Test.YthhlppdphcjlnaaEg
namespace Go.Proofs.Ythhlppdphcjlnaa.pli
open Go.RowKit Go.ChangeShapes Go.WideShapes Go.Deep

/-- Which of two numbers is less. -/
def ltN (a b : Int) : Bool := decide (a < b)
theorem weak_lt : Weak ltN := weak_int (fun p : Int => p)
/-- A thing's cells. -/
def ET : El Int where
  sz := 1
  enc p := [.int .i64 p]
  len _ := rfl
  one p u hu := by rw [List.mem_singleton.1 hu]; rfl
/-- An item's cells. -/
def EN : El (Int × Nat) where
  sz := 2
  enc p := [.int .i64 p.1, .int .u64 (p.2 : Int)]
  len _ := rfl
  one p u hu := by
    rcases List.mem_cons.1 hu with rfl | hu
    · rfl
    · rw [List.mem_singleton.1 hu]; rfl
/-- An item, as a value. -/
abbrev nv (p : Int × Nat) : Value := .agg #[.int .i64 p.1, .int .u64 (p.2 : Int)]
/-- The order's function, as a value. -/
abbrev lessV : Value := .func (.func 21) #[] #[]
/-- The pile's own order, as a value: a method of the pile at block g. -/
abbrev aheadV (g : Nat) : Value := .func (.func 34) #[.pointer (some ⟨g, 0, none⟩)] #[]
theorem thing_info : (Try.prog.info? 2).map (fun i => (i.zero, i.size, i.bytes)) = some (some (.int .i64 0), ET.sz, 8) := by kernel_rfl
theorem thing_zero : (Value.cells (.int .i64 0)).size = ET.sz := rfl
theorem item_info : (Try.prog.info? 69).map (fun i => (i.zero, i.size, i.bytes)) = some (some (.agg #[.int .i64 0, .int .u64 0]), EN.sz, 16) := by kernel_rfl
theorem item_zero : (Value.cells (.agg #[.int .i64 0, .int .u64 0])).size = EN.sz := rfl

set_option maxRecDepth 100000 in
theorem less_any (a b : Int) (w : World) : Calls Try.prog 21 #[(.int .i64 a), (.int .i64 b)] w fun e w' => e = .returned (.bool (ltN a b)) ∧ Turn (fun _ => False) w w' := by
  unfold ltN
  go_enter Try.func21, Try.ntmps21
  go_wp2
  go_ret
  exact ⟨rfl, Turn.refl _ w⟩

/-- Which of two items comes first, as the program asks it. -/
theorem bef_asks (p q : Int × Nat) : bef ltN p q = if p.2 < q.2 then !ltN q.1 p.1 else ltN p.1 q.1 := by
  unfold bef
  split
  · rename_i h
    cases h1 : ltN p.1 q.1 with
    | true => rw [weak_lt.asym _ _ h1]; rfl
    | false => simp [h]
  · rename_i h
    simp [h]

/-- What the order's loads read. -/
def SA (g b : Nat) (x y : Int) (W : World) : Prop := W.cell? ⟨g, 0, none⟩ = some lessV ∧ W.cell? ⟨b, 0, none⟩ = some (.int .i64 x) ∧ W.cell? ⟨b + 1, 0, none⟩ = some (.int .i64 y)
set_option maxRecDepth 100000 in
set_option maxHeartbeats 2000000 in
theorem ahead_any (p q : Int × Nat) (g : Nat) (w : World) (hg : w.cell? ⟨g, 0, none⟩ = some lessV) :
    Calls Try.prog 34 #[.pointer (some ⟨g, 0, none⟩), nv p, nv q] w fun e w' => e = .returned (.bool (bef ltN p q)) ∧ Turn (fun _ => False) w w' := by
  rw [bef_asks]
  obtain ⟨x, m⟩ := p
  obtain ⟨y, n⟩ := q
  unfold nv
  dsimp only
  obtain ⟨w0, hw0⟩ : ∃ w0, w0 = (w.alloc (.cells #[.int .i64 x, .int .u64 (m : Int)] 69)).alloc (.cells #[.int .i64 y, .int .u64 (n : Int)] 69) := ⟨_, rfl⟩
  have HT0 : Hid (Turn (fun _ => False) w w0) := by rw [hw0]; exact ((Turn.refl _ w).alloc _).alloc _
  have HB1 : Hid (Box w0 w.heap.size 69 #[.int .i64 x, .int .u64 (m : Int)]) := by rw [hw0]; exact (Box.new w _ _).alloc _
  have HB2 : Hid (Box w0 (w.heap.size + 1) 69 #[.int .i64 y, .int .u64 (n : Int)]) := by rw [hw0]; have h := Box.new (w.alloc (.cells #[.int .i64 x, .int .u64 (m : Int)] 69)) 69 #[.int .i64 y, .int .u64 (n : Int)]; rw [World.size_alloc] at h; exact h
  have hg0 : w0.cell? ⟨g, 0, none⟩ = some lessV := by rw [hw0, World.cell?_alloc_some _ _ _ (by rw [World.cell?_alloc_some _ _ _ (by rw [hg]; rfl), hg]; rfl), World.cell?_alloc_some _ _ _ (by rw [hg]; rfl), hg]
  have HSK : Hid (∀ W, Turn (fun _ => False) w0 W → SA g w.heap.size x y W ∧ Turn (fun _ => False) w0 W) := fun W ht =>
    ⟨⟨by rw [ht.cell (World.block_lt_of_cell? _ _ hg0) (fun f => f)]; exact hg0, (HB1.out.turn ht (fun f => f)).cell 0, (HB2.out.turn ht (fun f => f)).cell 0⟩, ht⟩
  have HLA := Lib.hid (less_any x y)
  have HLB := Lib.hid (less_any y x)
  have HW0 := Lib.hid hw0
  have HTR : Hid (∀ W, Turn (fun _ => False) w0 W → Turn (fun _ => False) w W) := fun W ht => HT0.out.trans ht (fun _ _ f => f)
  have c1 := HB1.out.cell 0
  have c2 := HB2.out.cell 0
  have c3 := HB1.out.cell 1
  have c4 := HB2.out.cell 1
  clear hg
  by_cases hmn : m < n
  · rw [if_pos hmn]
    have hmi : (m : Int) < n := by omega
    go_enter Try.func34, Try.ntmps34
    clear hw0
    go_wp2_with fail
    rw [← HW0.out]
    go_wp2_with fail
    unfold SA at HSK
    go_region_held3 (fun W => (W.cell? ⟨g, 0, none⟩ = some lessV ∧ W.cell? ⟨w.heap.size, 0, none⟩ = some (.int .i64 x) ∧ W.cell? ⟨w.heap.size + 1, 0, none⟩ = some (.int .i64 y)) ∧ Turn (fun _ => False) w0 W)
      (first | exact HSK.out _ HTN.out | exact HSK.out _ (Turn.refl _ w0).drew | fail)
      (first
        | (go_at_call 21; refine (HLB.out _).mono ?_; rintro e w2 ⟨rfl, ht⟩; have HTN := Lib.hid ((Turn.refl (fun _ => False) w0).drew.trans ht (fun _ _ f => f)); clear ht)
        | fail)
    all_goals go_wp2
    all_goals go_ret
    all_goals exact ⟨rfl, HTR.out _ HTN.out⟩
  · rw [if_neg hmn]
    have hmi : ¬ (m : Int) < n := by omega
    go_enter Try.func34, Try.ntmps34
    clear hw0
    go_wp2_with fail
    rw [← HW0.out]
    go_wp2_with fail
    unfold SA at HSK
    go_region_held3 (fun W => (W.cell? ⟨g, 0, none⟩ = some lessV ∧ W.cell? ⟨w.heap.size, 0, none⟩ = some (.int .i64 x) ∧ W.cell? ⟨w.heap.size + 1, 0, none⟩ = some (.int .i64 y)) ∧ Turn (fun _ => False) w0 W)
      (first | exact HSK.out _ HTN.out | exact HSK.out _ (Turn.refl _ w0).drew | fail)
      (first
        | (go_at_call 21; refine (HLA.out _).mono ?_; rintro e w2 ⟨rfl, ht⟩; have HTN := Lib.hid ((Turn.refl (fun _ => False) w0).drew.trans ht (fun _ _ f => f)); clear ht)
        | fail)
    all_goals go_wp2
    all_goals go_ret
    all_goals exact ⟨rfl, HTR.out _ HTN.out⟩

end Go.Proofs.Ythhlppdphcjlnaa.pli
