
/-
  Stage 10: what Codes and Things answer; rows of numbers and of things that a call makes.
-/
import Derived.Test.YtnapeckpjnbcgaaDcb
import Derived.Test.YtnapeckpjnbcgaaDcn
import Derived.Test.YtnapeckpjnbcgaaEr
import Derived.Test.YtnapeckpjnbcgaaEs
namespace Go.Proofs.Ytnapeckpjnbcgaa
open Go.RowKit

/-- Behind Codes, Things. -/
def Codes10 {A : Type} [DecidableEq A] (w : World) (b L : List A) (e : Ending) (w' : World) : Prop := ∃ u, e = .returned (.tuple #[u, .bool (allIn b L)]) ∧ RdE EC10 w' u (codesG b L) ∧ Turn (fun _ => False) w w'
def Things10 {A : Type} [DecidableEq A] (E : El A) (w : World) (cs : List Int) (L : List A) (e : Ending) (w' : World) : Prop := ∃ u, e = .returned (.tuple #[u, .bool (allAt cs L)]) ∧ RdE E w' u (thingsG cs L) ∧ Turn (fun _ => False) w w'

theorem code_info10 : (Try.prog.info? 3).map (fun i => (i.zero, i.size, i.bytes)) = some (some (.int .i64 0), EC10.sz, 8) := by kernel_rfl
theorem num_info10 : (Try.prog.info? 2).map (fun i => (i.zero, i.size, i.bytes)) = some (some (.int .i64 0), EC10.sz, 8) := by kernel_rfl
theorem num_zero10 : (Value.cells (.int .i64 0)).size = EC10.sz := rfl

/-- A row that make lays, of no elements yet. -/
theorem own_made10 {T : Type} (E : El T) {tS e : TypeId} {z : Value} {by' : Nat} (ht : Try.prog.underlying tS = some (.slice e)) (hi0 : (Try.prog.info? e).map (fun i => (i.zero, i.size, i.bytes)) = some (some z, E.sz, by')) (hs : E.sz = 1) (hb : by' ≤ 16)
    (N : Nat) (hN : N ≤ 1000000) (w : World) : (Instr.makeSlice tS (.int .i64 0) (.int .i64 (N : Int))).run Try.prog w = .ok (.slice (some ⟨w.heap.size, 0, none⟩) 0 N) (w.alloc (.cells (madeCells z.cells N) e)) ∧ OwE E e (w.alloc (.cells (madeCells z.cells N) e)) (.slice (some ⟨w.heap.size, 0, none⟩) 0 N) [] := by
  obtain ⟨i, hi, hz0, h1, h2⟩ := info_parts hi0
  have hNb : N * by' ≤ 1000000 * 16 := Nat.mul_le_mul hN hb
  have h := run_make (P := Try.prog) w tS e i _ ht hi hz0 .i64 .i64 0 (N : Int) (Int.le_refl _) (by omega) (by rw [h2]; first | (rw [← Int.natCast_mul, Nat.mul_comm]; omega) | (rw [← Int.natCast_mul]; omega) | (rw [Nat.mul_comm]; omega) | fail) (by omega)
  rw [h1, show ((N : Int)).toNat = N from Int.toNat_natCast N, hs, Nat.mul_one] at h
  exact ⟨h, OwE.of_box (E := E) (L := []) (c := N) (Box.new w _ _) (Nat.zero_le _) (by simp only [maxLen]; omega) (by rw [size_madeCells, hs, Nat.mul_one]) (by simp [El.flat])⟩
theorem made_codes10 (N : Nat) (hN : N ≤ 1000000) (w : World) : (Instr.makeSlice 35 (.int .i64 0) (.int .i64 (N : Int))).run Try.prog w = .ok (.slice (some ⟨w.heap.size, 0, none⟩) 0 N) (w.alloc (.cells (madeCells (Value.cells (.int .i64 0)) N) 3)) :=
  (own_made10 EC10 Try.underlying35 code_info10 rfl (by decide) N hN w).1
theorem own_codes10 (N : Nat) (hN : N ≤ 1000000) (w : World) : OwE EC10 3 (w.alloc (.cells (madeCells (Value.cells (.int .i64 0)) N) 3)) (.slice (some ⟨w.heap.size, 0, none⟩) 0 N) [] :=
  (own_made10 EC10 Try.underlying35 code_info10 rfl (by decide) N hN w).2
theorem made_nums10 (N : Nat) (hN : N ≤ 1000000) (w : World) : (Instr.makeSlice 42 (.int .i64 0) (.int .i64 (N : Int))).run Try.prog w = .ok (.slice (some ⟨w.heap.size, 0, none⟩) 0 N) (w.alloc (.cells (madeCells (Value.cells (.int .i64 0)) N) 2)) :=
  (own_made10 EC10 Try.underlying42 num_info10 rfl (by decide) N hN w).1
theorem own_nums10 (N : Nat) (hN : N ≤ 1000000) (w : World) : OwE EC10 2 (w.alloc (.cells (madeCells (Value.cells (.int .i64 0)) N) 2)) (.slice (some ⟨w.heap.size, 0, none⟩) 0 N) [] :=
  (own_made10 EC10 Try.underlying42 num_info10 rfl (by decide) N hN w).2
theorem made_texts10 (N : Nat) (hN : N ≤ 1000000) (w : World) : (Instr.makeSlice 22 (.int .i64 0) (.int .i64 (N : Int))).run Try.prog w = .ok (.slice (some ⟨w.heap.size, 0, none⟩) 0 N) (w.alloc (.cells (madeCells (Value.cells (.string ⟨#[]⟩)) N) 9)) :=
  (own_made10 ET10 Try.underlying22 str_info10 rfl (by decide) N hN w).1
theorem own_texts10 (N : Nat) (hN : N ≤ 1000000) (w : World) : OwE ET10 9 (w.alloc (.cells (madeCells (Value.cells (.string ⟨#[]⟩)) N) 9)) (.slice (some ⟨w.heap.size, 0, none⟩) 0 N) [] :=
  (own_made10 ET10 Try.underlying22 str_info10 rfl (by decide) N hN w).2

/-- append onto a row of numbers, of texts. -/
theorem wpList_codes10 (w : World) {ops : Array Oper} {rest : List Oper} {o : Oper} {a : Act} {Q : Exit → Act → World → Prop} (hgd : o.guard = none) (s x : Operand)
    (ho : o.op = .call { callee := .builtin .append, args := #[s, x], argTypes := #[35, 35] }) (v : Value) (l : List Int) (hs : a.eval s = v) (hown : OwE EC10 3 w v l)
    (y : Value) (hx : a.eval x = y) (m : List Int) (hy : RdE EC10 w y m) (hl : l.length + m.length ≤ 3000000)
    (h : ∀ A n c w', OwE EC10 3 w' (.slice A n c) (l ++ m) → Turn (fun k => v.ownBlock = some k) w w' → ((Value.slice A n c).ownBlock = v.ownBlock ∨ (Value.slice A n c).ownBlock = some w.heap.size) → wpList Try.prog ops Q rest (a.put o.dst (.slice A n c)) w') :
    wpList Try.prog ops Q (o :: rest) a w :=
  wpList_appE Try.underlying35 code_info10 num_zero10 w hgd s x _ ho v l hs hown y hx m (hy.src Try.underlying35) (by simp only [maxLen]; omega) (by omega) h
theorem wpList_nums10 (w : World) {ops : Array Oper} {rest : List Oper} {o : Oper} {a : Act} {Q : Exit → Act → World → Prop} (hgd : o.guard = none) (s x : Operand)
    (ho : o.op = .call { callee := .builtin .append, args := #[s, x], argTypes := #[42, 42] }) (v : Value) (l : List Int) (hs : a.eval s = v) (hown : OwE EC10 2 w v l)
    (y : Value) (hx : a.eval x = y) (m : List Int) (hy : RdE EC10 w y m) (hl : l.length + m.length ≤ 3000000)
    (h : ∀ A n c w', OwE EC10 2 w' (.slice A n c) (l ++ m) → Turn (fun k => v.ownBlock = some k) w w' → ((Value.slice A n c).ownBlock = v.ownBlock ∨ (Value.slice A n c).ownBlock = some w.heap.size) → wpList Try.prog ops Q rest (a.put o.dst (.slice A n c)) w') :
    wpList Try.prog ops Q (o :: rest) a w :=
  wpList_appE Try.underlying42 num_info10 num_zero10 w hgd s x _ ho v l hs hown y hx m (hy.src Try.underlying42) (by simp only [maxLen]; omega) (by omega) h
theorem wpList_texts10 (w : World) {ops : Array Oper} {rest : List Oper} {o : Oper} {a : Act} {Q : Exit → Act → World → Prop} (hgd : o.guard = none) (s x : Operand)
    (ho : o.op = .call { callee := .builtin .append, args := #[s, x], argTypes := #[22, 22] }) (v : Value) (l : List (List UInt8)) (hs : a.eval s = v) (hown : OwE ET10 9 w v l)
    (y : Value) (hx : a.eval x = y) (m : List (List UInt8)) (hy : RdE ET10 w y m) (hl : l.length + m.length ≤ 3000000)
    (h : ∀ A n c w', OwE ET10 9 w' (.slice A n c) (l ++ m) → Turn (fun k => v.ownBlock = some k) w w' → ((Value.slice A n c).ownBlock = v.ownBlock ∨ (Value.slice A n c).ownBlock = some w.heap.size) → wpList Try.prog ops Q rest (a.put o.dst (.slice A n c)) w') :
    wpList Try.prog ops Q (o :: rest) a w :=
  wpList_appE Try.underlying22 str_info10 str_zero10 w hgd s x _ ho v l hs hown y hx m (hy.src Try.underlying22) (by simp only [maxLen]; omega) (by omega) h

end Go.Proofs.Ytnapeckpjnbcgaa
