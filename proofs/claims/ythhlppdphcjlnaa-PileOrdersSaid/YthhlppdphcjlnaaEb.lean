
/-
  The document's pile of items, in memory: Push, Pop, Sort; items held against each other.
-/
import Derived.Test.YthhlppdphcjlnaaEa
import Derived.Test.YthhlppdphcjlnaaJb
import Derived.Test.YthhlppdphcjlnaaGf
import Derived.BigQuiet
import Derived.Deep.RegionHeld3
import Derived.Laws.ResultCell
namespace Go.Proofs.Ythhlppdphcjlnaa
open Go.RowKit Go.ChangeShapes Go.WideShapes Go.Deep

/-- A weight and a name, as an item's cells. -/
def EI : El (Int × List UInt8) where
  sz := 2
  enc p := [.int .i64 p.1, .string ⟨p.2.toArray⟩]
  len _ := rfl
  one p u hu := by
    rcases List.mem_cons.1 hu with rfl | hu
    · rfl
    · rw [List.mem_singleton.1 hu]; rfl
/-- Which of two items is lighter. -/
def ltW (a b : Int × List UInt8) : Bool := decide (a.1 < b.1)
theorem weak_ltW : Weak ltW := weak_int (fun p : Int × List UInt8 => p.1)
/-- An item, as a value. -/
def iv (p : Int × List UInt8) : Value := .agg #[.int .i64 p.1, .string ⟨p.2.toArray⟩]
abbrev NewI := NewE EI 27
theorem item_at {w : World} {A : Option Addr} {n c : Nat} {L : List (Int × List UInt8)} (h : RdE EI w (.slice A n c) L) {j : Nat} {p : Int × List UInt8} (hj : L[j]? = some p) :
    ∃ ad, A = some ad ∧ ∀ W, Turn (fun _ => False) w W → W.cell? (ad.add (j * 2)) = some (.int .i64 p.1) ∧ W.cell? ⟨(ad.add (j * 2)).block, (ad.add (j * 2)).off + 1, none⟩ = some (.string ⟨p.2.toArray⟩) := by
  obtain ⟨ad, hA, _⟩ := h.cells hj
  refine ⟨ad, hA, fun W ht => ?_⟩
  obtain ⟨ad', hA', hc⟩ := (h.later ht).cells hj
  rw [hA] at hA'
  cases hA'
  exact ⟨hc 0 _ rfl, by rw [show (⟨(ad.add (j * 2)).block, (ad.add (j * 2)).off + 1, none⟩ : Addr) = (ad.add (j * 2)).add 1 from rfl, eadd_add]; exact hc 1 _ rfl⟩
theorem item_info : (Try.prog.info? 27).map (fun i => (i.zero, i.size, i.bytes)) = some (some (.agg #[.int .i64 0, .string ⟨#[]⟩]), EI.sz, 24) := by kernel_rfl
theorem item_zero : (Value.agg #[.int .i64 0, .string ⟨#[]⟩]).cells.size = EI.sz := rfl
theorem step_items (w : World) {ops : Array Oper} {o : Oper} {a : Act} {K : Act → World → Prop} {Q : Exit → Act → World → Prop} {F : Prop} (hgd : o.guard = none) (s x : Operand)
    (ho : o.op = .call { callee := .builtin .append, args := #[s, x], argTypes := #[30, 30] }) (v : Value) (l : List (Int × List UInt8)) (hs : a.eval s = v) (hown : OwE EI 27 w v l)
    (y : Value) (hx : a.eval x = y) (m : List (Int × List UInt8)) (hy : RdE EI w y m) (hl : l.length + m.length ≤ 3000000)
    (h : ∀ A n c w', OwE EI 27 w' (.slice A n c) (l ++ m) → Turn (fun k => v.ownBlock = some k) w w' → ((Value.slice A n c).ownBlock = v.ownBlock ∨ (Value.slice A n c).ownBlock = some w.heap.size) → K (a.put o.dst (.slice A n c)) w') :
    if Region.wanted o (yielded ops a.tmps) = true then Oper.wp Try.prog o a w K Q else F :=
  step_appE Try.underlying30 item_info item_zero w hgd s x _ ho v l hs hown y hx m (hy.src Try.underlying30) (by simp only [maxLen]; omega) (by omega) h
/-- The same, with the operation as it is written. -/
theorem put_items {w : World} {ops : Array Oper} {d : Option Nat} {ty : TypeId} {pos : String} {af : Array Edge} {s x : Operand} {a : Act} {K : Act → World → Prop} {Q : Exit → Act → World → Prop} {F : Prop} (l : List (Int × List UInt8)) (hown : OwE EI 27 w (a.eval s) l)
    (m : List (Int × List UInt8)) (hy : RdE EI w (a.eval x) m) (hl : l.length + m.length ≤ 3000000)
    (h : ∀ A n c w', OwE EI 27 w' (.slice A n c) (l ++ m) → Turn (fun k => (a.eval s).ownBlock = some k) w w' → ((Value.slice A n c).ownBlock = (a.eval s).ownBlock ∨ (Value.slice A n c).ownBlock = some w.heap.size) → K (a.put d (.slice A n c)) w') :
    if Region.wanted { dst := d, op := .call { callee := .builtin .append, args := #[s, x], argTypes := #[30, 30] }, type := ty, pos := pos, after := af, guard := none } (yielded ops a.tmps) = true then Oper.wp Try.prog { dst := d, op := .call { callee := .builtin .append, args := #[s, x], argTypes := #[30, 30] }, type := ty, pos := pos, after := af, guard := none } a w K Q else F :=
  step_items w rfl s x rfl (a.eval s) l rfl hown (a.eval x) rfl m hy hl h
theorem item_src (w : World) (p : Int × List UInt8) : RdE EI (w.alloc (.cells #[.int .i64 p.1, .string ⟨p.2.toArray⟩] 27)) (.slice (some ⟨w.heap.size, 0, none⟩) 1 1) [p] :=
  (OwE.made (E := EI) (e := 27) w [p] (by show (1 : Nat) ≤ maxLen; simp [maxLen])).rd

/-- The document's pile: its object at block g, its items. -/
structure RP (w : World) (g : Nat) (sv : Value) (L : List (Int × List UInt8)) : Prop where
  obj : Box w g 32 #[sv]
  row : RdE EI w sv L
  far : sv.ownBlock ≠ some g
theorem RP.turn {S : Nat → Prop} {w w' : World} {g : Nat} {sv : Value} {L : List (Int × List UInt8)} (h : RP w g sv L) (ht : Turn S w w') (h1 : ¬ S g) (h2 : ∀ k, sv.ownBlock = some k → ¬ S k) : RP w' g sv L :=
  ⟨h.obj.turn ht h1, h.row.turn ht h2, h.far⟩
theorem RP.later {w w' : World} {g : Nat} {sv : Value} {L : List (Int × List UInt8)} (h : RP w g sv L) (ht : Turn (fun _ => False) w w') : RP w' g sv L := h.turn ht (fun f => f) (fun _ _ f => f)
theorem rp_set {w w3 : World} {g : Nat} {sv v : Value} {L M : List (Int × List UInt8)} (h : RP w g sv L) (hn : NewI w w3 v M) :
    ∃ sv', RP (w3.setCell ⟨g, 0, none⟩ v) g sv' M ∧ Turn (fun j => j = g) w (w3.setCell ⟨g, 0, none⟩ v) ∧ ∀ j, sv'.ownBlock = some j → w.heap.size ≤ j := by
  have hlt := h.obj.lt
  have hne : v.ownBlock ≠ some g := fun e => by have := hn.new g e; omega
  refine ⟨v, ⟨?_, (hn.own.rd).turn (Turn.setCell (S := fun k => k = g) (p := ⟨g, 0, none⟩) (Turn.refl _ w3) (fun _ => rfl) _) (fun b hb e => hne (by rw [hb, e])), hne⟩, Turn.setCell (S := fun j => j = g) (p := ⟨g, 0, none⟩) (hn.turn.mono (fun _ _ f => f.elim)) (fun _ => rfl) _, hn.new⟩
  exact (h.obj.turn hn.turn (fun f => f)).set 0 v

theorem empty_a (w0 : World) (m : Nat) : NewI w0 ((w0.drewN m).alloc (.cells #[] 27)) (.slice (some ⟨w0.heap.size, 0, none⟩) 0 0) [] := NewE.empty w0 (w0.drewN m) ((Turn.refl _ w0).drewN m)
theorem empty_b (w0 : World) (m : Nat) (X : Obj) : NewI w0 (((w0.drewN m).alloc (.cells #[] 27)).alloc X) (.slice (some ⟨w0.heap.size, 0, none⟩) 0 0) [] := (empty_a w0 m).alloc X
theorem empty_c (w0 : World) (m : Nat) (X : Obj) : NewI w0 (((w0.drewN m).alloc X).alloc (.cells #[] 27)) (.slice (some ⟨w0.heap.size + 1, 0, none⟩) 0 0) [] := by
  have h := NewE.empty (E := EI) (e := 27) w0 ((w0.drewN m).alloc X) (((Turn.refl _ w0).drewN m).alloc X)
  rw [World.size_alloc] at h
  exact h
theorem src_b (w0 : World) (m : Nat) (k : Int) (s : List UInt8) : RdE EI (((w0.drewN m).alloc (.cells #[] 27)).alloc (.cells #[.int .i64 k, .string ⟨s.toArray⟩] 27)) (.slice (some ⟨w0.heap.size + 1, 0, none⟩) 1 1) [(k, s)] := by
  have h := item_src ((w0.drewN m).alloc (.cells #[] 27)) (k, s)
  rw [World.size_alloc] at h
  exact h
theorem src_c (w0 : World) (m : Nat) (k : Int) (s : List UInt8) : RdE EI (((w0.drewN m).alloc (.cells #[.int .i64 k, .string ⟨s.toArray⟩] 27)).alloc (.cells #[] 27)) (.slice (some ⟨w0.heap.size, 0, none⟩) 1 1) [(k, s)] :=
  (item_src (w0.drewN m) (k, s)).later ((Turn.refl _ _).alloc _)

set_option maxRecDepth 100000 in
theorem lighter_any (a b : Int × List UInt8) (w : World) : Calls Try.prog 9 #[iv a, iv b] w fun e w' => e = .returned (.bool (ltW a b)) ∧ Turn (fun _ => False) w w' := by
  unfold iv ltW
  go_enter Try.func9, Try.ntmps9
  go_wp2
  go_ret
  exact ⟨rfl, ((Turn.refl _ w).alloc _).alloc _⟩

end Go.Proofs.Ythhlppdphcjlnaa
