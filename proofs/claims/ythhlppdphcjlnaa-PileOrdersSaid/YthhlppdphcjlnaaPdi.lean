
/-
  The program's pile (things: int64): New, Len, Top, Push.
-/
import Derived.Test.YthhlppdphcjlnaaPci
import Derived.Laws.ResultCell
namespace Go.Proofs.Ythhlppdphcjlnaa.pli
open Go.RowKit Go.ChangeShapes Go.WideShapes Go.Deep

/-- A pile in memory: its object at block g, its row, how many were pushed. -/
structure PP (w : World) (g : Nat) (sv : Value) (H : List (Int × Nat)) (n : Nat) : Prop where
  obj : Box w g 67 #[lessV, sv, .int .u64 (n : Int)]
  row : OwE EN 69 w sv H
theorem PP.far {w : World} {g n : Nat} {sv : Value} {H : List (Int × Nat)} (h : PP w g sv H n) : sv.ownBlock ≠ some g := h.row.not_box h.obj (by decide)
theorem PP.turn {S : Nat → Prop} {w w' : World} {g n : Nat} {sv : Value} {H : List (Int × Nat)} (h : PP w g sv H n) (ht : Turn S w w') (h1 : ¬ S g) (h2 : ∀ k, sv.ownBlock = some k → ¬ S k) : PP w' g sv H n := ⟨h.obj.turn ht h1, h.row.turn ht h2⟩
/-- A pile: its things are L, in order. -/
def Mp (w : World) (g : Nat) (sv : Value) (L : List Int) (n : Nat) : Prop :=
  ∃ H S, PP w g sv H n ∧ Rep ltN (0, 0) H S ∧ S.map (·.1) = L ∧ ∀ p ∈ S, p.2 < n
theorem Mp.turn {S : Nat → Prop} {w w' : World} {g n : Nat} {sv : Value} {L : List Int} (h : Mp w g sv L n) (ht : Turn S w w') (h1 : ¬ S g) (h2 : ∀ k, sv.ownBlock = some k → ¬ S k) : Mp w' g sv L n := by
  obtain ⟨H, S', hp, rest⟩ := h
  exact ⟨H, S', hp.turn ht h1 h2, rest⟩
theorem Mp.later {w w' : World} {g n : Nat} {sv : Value} {L : List Int} (h : Mp w g sv L n) (ht : Turn (fun _ => False) w w') : Mp w' g sv L n := h.turn ht (fun f => f) (fun _ _ f => f)
theorem Mp.lt {w : World} {g n : Nat} {sv : Value} {L : List Int} (h : Mp w g sv L n) : g < w.heap.size ∧ ∀ k, sv.ownBlock = some k → k < w.heap.size ∧ k ≠ g := by
  obtain ⟨H, S, hp, _⟩ := h
  exact ⟨hp.obj.lt, fun k hk => ⟨hp.row.lt hk, fun e => hp.far (by rw [hk, e])⟩⟩
theorem Mp.len {w : World} {g n : Nat} {sv : Value} {L : List Int} (h : Mp w g sv L n) : ∃ A c, sv = .slice A L.length c ∧ w.cell? ⟨g, 0, none⟩ = some lessV ∧ w.cell? ⟨g, 1, none⟩ = some (.slice A L.length c) := by
  obtain ⟨H, S, hp, hr, rfl, _⟩ := h
  obtain ⟨A, c, e⟩ := hp.row.shape
  rw [hr.len] at e
  have c0 := hp.obj.cell 0
  have c1 := hp.obj.cell 1
  subst e
  exact ⟨A, c, by rw [List.length_map], c0, by rw [List.length_map]; exact c1⟩

set_option maxRecDepth 100000 in
theorem new_any (w : World) : Calls Try.prog 20 #[lessV] w fun e w' => e = .returned (.pointer (some ⟨w.heap.size, 0, none⟩)) ∧ Mp w' w.heap.size (.slice none 0 0) [] 0 ∧ Turn (fun _ => False) w w' := by
  go_enter Try.func20, Try.ntmps20
  go_wp2
  go_ret
  exact ⟨rfl, ⟨[], [], ⟨Box.new _ _ _, OwE.nil _⟩, rep_nil _, rfl, fun p hp => by cases hp⟩, (Turn.refl _ w).alloc _⟩

set_option maxRecDepth 100000 in
theorem len_any (g n : Nat) (sv : Value) (L : List Int) (w : World) (h : Mp w g sv L n) : Calls Try.prog 26 #[.pointer (some ⟨g, 0, none⟩)] w fun e w' => e = .returned (.int .i64 (L.length : Int)) ∧ w = w' := by
  obtain ⟨A, c, rfl, -, hc⟩ := h.len
  clear h
  go_enter Try.func26, Try.ntmps26
  go_wp2
  go_ret
  exact ⟨rfl, rfl⟩

/-- The thing that comes first, and whether there is one. -/
def topV (L : List Int) : Value := .tuple #[match L with | [] => (.int .i64 0) | x :: _ => (.int .i64 x), .bool (!L.isEmpty)]

/-- The thing that comes first stands first in the row. -/
theorem first_at {g n : Nat} {sv : Value} {x : Int} {R : List Int} {w : World} (h : Mp w g sv (x :: R) n) :
    ∃ ad c, sv = .slice (some ad) (R.length + 1) c ∧ ∀ W, Turn (fun _ => False) w W → W.cell? ad = some (.int .i64 x) ∧ True ∧ W.cell? ⟨g, 1, none⟩ = some (.slice (some ad) (R.length + 1) c) := by
  obtain ⟨H, S, hp, hr, hL, _⟩ := h
  obtain ⟨s, T, rfl⟩ : ∃ s T, S = s :: T := by
    cases S with
    | nil => cases hL
    | cons s T => exact ⟨s, T, rfl⟩
  have hx : s.1 = x := by injection hL
  have hR : T.map (·.1) = R := by injection hL
  have h0 := hr.first weak_lt
  have hl : H.length = R.length + 1 := by rw [hr.len, ← hR]; simp
  obtain ⟨A, c, rfl⟩ := hp.row.shape
  obtain ⟨ad, rfl, -⟩ := hp.row.some_at (by omega)
  refine ⟨ad, c, by rw [hl], fun W ht => ?_⟩
  have h1 := en_at hp.row.rd h0 ht
  have e0 : ad.add (0 * 2) = ad := rfl
  rw [e0, hx] at h1
  refine ⟨h1.1, trivial, ?_⟩
  rw [← hl]
  exact (hp.obj.turn ht (fun f => f)).cell 1

set_option maxRecDepth 100000 in
set_option maxHeartbeats 2000000 in
theorem top_any (g n : Nat) (sv : Value) (L : List Int) (w : World) (h : Mp w g sv L n) : Calls Try.prog 25 #[.pointer (some ⟨g, 0, none⟩)] w fun e w' => e = .returned (topV L) ∧ Turn (fun _ => False) w w' := by
  have HM := Lib.hid h
  have HL := Lib.hid (fun w' ht => len_any g n sv L w' (h.later ht))
  cases L with
  | nil =>
    clear h
    go_enter Try.func25, Try.ntmps25
    go_wp2_with (go_at_call 26; refine (HL.out _ (Turn.refl _ w)).mono ?_; rintro e w' ⟨rfl, rfl⟩)
    go_ret2
    exact ⟨rfl, Turn.refl _ w⟩
  | cons x R =>
    obtain ⟨ad, c, rfl, HC⟩ := first_at h
    have HCC := Lib.hid HC
    have hc1 := (HCC.out w (Turn.refl _ w)).2.2
    have hr1 : (0 : Int) < (R.length : Int) + 1 := by omega
    clear h HC
    obtain ⟨hx0, -⟩ := HCC.out w (Turn.refl _ w)
    go_enter Try.func25, Try.ntmps25
    go_wp2_with (go_at_call 26; refine (HL.out _ (Turn.refl _ w)).mono ?_; rintro e w' ⟨rfl, rfl⟩)
    go_ret2
    exact ⟨rfl, Turn.refl _ w⟩

end Go.Proofs.Ythhlppdphcjlnaa.pli
