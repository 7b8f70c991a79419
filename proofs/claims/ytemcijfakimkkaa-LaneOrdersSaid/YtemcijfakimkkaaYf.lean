
/-
  Stage 8: the program's lanes that a call has made; the chapter's example.
-/
import Derived.Test.YtemcijfakimkkaaYe
namespace Go.Proofs.Ytemcijfakimkkaa
open Go.RowKit Go.Conc Go.ChangeShapes Go.WideShapes Go.Deep

set_option maxRecDepth 100000

/-- Lanes, new since world w. -/
def Own8 (w : World) (g ar : Nat) (cs : List Nat) (room : Nat) (LL : List (List Int)) (W : World) : Prop := LP W g ar cs room LL ∧ (∀ c ∈ cs, w.heap.size ≤ c) ∧ Turn (fun _ => False) w W
section
variable {g ar room : Nat} {cs : List Nat} {LL : List (List Int)} {w W : World}
theorem Own8.later {W2 : World} (h : Own8 w g ar cs room LL W) (ht : Turn (fun _ => False) W W2) : Own8 w g ar cs room LL W2 := ⟨h.1.later ht, h.2.1, h.2.2.trans ht (fun _ _ f => f)⟩
theorem Own8.step {W2 : World} {LL2 : List (List Int)} (h : Own8 w g ar cs room LL W) (h2 : LP W2 g ar cs room LL2) (ht : Turn (fun k => k ∈ cs) W W2) : Own8 w g ar cs room LL2 W2 := ⟨h2, h.2.1, h.2.2.trans ht (fun k hk e => by have := h.2.1 k e; omega)⟩
theorem own_put (i x : Int) (h : Own8 w g ar cs room LL W) : Calls Try.prog 12 #[.pointer (some ⟨g, 0, none⟩), .int .i64 i, .int .i64 x] W fun e w' => e = .returned (.int .i64 (putF room LL i)) ∧ Own8 w g ar cs room (putL room LL i x) w' :=
  (lp_put i x h.1).mono fun _ _ ⟨e, h2, t2⟩ => ⟨e, h.step h2 t2⟩
theorem own_take (h : Own8 w g ar cs room LL W) : Calls Try.prog 13 #[.pointer (some ⟨g, 0, none⟩)] W fun e w' => e = .returned (.tuple #[.int .i64 (takeI LL), .int .i64 (takeX LL), .bool (takeB LL)]) ∧ Own8 w g ar cs room (takeL LL) w' :=
  (take_any h.1).mono fun _ _ ⟨e, h2, t2⟩ => ⟨e, h.step h2 t2⟩
end
theorem own_new (n room : Nat) (w W : World) (ht : Turn (fun _ => False) w W) (h1 : 1 ≤ n) (h8 : n ≤ 8) (hr1 : 1 ≤ room) (h64 : room ≤ 64) : Calls Try.prog 7 #[.int .i64 (n : Int), .int .i64 (room : Int)] W fun e w' =>
    ∃ g ar cs, e = .returned (.tuple #[.pointer (some ⟨g, 0, none⟩), .int .i64 0]) ∧ Own8 w g ar cs room (List.replicate n []) w' ∧ Turn (fun _ => False) W w' :=
  (new_good n room W h1 h8 hr1 h64).mono fun _ _ ⟨g, ar, cs, e, h2, h3, h4⟩ => ⟨g, ar, cs, e, ⟨h2, fun c hc => Nat.le_trans ht.size (h3 c hc), ht.trans h4 (fun _ _ f => f)⟩, h4⟩

set_option maxHeartbeats 2000000 in
theorem alive_any8 (w : World) : Calls Try.prog 6 #[] w fun e w' => e = .returned (.bool true) ∧ Turn (fun _ => False) w w' := by
  go_enter Try.func6, Try.ntmps6
  go_wp2_with fail
  refine (own_new 2 3 w w (Turn.refl _ w) (by omega) (by omega) (by omega) (by omega)).mono ?_
  rintro e w1 ⟨g, ar, cs, rfl, h1, -⟩
  have H1 := Lib.hid h1; clear h1
  go_wp2_with fail
  refine (own_put 1 7 H1.out).mono ?_
  rintro e w2 ⟨rfl, h2⟩
  have H2 : Hid (Own8 w g ar cs 3 [[], [7]] w2) := h2
  clear h2
  go_wp2_with fail
  refine (own_put 0 9 H2.out).mono ?_
  rintro e w3 ⟨rfl, h3⟩
  have H3 : Hid (Own8 w g ar cs 3 [[9], [7]] w3) := h3
  clear h3
  go_wp2_with fail
  refine (own_take H3.out).mono ?_
  rintro e w4 ⟨rfl, h4⟩
  have H4 : Hid (Own8 w g ar cs 3 [[], [7]] w4) := h4
  clear h4
  rw [show takeI [[9], [7]] = 0 from rfl, show takeX [[9], [7]] = 9 from rfl, show takeB [[9], [7]] = true from rfl]
  have HL : Hid (Calls Try.prog 11 #[.pointer (some ⟨g, 0, none⟩), .int .i64 1] w4 fun e w' => e = .returned (.int .i64 1) ∧ w4 = w') := lp_len 1 H4.out.1
  go_wp2_with fail
  refine HL.out.mono ?_
  rintro e w5 ⟨rfl, rfl⟩
  go_wp2
  go_ret
  exact ⟨rfl, H4.out.2.2⟩

end Go.Proofs.Ytemcijfakimkkaa
