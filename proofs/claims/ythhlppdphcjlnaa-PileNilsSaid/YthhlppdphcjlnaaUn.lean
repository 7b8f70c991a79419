
/-
  Stage 7: nil piles of numbers, and piles of numbers without an order.
-/
import Derived.Test.YthhlppdphcjlnaaUa
namespace Go.Proofs.Ythhlppdphcjlnaa
open Go.RowKit Go.ChangeShapes Go.WideShapes Go.Deep pli

set_option maxRecDepth 100000

theorem nil_push (x : Int) (w : World) : Calls Try.prog 22 #[.pointer none, .int .i64 x] w fun e w' => (∃ v, e = .returned v) ∧ w = w' := by
  go_enter Try.func22, Try.ntmps22
  go_wp2
  refine bodyPost_ret (results_none rfl _ _ _) rfl ?_
  exact ⟨⟨_, rfl⟩, rfl⟩
theorem nil_len (w : World) : Calls Try.prog 26 #[.pointer none] w fun e w' => e = .returned (.int .i64 0) ∧ w = w' := by
  go_enter Try.func26, Try.ntmps26
  go_wp2
  go_ret
  exact ⟨rfl, rfl⟩
theorem nil_top (w : World) : Calls Try.prog 25 #[.pointer none] w fun e w' => e = .returned (.tuple #[.int .i64 0, .bool false]) ∧ w = w' := by
  have HL := Lib.hid (nil_len w)
  go_enter Try.func25, Try.ntmps25
  go_wp2_with (go_at_call 26; refine HL.out.mono ?_; rintro e w' ⟨rfl, rfl⟩)
  go_ret2
  exact ⟨rfl, rfl⟩
theorem nil_pop (w : World) : Calls Try.prog 23 #[.pointer none] w fun e w' => e = .returned (.tuple #[.int .i64 0, .bool false]) ∧ w = w' := by
  have HL := Lib.hid (nil_top w)
  go_enter Try.func23, Try.ntmps23
  go_wp2_with (go_at_call 25; refine HL.out.mono ?_; rintro e w' ⟨rfl, rfl⟩)
  go_ret2
  exact ⟨rfl, rfl⟩
theorem nil_sorted (w : World) : Calls Try.prog 24 #[.pointer none] w fun e w' => e = .returned (.slice none 0 0) ∧ w = w' := by
  go_enter Try.func24, Try.ntmps24
  go_wp2
  go_ret
  exact ⟨rfl, rfl⟩

/-- A pile without an order. -/
def NPa (w : World) (g : Nat) (A : Option Addr) (c : Nat) : Prop := Box w g 67 #[.nilFunc, .slice A 0 c, .int .u64 0]
theorem NPa.later {w w' : World} {g c : Nat} {A : Option Addr} (h : NPa w g A c) (ht : Turn (fun _ => False) w w') : NPa w' g A c := Box.turn h ht (fun f => f)
abbrev NP (w : World) (g : Nat) : Prop := NPa w g none 0
theorem NP.later {w w' : World} {g : Nat} (h : NP w g) (ht : Turn (fun _ => False) w w') : NP w' g := NPa.later h ht
theorem np_new (w : World) : Calls Try.prog 20 #[.nilFunc] w fun e w' => e = .returned (.pointer (some ⟨w.heap.size, 0, none⟩)) ∧ NP w' w.heap.size ∧ Turn (fun _ => False) w w' := by
  go_enter Try.func20, Try.ntmps20
  go_wp2
  go_ret
  exact ⟨rfl, Box.new _ _ _, (Turn.refl _ w).alloc _⟩
theorem np_push (g : Nat) (x : Int) (w : World) (h : NP w g) : Calls Try.prog 22 #[.pointer (some ⟨g, 0, none⟩), .int .i64 x] w fun e w' => (∃ v, e = .returned v) ∧ w = w' := by
  have c0 := h.cell 0
  have hrun : ∀ W, Sem.run Try.prog (binOp .eql 48 .nilFunc .nilFunc) W = .ok (.bool true) W := fun W => by kernel_rfl
  clear h
  go_enter Try.func22, Try.ntmps22
  go_wp2
  refine bodyPost_ret (results_none rfl _ _ _) rfl ?_
  exact ⟨⟨_, rfl⟩, rfl⟩
theorem np_len (g : Nat) (A : Option Addr) (c : Nat) (w : World) (h : NPa w g A c) : Calls Try.prog 26 #[.pointer (some ⟨g, 0, none⟩)] w fun e w' => e = .returned (.int .i64 0) ∧ w = w' := by
  have c1 := h.cell 1
  clear h
  go_enter Try.func26, Try.ntmps26
  go_wp2
  go_ret
  exact ⟨rfl, rfl⟩
theorem np_top (g : Nat) (w : World) (h : NP w g) : Calls Try.prog 25 #[.pointer (some ⟨g, 0, none⟩)] w fun e w' => e = .returned (.tuple #[.int .i64 0, .bool false]) ∧ w = w' := by
  have HL := Lib.hid (np_len g _ _ w h)
  clear h
  go_enter Try.func25, Try.ntmps25
  go_wp2_with (go_at_call 26; refine HL.out.mono ?_; rintro e w' ⟨rfl, rfl⟩)
  go_ret2
  exact ⟨rfl, rfl⟩
theorem np_pop (g : Nat) (w : World) (h : NP w g) : Calls Try.prog 23 #[.pointer (some ⟨g, 0, none⟩)] w fun e w' => e = .returned (.tuple #[.int .i64 0, .bool false]) ∧ w = w' := by
  have HL := Lib.hid (np_top g w h)
  clear h
  go_enter Try.func23, Try.ntmps23
  go_wp2_with (go_at_call 25; refine HL.out.mono ?_; rintro e w' ⟨rfl, rfl⟩)
  go_ret2
  exact ⟨rfl, rfl⟩
/-- Behind a list that is empty. -/
def None7 (w : World) (e : Ending) (w' : World) : Prop := ∃ A c, e = .returned (.slice A 0 c) ∧ Turn (fun _ => False) w w'
set_option maxHeartbeats 2000000 in
theorem np_drain (g : Nat) (A : Option Addr) (c : Nat) (w : World) (h : NPa w g A c) : Calls Try.prog 37 #[.pointer (some ⟨g, 0, none⟩)] w fun e w' => None7 w e w' := by
  have HL := Lib.hid (fun W ht => np_len g _ _ W (NPa.later (w' := W) h ht))
  have hmk : ∀ W, (Instr.makeSlice 45 (.int .i64 0) (.int .i64 0)).run Try.prog W = .ok (.slice (some ⟨W.heap.size, 0, none⟩) 0 0) (W.alloc (.cells (madeCells (Value.cells (.int .i64 0)) 0) 2)) := fun W => made_things 0 (by omega) W
  clear h
  go_enter Try.func37, Try.ntmps37
  go_wp2_with (first
    | (go_at_call 26; refine (HL.out _ (Turn.refl _ w)).mono ?_; rintro e w2 ⟨rfl, rfl⟩)
    | (go_at_call 26; refine (HL.out _ ((Turn.refl _ w).alloc _)).mono ?_; rintro e w2 ⟨rfl, rfl⟩)
    | fail)
  go_loopw [3, 11] (fun x3 x11 wr => x11 = .int .i64 0 ∧ (∃ A c, x3 = .slice A 0 c) ∧ Turn (fun _ => False) w wr) (fun _ _ _ => 0)
  case atStart => exact ⟨rfl, ⟨_, _, rfl⟩, (Turn.refl _ w).alloc _⟩
  case round =>
    obtain ⟨rfl, ⟨A, c, rfl⟩, ht⟩ := hrel
    have HT := Lib.hid ht; clear ht
    go_wp2
    go_ret
    exact ⟨_, _, rfl, HT.out⟩
set_option maxHeartbeats 2000000 in
theorem np_sorted (g : Nat) (w : World) (h : NP w g) : Calls Try.prog 24 #[.pointer (some ⟨g, 0, none⟩)] w fun e w' => None7 w e w' := by
  have c0 := h.cell 0
  have c1 := h.cell 1
  have c2 := h.cell 2
  have d1 := (Box.alloc h (.cells #[.nilFunc, .slice none 0 0, .int .u64 0] 67)).cell 1
  have HB := Lib.hid (Box.new w 67 #[.nilFunc, .slice none 0 0, .int .u64 0])
  have HCL := Lib.hid (clone_any (.slice none 0 0) [] (w.alloc (.cells #[.nilFunc, .slice none 0 0, .int .u64 0] 67)) (RdE.nil _) (by simp))
  clear h
  go_enter Try.func24, Try.ntmps24
  go_wp2_with fail
  refine HCL.out.mono ?_
  rintro e w1 ⟨v, rfl, hn⟩
  have HN := Lib.hid hn
  have HB1 := Lib.hid (HB.out.turn hn.turn (fun f => f))
  clear hn
  have z0 := HB1.out.cell 1
  have z1 := HB1.out.free 1
  obtain ⟨A, c, hv⟩ := HN.out.own.shape
  subst hv
  simp only [List.length_nil] at HN ⊢
  have ht2 : Turn (fun _ => False) w (w1.setCell ⟨w.heap.size, 1, none⟩ (.slice A 0 c)) :=
    Turn.setCell (((Turn.refl _ w).alloc _).trans HN.out.turn (fun _ _ f => f)) (fun e => absurd e (Nat.lt_irrefl _)) _
  have HNP : Hid (NPa (w1.setCell ⟨w.heap.size, 1, none⟩ (.slice A 0 c)) w.heap.size A c) := HB1.out.set 1 _
  have HT2 := Lib.hid ht2
  clear ht2
  go_wp2_with fail
  refine (np_drain _ _ _ _ HNP.out).mono ?_
  rintro e w5 ⟨A, c, rfl, ht⟩
  have HT5 : Hid (Turn (fun _ => False) w w5) := HT2.out.trans ht (fun _ _ f => f)
  clear ht
  go_wp2
  go_ret
  exact ⟨_, _, rfl, HT5.out⟩

set_option maxHeartbeats 2000000 in
theorem np_sort (x : Int) (A : Option Addr) (c : Nat) (w : World) (h : RdE ET w (.slice A 1 c) [x]) : Calls Try.prog 27 #[.slice A 1 c, .nilFunc] w fun e w' => None7 w e w' := by
  have HL := Lib.hid h
  clear h
  go_enter Try.func27, Try.ntmps27
  go_wp2_with (go_at_call 20; refine (np_new w).mono ?_; rintro e w1 ⟨rfl, hm, ht⟩; have HM0 := Lib.hid hm; have HT0 := Lib.hid ht; clear hm ht)
  go_loopw [12] (fun x12 wr => ∃ i : Nat, x12 = .int .i64 (i : Int) ∧ i ≤ 1 ∧ NP wr w.heap.size ∧ Turn (fun _ => False) w wr) (fun x12 _ => 1 - (intOf x12).toNat)
  case atStart => exact ⟨0, rfl, Nat.zero_le _, HM0.out, HT0.out⟩
  case round =>
    obtain ⟨i, rfl, hi, h1, h2⟩ := hrel
    have H1 := Lib.hid h1; have H2 := Lib.hid h2
    clear h1 h2
    by_cases hlt : i < 1
    · obtain rfl : i = 0 := by omega
      obtain ⟨ad, rfl, hc⟩ := et_at HL.out (j := 0) rfl
      have e0 := hc wr H2.out
      rw [show ad.add 0 = ad from rfl] at e0
      have HPU := Lib.hid (fun x => np_push w.heap.size x wr H1.out)
      clear hc
      go_wp2_with fail
      refine (HPU.out _).mono ?_
      rintro e w2 ⟨⟨v, rfl⟩, rfl⟩
      go_wp2
      go_roundw
      case rel => exact ⟨1, by go_num, Nat.le_refl _, H1.out, H2.out⟩
      case measure => simp [intOf]
    · obtain rfl : i = 1 := by omega
      have HDD := Lib.hid (np_drain _ _ _ _ H1.out)
      go_wp2_with fail
      refine HDD.out.mono ?_
      rintro e w5 ⟨A, c, rfl, ht⟩
      have HT5 : Hid (Turn (fun _ => False) w w5) := H2.out.trans ht (fun _ _ f => f)
      clear ht
      go_wp2
      go_ret
      exact ⟨_, _, rfl, HT5.out⟩

end Go.Proofs.Ythhlppdphcjlnaa
