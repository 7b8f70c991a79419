
/-
  Stage 8: the program's lanes: has, Len, Put, From.
-/
import Derived.Test.YtemcijfakimkkaaYa
import Derived.Laws.ResultCell
namespace Go.Proofs.Ytemcijfakimkkaa
open Go.RowKit Go.Conc

set_option maxRecDepth 100000

theorem has_yes (g : Nat) (A : Option Addr) (n c j : Nat) (w : World) (h : w.cell? ⟨g, 0, none⟩ = some (.slice A n c)) (hj : j < n) :
    Calls Try.prog 21 #[.pointer (some ⟨g, 0, none⟩), .int .i64 (j : Int)] w fun e w' => e = .returned (.bool true) ∧ w = w' := by
  have hji : (j : Int) < n := by omega
  have h0 : (0 : Int) ≤ j := by omega
  go_enter Try.func21, Try.ntmps21
  go_wp2
  go_ret
  exact ⟨rfl, rfl⟩
theorem has_no (g : Nat) (A : Option Addr) (n c : Nat) (i : Int) (w : World) (h : w.cell? ⟨g, 0, none⟩ = some (.slice A n c)) (hi : ¬ (0 ≤ i ∧ i < n)) :
    Calls Try.prog 21 #[.pointer (some ⟨g, 0, none⟩), .int .i64 i] w fun e w' => e = .returned (.bool false) ∧ w = w' := by
  by_cases h0 : 0 ≤ i
  · have hin : ¬ (i < (n : Int)) := fun e => hi ⟨h0, e⟩
    clear hi
    go_enter Try.func21, Try.ntmps21
    go_wp2
    go_ret
    exact ⟨rfl, rfl⟩
  · clear hi
    go_enter Try.func21, Try.ntmps21
    go_wp2
    go_ret
    exact ⟨rfl, rfl⟩
theorem has_nil (i : Int) (w : World) : Calls Try.prog 21 #[.pointer none, .int .i64 i] w fun e w' => e = .returned (.bool false) ∧ w = w' := by
  go_enter Try.func21, Try.ntmps21
  go_wp2
  go_ret
  exact ⟨rfl, rfl⟩

theorem len_yes (g ar c cap s r n cp j : Nat) (buf : Array Value) (w : World) (h : w.cell? ⟨g, 0, none⟩ = some (.slice (some ⟨ar, 0, none⟩) n cp)) (hj : j < n) (hc : w.cell? ⟨ar, j, none⟩ = some (.chan (some c))) (hb : w.heap[c]? = some (.chan cap buf false s r false)) :
    Calls Try.prog 11 #[.pointer (some ⟨g, 0, none⟩), .int .i64 (j : Int)] w fun e w' => e = .returned (.int .i64 (buf.size : Int)) ∧ w = w' := by
  have HH := Lib.hid (has_yes g _ n cp j w h hj)
  have hji : (j : Int) < n := by omega
  have hl := run_len_chan (P := Try.prog) (w := w) 52 3 Try.underlying52 hb
  go_enter Try.func11, Try.ntmps11
  go_wp2_with (go_at_call 21; refine HH.out.mono ?_; rintro e w2 ⟨rfl, rfl⟩)
  go_ret
  exact ⟨rfl, rfl⟩
theorem len_no (g : Nat) (A : Option Addr) (n c : Nat) (i : Int) (w : World) (h : w.cell? ⟨g, 0, none⟩ = some (.slice A n c)) (hi : ¬ (0 ≤ i ∧ i < n)) :
    Calls Try.prog 11 #[.pointer (some ⟨g, 0, none⟩), .int .i64 i] w fun e w' => e = .returned (.int .i64 0) ∧ w = w' := by
  have HH := Lib.hid (has_no g _ n c i w h hi)
  clear hi
  go_enter Try.func11, Try.ntmps11
  go_wp2_with (go_at_call 21; refine HH.out.mono ?_; rintro e w2 ⟨rfl, rfl⟩)
  go_ret
  exact ⟨rfl, rfl⟩
theorem len_nil8 (i : Int) (w : World) : Calls Try.prog 11 #[.pointer none, .int .i64 i] w fun e w' => e = .returned (.int .i64 0) ∧ w = w' := by
  have HH := Lib.hid (has_nil i w)
  go_enter Try.func11, Try.ntmps11
  go_wp2_with (go_at_call 21; refine HH.out.mono ?_; rintro e w2 ⟨rfl, rfl⟩)
  go_ret
  exact ⟨rfl, rfl⟩

set_option maxHeartbeats 2000000 in
theorem put_room (g ar c cap s r n cp j : Nat) (x : Int) (buf : Array Value) (w : World) (h0 : w.cell? ⟨g, 0, none⟩ = some (.slice (some ⟨ar, 0, none⟩) n cp)) (hj : j < n) (hc : w.cell? ⟨ar, j, none⟩ = some (.chan (some c)))
    (hb : w.heap[c]? = some (.chan cap buf false s r false)) (hroom : buf.size < cap) :
    Calls Try.prog 12 #[.pointer (some ⟨g, 0, none⟩), .int .i64 (j : Int), .int .i64 x] w fun e w' => e = .returned (.int .i64 0) ∧ w' = (w.alloc (.cells #[.int .i64 x] 2)).setChan c cap (buf.push (.pointer (some ⟨w.heap.size, 0, none⟩))) false (s + 1) r false := by
  obtain ⟨w0, hw0⟩ : ∃ w0, w0 = w.alloc (.cells #[.int .i64 x] 2) := ⟨_, rfl⟩
  have h1 : w0.cell? ⟨g, 0, none⟩ = some (.slice (some ⟨ar, 0, none⟩) n cp) := by rw [hw0, World.cell?_alloc_some _ _ _ (by rw [h0]; rfl), h0]
  have hc1 : w0.cell? ⟨ar, j, none⟩ = some (.chan (some c)) := by rw [hw0, World.cell?_alloc_some _ _ _ (by rw [hc]; rfl), hc]
  have hb1 : w0.heap[c]? = some (.chan cap buf false s r false) := by rw [hw0]; exact (Below.heap_alloc w _ c (Array.getElem?_eq_some_iff.1 hb).1).trans hb
  have HH := Lib.hid (has_yes g _ n cp j w0 h1 hj)
  have HW := Lib.hid hw0
  have hji : (j : Int) < n := by omega
  clear h0 hc hb hw0
  refine calls_of_nwp Try.func12 rfl ?_
  simp only [Try.ntmps12, List.size_toArray, List.length_cons, List.length_nil, Nat.reduceAdd, Nat.reduceSub, Array.replicate_succ, Array.replicate_zero, List.push_toArray, List.append_toArray, List.nil_append, List.cons_append]
  refine NWp.seq (NWp.of_wp ?_)
  go_wp2
  rw [← HW.out]
  refine NWp.seq (NWp.of_wp ?_)
  go_wp2
  refine NWp.seq (NWp.of_wp ?_)
  go_wp2_with fail
  refine HH.out.mono ?_
  rintro e w2 ⟨rfl, rfl⟩
  go_wp2
  refine NWp.seq (NWp.of_wp ?_)
  go_wp2
  refine NWp.seq ?_
  refine nwp_select0 (by rfl) (comm_send (c := c) (v := .pointer (some ⟨w.heap.size, 0, none⟩)) (z := .pointer none) ?_ hb1 hroom) ?_
  · go_simp
    rfl
  go_wp2
  refine NWp.of_wp ?_
  go_wp2
  go_ret
  exact ⟨rfl, rfl⟩

set_option maxHeartbeats 2000000 in
theorem put_full (g ar c cap s r n cp j : Nat) (x : Int) (buf : Array Value) (w : World) (h0 : w.cell? ⟨g, 0, none⟩ = some (.slice (some ⟨ar, 0, none⟩) n cp)) (hj : j < n) (hc : w.cell? ⟨ar, j, none⟩ = some (.chan (some c)))
    (hb : w.heap[c]? = some (.chan cap buf false s r false)) (hroom : cap ≤ buf.size) :
    Calls Try.prog 12 #[.pointer (some ⟨g, 0, none⟩), .int .i64 (j : Int), .int .i64 x] w fun e w' => e = .returned (.int .i64 7) ∧ w' = w.alloc (.cells #[.int .i64 x] 2) := by
  obtain ⟨w0, hw0⟩ : ∃ w0, w0 = w.alloc (.cells #[.int .i64 x] 2) := ⟨_, rfl⟩
  have h1 : w0.cell? ⟨g, 0, none⟩ = some (.slice (some ⟨ar, 0, none⟩) n cp) := by rw [hw0, World.cell?_alloc_some _ _ _ (by rw [h0]; rfl), h0]
  have hc1 : w0.cell? ⟨ar, j, none⟩ = some (.chan (some c)) := by rw [hw0, World.cell?_alloc_some _ _ _ (by rw [hc]; rfl), hc]
  have hb1 : w0.heap[c]? = some (.chan cap buf false s r false) := by rw [hw0]; exact (Below.heap_alloc w _ c (Array.getElem?_eq_some_iff.1 hb).1).trans hb
  have HH := Lib.hid (has_yes g _ n cp j w0 h1 hj)
  have HW := Lib.hid hw0
  have hji : (j : Int) < n := by omega
  clear h0 hc hb hw0
  refine calls_of_nwp Try.func12 rfl ?_
  simp only [Try.ntmps12, List.size_toArray, List.length_cons, List.length_nil, Nat.reduceAdd, Nat.reduceSub, Array.replicate_succ, Array.replicate_zero, List.push_toArray, List.append_toArray, List.nil_append, List.cons_append]
  refine NWp.seq (NWp.of_wp ?_)
  go_wp2
  rw [← HW.out]
  refine NWp.seq (NWp.of_wp ?_)
  go_wp2
  refine NWp.seq (NWp.of_wp ?_)
  go_wp2_with fail
  refine HH.out.mono ?_
  rintro e w2 ⟨rfl, rfl⟩
  go_wp2
  refine NWp.seq (NWp.of_wp ?_)
  go_wp2
  refine NWp.seq ?_
  refine nwp_select0 (by rfl) (comm_full (c := c) (v := .pointer (some ⟨w.heap.size, 0, none⟩)) (z := .pointer none) ?_ hb1 hroom) ?_
  · go_simp
    rfl
  go_wp2
  refine NWp.of_wp ?_
  go_wp2
  go_ret
  exact ⟨rfl, rfl⟩

theorem put_no (g : Nat) (A : Option Addr) (n c : Nat) (i x : Int) (w : World) (h0 : w.cell? ⟨g, 0, none⟩ = some (.slice A n c)) (hi : ¬ (0 ≤ i ∧ i < n)) :
    Calls Try.prog 12 #[.pointer (some ⟨g, 0, none⟩), .int .i64 i, .int .i64 x] w fun e w' => e = .returned (.int .i64 2) ∧ w' = w.alloc (.cells #[.int .i64 x] 2) := by
  obtain ⟨w0, hw0⟩ : ∃ w0, w0 = w.alloc (.cells #[.int .i64 x] 2) := ⟨_, rfl⟩
  have h1 : w0.cell? ⟨g, 0, none⟩ = some (.slice A n c) := by rw [hw0, World.cell?_alloc_some _ _ _ (by rw [h0]; rfl), h0]
  have HH := Lib.hid (has_no g _ n c i w0 h1 hi)
  have HW := Lib.hid hw0
  clear h0 hw0 hi
  refine calls_of_nwp Try.func12 rfl ?_
  simp only [Try.ntmps12, List.size_toArray, List.length_cons, List.length_nil, Nat.reduceAdd, Nat.reduceSub, Array.replicate_succ, Array.replicate_zero, List.push_toArray, List.append_toArray, List.nil_append, List.cons_append]
  refine NWp.seq (NWp.of_wp ?_)
  go_wp2
  rw [← HW.out]
  refine NWp.seq (NWp.of_wp ?_)
  go_wp2
  refine NWp.seq (NWp.of_wp ?_)
  go_wp2_with fail
  refine HH.out.mono ?_
  rintro e w2 ⟨rfl, rfl⟩
  go_wp2
  go_ret
  exact ⟨rfl, rfl⟩
theorem put_nil8 (i x : Int) (w : World) : Calls Try.prog 12 #[.pointer none, .int .i64 i, .int .i64 x] w fun e w' => e = .returned (.int .i64 1) ∧ w' = w.alloc (.cells #[.int .i64 x] 2) := by
  refine calls_of_nwp Try.func12 rfl ?_
  simp only [Try.ntmps12, List.size_toArray, List.length_cons, List.length_nil, Nat.reduceAdd, Nat.reduceSub, Array.replicate_succ, Array.replicate_zero, List.push_toArray, List.append_toArray, List.nil_append, List.cons_append]
  refine NWp.seq (NWp.of_wp ?_)
  go_wp2
  refine NWp.seq (NWp.of_wp ?_)
  go_wp2
  go_ret
  exact ⟨rfl, rfl⟩

set_option maxHeartbeats 2000000 in
theorem from_some (g ar c cap s r n cp j b : Nat) (x : Int) (buf : Array Value) (w : World) (h0 : w.cell? ⟨g, 0, none⟩ = some (.slice (some ⟨ar, 0, none⟩) n cp)) (hj : j < n) (hc : w.cell? ⟨ar, j, none⟩ = some (.chan (some c)))
    (hb : w.heap[c]? = some (.chan cap buf false s r false)) (hsome : 0 < buf.size) (hfirst : buf.getD 0 undef = .pointer (some ⟨b, 0, none⟩)) (hx : (w.setChan c cap (buf.extract 1 buf.size) false s (r + 1) false).cell? ⟨b, 0, none⟩ = some (.int .i64 x)) :
    Calls Try.prog 14 #[.pointer (some ⟨g, 0, none⟩), .int .i64 (j : Int)] w fun e w' => e = .returned (.tuple #[.int .i64 x, .bool true]) ∧ w' = w.setChan c cap (buf.extract 1 buf.size) false s (r + 1) false := by
  have HH := Lib.hid (has_yes g _ n cp j w h0 hj)
  have hji : (j : Int) < n := by omega
  obtain ⟨w1, hw1⟩ : ∃ w1, w1 = w.setChan c cap (buf.extract 1 buf.size) false s (r + 1) false := ⟨_, rfl⟩
  have HW := Lib.hid hw1
  rw [← hw1] at hx ⊢
  clear hw1
  refine calls_of_nwp Try.func14 rfl ?_
  simp only [Try.ntmps14, List.size_toArray, List.length_cons, List.length_nil, Nat.reduceAdd, Nat.reduceSub, Array.replicate_succ, Array.replicate_zero, List.push_toArray, List.append_toArray, List.nil_append, List.cons_append]
  refine NWp.seq (NWp.of_wp ?_)
  go_wp2
  refine NWp.seq (NWp.of_wp ?_)
  go_wp2
  refine NWp.seq (NWp.of_wp ?_)
  go_wp2_with fail
  refine HH.out.mono ?_
  rintro e w2 ⟨rfl, rfl⟩
  go_wp2
  refine NWp.seq (NWp.of_wp ?_)
  go_wp2
  refine NWp.seq ?_
  refine nwp_select0 (by rfl) (comm_recv (c := c) (z := .pointer none) ?_ hb hsome) ?_
  · go_simp
    rfl
  rw [hfirst, ← HW.out]
  go_wp2
  refine NWp.of_wp ?_
  go_wp2
  go_ret2
  exact ⟨rfl, rfl⟩
set_option maxHeartbeats 2000000 in
theorem from_none (g ar c cap s r n cp j : Nat) (w : World) (h0 : w.cell? ⟨g, 0, none⟩ = some (.slice (some ⟨ar, 0, none⟩) n cp)) (hj : j < n) (hc : w.cell? ⟨ar, j, none⟩ = some (.chan (some c)))
    (hb : w.heap[c]? = some (.chan cap #[] false s r false)) :
    Calls Try.prog 14 #[.pointer (some ⟨g, 0, none⟩), .int .i64 (j : Int)] w fun e w' => e = .returned (.tuple #[.int .i64 0, .bool false]) ∧ w = w' := by
  have HH := Lib.hid (has_yes g _ n cp j w h0 hj)
  have hji : (j : Int) < n := by omega
  refine calls_of_nwp Try.func14 rfl ?_
  simp only [Try.ntmps14, List.size_toArray, List.length_cons, List.length_nil, Nat.reduceAdd, Nat.reduceSub, Array.replicate_succ, Array.replicate_zero, List.push_toArray, List.append_toArray, List.nil_append, List.cons_append]
  refine NWp.seq (NWp.of_wp ?_)
  go_wp2
  refine NWp.seq (NWp.of_wp ?_)
  go_wp2
  refine NWp.seq (NWp.of_wp ?_)
  go_wp2_with fail
  refine HH.out.mono ?_
  rintro e w2 ⟨rfl, rfl⟩
  go_wp2
  refine NWp.seq (NWp.of_wp ?_)
  go_wp2
  refine NWp.seq ?_
  refine nwp_select0 (by rfl) (comm_none (c := c) (z := .pointer none) ?_ hb) ?_
  · go_simp
    rfl
  go_wp2
  refine NWp.of_wp ?_
  go_wp2
  go_ret2
  exact ⟨rfl, rfl⟩
theorem from_no (g : Nat) (A : Option Addr) (n c : Nat) (i : Int) (w : World) (h0 : w.cell? ⟨g, 0, none⟩ = some (.slice A n c)) (hi : ¬ (0 ≤ i ∧ i < n)) :
    Calls Try.prog 14 #[.pointer (some ⟨g, 0, none⟩), .int .i64 i] w fun e w' => e = .returned (.tuple #[.int .i64 0, .bool false]) ∧ w = w' := by
  have HH := Lib.hid (has_no g _ n c i w h0 hi)
  clear hi h0
  refine calls_of_nwp Try.func14 rfl ?_
  simp only [Try.ntmps14, List.size_toArray, List.length_cons, List.length_nil, Nat.reduceAdd, Nat.reduceSub, Array.replicate_succ, Array.replicate_zero, List.push_toArray, List.append_toArray, List.nil_append, List.cons_append]
  refine NWp.seq (NWp.of_wp ?_)
  go_wp2
  refine NWp.seq (NWp.of_wp ?_)
  go_wp2
  refine NWp.seq (NWp.of_wp ?_)
  go_wp2_with fail
  refine HH.out.mono ?_
  rintro e w2 ⟨rfl, rfl⟩
  go_wp2
  go_ret2
  exact ⟨rfl, rfl⟩
theorem from_nil8 (i : Int) (w : World) : Calls Try.prog 14 #[.pointer none, .int .i64 i] w fun e w' => e = .returned (.tuple #[.int .i64 0, .bool false]) ∧ w = w' := by
  have HH := Lib.hid (has_nil i w)
  refine calls_of_nwp Try.func14 rfl ?_
  simp only [Try.ntmps14, List.size_toArray, List.length_cons, List.length_nil, Nat.reduceAdd, Nat.reduceSub, Array.replicate_succ, Array.replicate_zero, List.push_toArray, List.append_toArray, List.nil_append, List.cons_append]
  refine NWp.seq (NWp.of_wp ?_)
  go_wp2
  refine NWp.seq (NWp.of_wp ?_)
  go_wp2
  refine NWp.seq (NWp.of_wp ?_)
  go_wp2_with fail
  refine HH.out.mono ?_
  rintro e w2 ⟨rfl, rfl⟩
  go_wp2
  go_ret2
  exact ⟨rfl, rfl⟩

section
variable {g ar room : Nat} {cs : List Nat} {LL : List (List Int)} {w : World}
/-- Put, whatever lane. -/
theorem lp_put (i x : Int) (h : LP w g ar cs room LL) : Calls Try.prog 12 #[.pointer (some ⟨g, 0, none⟩), .int .i64 i, .int .i64 x] w fun e w' => e = .returned (.int .i64 (putF room LL i)) ∧ LP w' g ar cs room (putL room LL i x) ∧ Turn (fun k => k ∈ cs) w w' := by
  have c0 := h.obj.cell 0
  have hta : Turn (fun _ => False) w (w.alloc (.cells #[.int .i64 x] 2)) := (Turn.refl _ w).alloc _
  rcases at8_cases LL i with ⟨e0, hi⟩ | ⟨j, l, rfl, hj, e0⟩
  · rw [h.len] at hi
    unfold putF putL
    rw [e0]
    refine (put_no g _ _ _ i x w c0 hi).mono ?_
    rintro e w' ⟨rfl, rfl⟩
    exact ⟨rfl, h.later hta, hta.mono (fun _ _ f => f.elim)⟩
  · obtain ⟨c, hcj, hjl, ⟨ps, s, r, h1, h2, h3⟩, hc⟩ := h.lane hj
    have hsz : (ps.map (fun p => Value.pointer (some ⟨p.1, 0, none⟩))).toArray.size = l.length := by rw [← h2]; simp
    unfold putF putL
    rw [e0]
    dsimp only
    rw [Int.toNat_natCast]
    by_cases hr : l.length < room
    · rw [if_pos hr, if_pos hr]
      refine (put_room g ar c room s r _ _ j x _ w c0 hjl hc h1 (by rw [hsz]; exact hr)).mono ?_
      rintro e w' ⟨rfl, rfl⟩
      have ht : Turn (fun k => k = c) w ((w.alloc (.cells #[.int .i64 x] 2)).setChan c room ((ps.map (fun p => Value.pointer (some ⟨p.1, 0, none⟩))).toArray.push (.pointer (some ⟨w.heap.size, 0, none⟩))) false (s + 1) r false) :=
        Turn.setChan (S := fun k => k = c) (hta.mono (fun _ _ f => f.elim)) (fun _ => rfl) _ _ _ _ _ _
      refine ⟨rfl, h.set hcj ht (Ch.put x ?_ h2 (fun p hp => (h3 p hp).alloc _) (Box.new w _ _)) (by rw [List.length_append]; exact hr), ht.mono (fun k _ e => by rw [e]; exact List.mem_of_getElem? hcj)⟩
      exact (Below.heap_alloc w _ c (Array.getElem?_eq_some_iff.1 h1).1).trans h1
    · rw [if_neg hr, if_neg hr]
      refine (put_full g ar c room s r _ _ j x _ w c0 hjl hc h1 (by rw [hsz]; omega)).mono ?_
      rintro e w' ⟨rfl, rfl⟩
      exact ⟨rfl, h.later hta, hta.mono (fun _ _ f => f.elim)⟩
/-- From, whatever lane. -/
theorem lp_from (i : Int) (h : LP w g ar cs room LL) : Calls Try.prog 14 #[.pointer (some ⟨g, 0, none⟩), .int .i64 i] w fun e w' => e = .returned (.tuple #[.int .i64 (fromX LL i), .bool (fromB LL i)]) ∧ LP w' g ar cs room (fromL LL i) ∧ Turn (fun k => k ∈ cs) w w' := by
  have c0 := h.obj.cell 0
  rcases at8_cases LL i with ⟨e0, hi⟩ | ⟨j, l, rfl, hj, e0⟩
  · rw [h.len] at hi
    unfold fromX fromB fromL
    rw [e0]
    refine (from_no g _ _ _ i w c0 hi).mono ?_
    rintro e w' ⟨rfl, rfl⟩
    exact ⟨rfl, h, Turn.refl _ w⟩
  · obtain ⟨c, hcj, hjl, ⟨ps, s, r, h1, h2, h3⟩, hc⟩ := h.lane hj
    unfold fromX fromB fromL
    rw [e0, Int.toNat_natCast]
    cases ps with
    | nil =>
      subst h2
      refine (from_none g ar c room s r _ _ j w c0 hjl hc h1).mono ?_
      rintro e w' ⟨rfl, rfl⟩
      exact ⟨rfl, h, Turn.refl _ w⟩
    | cons p ps =>
      obtain ⟨b, x⟩ := p
      subst h2
      have hch := Ch.from (l := ps.map (·.2)) h1 rfl h3
      have ht : Turn (fun k => k = c) w _ := Turn.setChan (S := fun k => k = c) (Turn.refl _ w) (fun _ => rfl) room ((((b, x) :: ps).map (fun p => Value.pointer (some ⟨p.1, 0, none⟩))).toArray.extract 1 (((b, x) :: ps).map (fun p => Value.pointer (some ⟨p.1, 0, none⟩))).toArray.size) false s (r + 1) false
      have hbx := h3 (b, x) (by simp)
      have hne : b ≠ c := fun e => by subst e; cases h1.symm.trans hbx
      refine (from_some g ar c room s r _ _ j b x _ w c0 hjl hc h1 (by simp) (by simp) ((hbx.turn ht hne).cell 0)).mono ?_
      rintro e w' ⟨rfl, rfl⟩
      refine ⟨rfl, h.set hcj ht hch ?_, ht.mono (fun k _ e => by rw [e]; exact List.mem_of_getElem? hcj)⟩
      have := h.full _ (List.mem_of_getElem? hj)
      simp at this ⊢
      omega
/-- Len, whatever lane. -/
theorem lp_len (i : Int) (h : LP w g ar cs room LL) : Calls Try.prog 11 #[.pointer (some ⟨g, 0, none⟩), .int .i64 i] w fun e w' => e = .returned (.int .i64 (lenN LL i : Int)) ∧ w = w' := by
  have c0 := h.obj.cell 0
  unfold lenN
  rcases at8_cases LL i with ⟨e0, hi⟩ | ⟨j, l, rfl, hj, e0⟩
  · rw [h.len] at hi
    rw [e0]
    exact len_no g _ _ _ i w c0 hi
  · obtain ⟨c, hcj, hjl, ⟨ps, s, r, h1, h2, h3⟩, hc⟩ := h.lane hj
    rw [e0]
    have hl := len_yes g ar c room s r _ _ j _ w c0 hjl hc h1
    have hsz : (ps.map (fun p => Value.pointer (some ⟨p.1, 0, none⟩))).toArray.size = l.length := by rw [← h2]; simp
    rw [hsz] at hl
    exact hl
end

end Go.Proofs.Ytemcijfakimkkaa
