/-
  Texts laid one behind the other: Sv Ek Zt Sva Tb Td Ib Iq.
-/
import Derived.Test.YtklpmajaihmmfaaJocah
import Derived.Test.YtklpmajaihmmfaaJocaa
import Derived.Sort.Grow
import Derived.Test.YtklpmajaihmmfaaJocab
import Derived.Test.YtklpmajaihmmfaaJocae
import Derived.Test.YtklpmajaihmmfaaJocaf
import Derived.Laws.ResultCell
import Derived.BigQuiet
import Derived.Sort.BigQuietIn

/-
  Stage 11: the program's segments in memory; what its functions answer; all, Len, At.
-/
namespace Go.Proofs.Ytklpmajaihmmfaa
open Go.RowKit

set_option maxRecDepth 100000

/-- A segment's rows; a nil one has none. -/
def SV11 (w : World) (v : Value) (L : List R11) : Prop := (rightR L = true ∧ (∀ r ∈ L, okC r.c) ∧ L.length ≤ 20000) ∧ ((v = .pointer none ∧ L = []) ∨ ∃ b sl, v = .pointer (some ⟨b, 0, none⟩) ∧ Box w b 59 #[sl] ∧ RdE ER w sl L)
theorem SV11.later {w w' : World} {v : Value} {L : List R11} (h : SV11 w v L) (ht : Turn (fun _ => False) w w') : SV11 w' v L :=
  ⟨h.1, h.2.imp id fun ⟨b, sl, e, hb, hr⟩ => ⟨b, sl, e, hb.turn ht (fun f => f), hr.later ht⟩⟩
theorem SV11.nil (w : World) : SV11 w (.pointer none) [] := ⟨⟨rfl, (fun r h => by cases h), Nat.zero_le _⟩, .inl ⟨rfl, rfl⟩⟩
theorem SV11.ptr {w : World} {v : Value} {L : List R11} (h : SV11 w v L) : ∃ p, v = .pointer p := by
  rcases h.2 with ⟨e, _⟩ | ⟨b, sl, e, _⟩
  · exact ⟨_, e⟩
  · exact ⟨_, e⟩
theorem SV11.right {w : World} {v : Value} {L : List R11} (h : SV11 w v L) : rightR L = true ∧ (∀ r ∈ L, okC r.c) ∧ L.length ≤ 20000 := h.1
/-- A segment that is not nil. -/
theorem SV11.new {w : World} {sl : Value} {L : List R11} (h : RdE ER w sl L) (hr : rightR L = true ∧ (∀ r ∈ L, okC r.c) ∧ L.length ≤ 20000) : SV11 (w.alloc (.cells #[sl] 59)) (.pointer (some ⟨w.heap.size, 0, none⟩)) L :=
  ⟨hr, .inr ⟨_, sl, rfl, Box.new w _ _, h.later ((Turn.refl _ w).alloc _)⟩⟩
/-- A slice of segments. -/
def EP11 : El (Option Addr) where
  sz := 1
  enc p := [.pointer p]
  len _ := rfl
  one p u hu := by rw [List.mem_singleton.1 hu]; rfl
structure SVs11 (w : World) (v : Value) (ls : List (List R11)) : Prop where
  out : ∃ ps : List (Option Addr), RdE EP11 w v ps ∧ ps.length = ls.length ∧ ∀ (j : Nat) (p : Option Addr) (x : List R11), ps[j]? = some p → ls[j]? = some x → SV11 w (.pointer p) x
/-- What is answered. -/
def atR (n : Int) (L : List R11) : Option R11 := if 0 ≤ n then L[n.toNat]? else none
def rowA (o : Option R11) : Value := .tuple #[(match o with | some r => rv11 r | none => zv11), .bool o.isSome]
def zc11 : Value := .agg #[.int .i64 0, .int .i64 0, .int .i64 0, .int .i64 0]
def findA (o : Option Cl) : Value := .tuple #[(match o with | some c => cv c | none => zc11), .bool o.isSome]
def faultO (o : Option (List R11)) (f : Int) : Value := .int .i64 (if o.isSome then 0 else f)
def Seg11 (w : World) (o : Option (List R11)) (f : Int) (e : Ending) (w' : World) : Prop := ∃ s, e = .returned (.tuple #[s, faultO o f]) ∧ SV11 w' s (o.getD []) ∧ Turn (fun _ => False) w w'
def RowsA11 (w : World) (l : List R11) (e : Ending) (w' : World) : Prop := ∃ s, e = .returned (.tuple #[s, .int .i64 (if rightR l then 0 else 4)]) ∧ SV11 w' s (if rightR l then l else []) ∧ (rightR l = false → s = .pointer none) ∧ Turn (fun _ => False) w w'
def Part11 (w : World) (L : List R11) (e : Ending) (w' : World) : Prop := ∃ s, e = .returned s ∧ SV11 w' s L ∧ Turn (fun _ => False) w w'
/-- A range over rows: what it gives, if what turns is a block of one cell that was there, or new. -/
def Range11 (w : World) (L : List R11) (e : Ending) (w' : World) : Prop := ∃ gf lb, e = .returned (.func (.func gf) #[] lb) ∧ (∀ args W, (callFunc gf args).run Try.prog W = .ok (.enter gf args) W) ∧ Turn (fun _ => False) w w' ∧
  ∀ (n : Nat) (S : Nat → Prop), (∀ k, S k → (∃ t v, Box w k t #[v]) ∨ w'.heap.size ≤ k) → Feeds3 n gf lb (fun r => #[rv11 r]) S (fun pre y _ => pre ++ [y] <+: L) (fun xs => xs = L) (fun pre => pre <+: L) w'

/-- The rows, not to be changed. -/
def AllS11 (w : World) (L : List R11) (e : Ending) (w' : World) : Prop := ∃ sl, e = .returned sl ∧ RdE ER w sl L ∧ w' = w
set_option maxHeartbeats 1000000 in
theorem all_any11 (s : Value) (L : List R11) (w : World) (h : SV11 w s L) : Calls Try.prog 55 #[s] w fun e w' => AllS11 w L e w' := by
  rcases h.2 with ⟨rfl, rfl⟩ | ⟨b, sl, rfl, hb, hr⟩
  · clear h
    go_enter Try.func55, Try.ntmps55
    go_wp2
    go_ret
    exact ⟨_, rfl, RdE.nil _, rfl⟩
  · have HR := Lib.hid hr
    have c0 := hb.cell 0
    obtain ⟨A, c, rfl⟩ := hr.shape
    clear h hr hb
    go_enter Try.func55, Try.ntmps55
    go_wp2
    go_ret
    exact ⟨_, rfl, HR.out, rfl⟩
theorem atR_low {n : Int} (h : n < 0) (L : List R11) : atR n L = none := if_neg (by omega)
theorem atR_high {n : Int} {L : List R11} (h : (L.length : Int) ≤ n) : atR n L = none := by
  unfold atR
  rw [if_pos (by omega), List.getElem?_eq_none (by omega)]

end Go.Proofs.Ytklpmajaihmmfaa

/-
  Worlds that have only grown, and drawn: what slices.SortFunc asks of a closure. No type is named.
-/
namespace Go.Proofs.Ytklpmajaihmmfaa
open Go.RowKit

/-- w' has come of w by blocks laid and draws alone. -/
def Gr (w w' : World) : Prop := ∃ q os, w' = Sort.grow (w.drewN q) os
theorem Gr.refl (w : World) : Gr w w := ⟨0, #[], by rw [Sort.grow_empty]; rfl⟩
theorem Gr.trans {a b c : World} (h : Gr a b) (g : Gr b c) : Gr a c := by
  obtain ⟨q, os, rfl⟩ := h
  obtain ⟨q2, os2, rfl⟩ := g
  refine ⟨q + q2, os ++ os2, ?_⟩
  show Sort.grow (Sort.grow ((a.drewN q).drewN q2) os) os2 = _
  rw [Sort.grow_grow]
  congr 1
  simp [World.drewN, Nat.add_assoc]
theorem Gr.drewN {a b : World} (h : Gr a b) (n : Nat) : Gr a (b.drewN n) := h.trans ⟨n, #[], by rw [Sort.grow_empty]⟩
theorem Gr.drew {a b : World} (h : Gr a b) : Gr a b.drew := h.drewN 1
theorem Gr.alloc {a b : World} (h : Gr a b) (o : Obj) : Gr a (b.alloc o) := h.trans ⟨0, #[o], Sort.alloc_eq_grow b o⟩
theorem Gr.turn {a b : World} (h : Gr a b) : Turn (fun _ => False) a b := by
  obtain ⟨q, os, rfl⟩ := h
  refine ⟨rfl, rfl, rfl, ?_, ?_⟩
  · show a.heap.size ≤ (a.heap ++ os).size
    rw [Array.size_append]
    omega
  · intro k hk _
    show (a.heap ++ os)[k]? = a.heap[k]?
    rw [Array.getElem?_append_left hk]

end Go.Proofs.Ytklpmajaihmmfaa

/-
  Stage 9: the program's Compare (by cmp.Or, cmp.Compare, slices.Compare): the world has only grown.
-/
namespace Go.Proofs.Ytklpmajaihmmfaa
open Go.RowKit

set_option maxRecDepth 100000

/-- cmp.Compare of two numbers, of two texts. -/
def cmpI (a b : Int) : Int := if a < b then -1 else if b < a then 1 else 0
def cmpT (a b : List UInt8) : Int := if Op.bytesLess a b then -1 else if Op.bytesLess b a then 1 else 0

set_option maxHeartbeats 1000000 in
theorem cmp_num9 (a b : Int) (w : World) : Calls Try.prog 38 #[.int .i64 a, .int .i64 b] w fun e w' => e = .returned (.int .i64 (cmpI a b)) ∧ w' = w := by
  unfold cmpI
  have ha : (a == a) = true := beq_self_eq_true a
  have hb : (b == b) = true := beq_self_eq_true b
  by_cases h1 : a < b
  · rw [if_pos h1]
    go_enter Try.func38, Try.ntmps38
    go_wp2
    go_ret
    exact ⟨rfl, rfl⟩
  · by_cases h2 : b < a
    · rw [if_neg h1, if_pos h2]
      go_enter Try.func38, Try.ntmps38
      go_wp2
      go_ret
      exact ⟨rfl, rfl⟩
    · rw [if_neg h1, if_neg h2]
      go_enter Try.func38, Try.ntmps38
      go_wp2
      go_ret
      exact ⟨rfl, rfl⟩

set_option maxHeartbeats 1000000 in
theorem cmp_text9 (a b : List UInt8) (w : World) : Calls Try.prog 53 #[sv9 a, sv9 b] w fun e w' => e = .returned (.int .i64 (cmpT a b)) ∧ w' = w := by
  unfold cmpT sv9
  have ha : (a == a) = true := beq_self_eq_true a
  have hb : (b == b) = true := beq_self_eq_true b
  cases h1 : Op.bytesLess a b with
  | true =>
    go_enter Try.func53, Try.ntmps53
    go_wp2
    go_ret
    exact ⟨rfl, rfl⟩
  | false =>
    cases h2 : Op.bytesLess b a with
    | true =>
      have heq : (a == b) = false := by
        cases e : a == b with
        | false => rfl
        | true =>
          rw [eq_of_beq e, less_irr] at h2
          cases h2
      go_enter Try.func53, Try.ntmps53
      go_wp2
      go_ret
      exact ⟨rfl, rfl⟩
    | false =>
      have heq : (a == b) = true := by rw [bytes_same h1 h2]; exact beq_self_eq_true _
      go_enter Try.func53, Try.ntmps53
      go_wp2
      go_ret
      exact ⟨rfl, rfl⟩

theorem cmpI_cases (a b : Int) : (a < b ∧ cmpI a b = -1) ∨ (b < a ∧ cmpI a b = 1) ∨ (a = b ∧ cmpI a b = 0) := by
  unfold cmpI
  by_cases h1 : a < b
  · exact .inl ⟨h1, if_pos h1⟩
  · by_cases h2 : b < a
    · exact .inr (.inl ⟨h2, by rw [if_neg h1, if_pos h2]⟩)
    · exact .inr (.inr ⟨by omega, by rw [if_neg h1, if_neg h2]⟩)
theorem cmpT_cases (a b : List UInt8) : (Op.bytesLess a b = true ∧ cmpT a b = -1) ∨ (Op.bytesLess b a = true ∧ cmpT a b = 1) ∨ (a = b ∧ cmpT a b = 0) := by
  unfold cmpT
  cases h1 : Op.bytesLess a b with
  | true => exact .inl ⟨rfl, rfl⟩
  | false =>
    cases h2 : Op.bytesLess b a with
    | true => exact .inr (.inl ⟨rfl, rfl⟩)
    | false => exact .inr (.inr ⟨bytes_same h1 h2, rfl⟩)

/-- The dimensions' values, the first i of them, by slices.Compare. -/
def dimsC (p q : K9) : Nat → Int
  | 0 => 0
  | i + 1 => if dimsC p q i = 0 then cmpT (p.dim i) (q.dim i) else dimsC p q i
theorem dims_stay {p q : K9} {i : Nat} (h : dimsC p q i ≠ 0) : ∀ j, i ≤ j → dimsC p q j = dimsC p q i
  | 0, hj => by rw [Nat.le_zero.1 hj]
  | j + 1, hj => by
    by_cases e : i = j + 1
    · rw [e]
    · have ih := dims_stay h j (by omega)
      show (if dimsC p q j = 0 then cmpT (p.dim j) (q.dim j) else dimsC p q j) = _
      rw [ih, if_neg h]
theorem dims_is {p q : K9} (hh : p.h = q.h) : ∀ i, i ≤ 4 → (dimsC p q i = 0 ∧ ∀ k, k < i → p.dim k = q.dim k) ∨ (dimsC p q i ≠ 0 ∧ dimsC p q i = cmpK p q)
  | 0, _ => .inl ⟨rfl, fun k hk => absurd hk (Nat.not_lt_zero k)⟩
  | i + 1, hi => by
    rcases dims_is hh i (by omega) with ⟨h0, hd⟩ | ⟨h0, h⟩
    · unfold dimsC
      rw [if_pos h0]
      rcases cmpT_cases (p.dim i) (q.dim i) with ⟨h, e⟩ | ⟨h, e⟩ | ⟨h, e⟩
      · exact .inr ⟨by rw [e]; decide, by rw [e, cmpK_lt (key_dim (by omega) hh hd h)]⟩
      · exact .inr ⟨by rw [e]; decide, by rw [e, cmpK_gt (key_dim (by omega) hh.symm (fun k hk => (hd k hk).symm) h)]⟩
      · exact .inl ⟨e, fun k hk => by
          by_cases ek : k = i
          · rw [ek]; exact h
          · exact hd k (by omega)⟩
    · exact .inr ⟨by unfold dimsC; rwa [if_neg h0], by unfold dimsC; rwa [if_neg h0]⟩
/-- cmp.Or: the first that is not 0. -/
def orL : List Int → Int
  | [] => 0
  | x :: l => if x = 0 then orL l else x
theorem or_two (a b : Int) : orL [a, b] = if a = 0 then b else a := by
  unfold orL orL orL
  by_cases h : b = 0
  · subst h; simp
  · simp [h]
theorem or_key (p q : K9) : orL [cmpI p.h q.h, dimsC p q 4] = cmpK p q := by
  rw [or_two]
  rcases cmpI_cases p.h q.h with ⟨h, e⟩ | ⟨h, e⟩ | ⟨h, e⟩
  · rw [e, if_neg (by decide), cmpK_lt (key_hour h)]
  · rw [e, if_neg (by decide), cmpK_gt (key_hour h)]
  · rw [if_pos e]
    rcases dims_is h 4 (Nat.le_refl 4) with ⟨h0, hd⟩ | ⟨_, h1⟩
    · have e := key_same h hd
      subst e
      rw [h0, cmpK_self]
    · exact h1

set_option maxHeartbeats 4000000 in
theorem cmp_dims9 (p q : K9) (A1 A2 : Addr) (w : World) (h1 : ∀ i, i < 4 → w.cell? (A1.add i) = some (sv9 (p.dim i))) (h2 : ∀ i, i < 4 → w.cell? (A2.add i) = some (sv9 (q.dim i))) :
    Calls Try.prog 39 #[.slice (some A1) 4 4, .slice (some A2) 4 4] w fun e w' => e = .returned (.int .i64 (dimsC p q 4)) ∧ w' = w := by
  have H1 := Lib.hid h1
  have H2 := Lib.hid h2
  clear h1 h2
  go_enter Try.func39, Try.ntmps39
  go_wp2_with fail
  go_loopw [11] (fun x11 wr => ∃ i : Nat, x11 = .int .i64 (i : Int) ∧ i ≤ 4 ∧ dimsC p q i = 0 ∧ wr = w) (fun x11 _ => 4 - (intOf x11).toNat)
  case atStart => exact ⟨0, rfl, Nat.zero_le _, rfl, rfl⟩
  case round =>
    obtain ⟨i, rfl, hi, h0, rfl⟩ := hrel
    by_cases hlt : i < 4
    · have e1 := H1.out i hlt
      have e2 := H2.out i hlt
      have hil : (i : Int) < 4 := by omega
      have hni : ¬ ((4 : Int) ≤ (i : Int)) := by omega
      have hn1 : cmpT (p.dim i) (q.dim i) = dimsC p q (i + 1) := by
        show _ = if dimsC p q i = 0 then cmpT (p.dim i) (q.dim i) else dimsC p q i
        rw [if_pos h0]
      have HC : Hid (∀ W, Calls Try.prog 53 #[sv9 (p.dim i), sv9 (q.dim i)] W fun e w' => e = .returned (.int .i64 (dimsC p q (i + 1))) ∧ w' = W) := by
        rw [← hn1]
        exact fun W => cmp_text9 (p.dim i) (q.dim i) W
      have HST : Hid (dimsC p q (i + 1) ≠ 0 → dimsC p q 4 = dimsC p q (i + 1)) := fun h => dims_stay h 4 (by omega)
      clear hn1 h0
      obtain ⟨cn, hcn⟩ : ∃ cn, cn = dimsC p q (i + 1) := ⟨_, rfl⟩
      rw [← hcn] at HC HST
      have HCN := Lib.hid hcn
      clear hcn
      generalize p.dim i = T1 at *
      generalize q.dim i = T2 at *
      by_cases hz : cn = 0
      · subst hz
        go_wp2_with fail
        refine (HC.out _).mono ?_
        rintro e w2 ⟨rfl, rfl⟩
        go_wp2
        go_roundw
        case rel => exact ⟨i + 1, by go_num, hlt, HCN.out.symm, trivial⟩
        case measure => simp [intOf]; omega
      · have hzb : (cn != 0) = true := by simp [bne, hz]
        have HE := Lib.hid (HST.out hz)
        clear HST
        go_wp2_with fail
        refine (HC.out _).mono ?_
        rintro e w2 ⟨rfl, rfl⟩
        go_wp2
        go_ret
        rw [HE.out]
        exact ⟨rfl, rfl⟩
    · obtain rfl : i = 4 := by omega
      have HZ := Lib.hid h0
      clear h0
      go_wp2
      go_ret
      rw [HZ.out]
      exact ⟨rfl, rfl⟩

set_option maxHeartbeats 4000000 in
theorem or_two9 (a b : Int) (A1 : Addr) (w : World) (h0 : w.cell? A1 = some (.int .i64 a)) (h1 : w.cell? (A1.add 1) = some (.int .i64 b)) :
    Calls Try.prog 37 #[.slice (some A1) 2 2] w fun e w' => e = .returned (.int .i64 (orL [a, b])) ∧ w' = w := by
  have hc : ∀ i, i < 2 → w.cell? (A1.add i) = some (.int .i64 (if i = 0 then a else b)) := fun i hi => by
    match i, hi with
    | 0, _ => exact h0
    | 1, _ => exact h1
  have H1 := Lib.hid hc
  have HOR := Lib.hid (or_two a b)
  clear h0 h1 hc
  go_enter Try.func37, Try.ntmps37
  go_wp2_with fail
  go_loopw [8] (fun x8 wr => ∃ i : Nat, x8 = .int .i64 (i : Int) ∧ i ≤ 2 ∧ (0 < i → a = 0) ∧ (1 < i → b = 0) ∧ wr = w) (fun x8 _ => 2 - (intOf x8).toNat)
  case atStart => exact ⟨0, rfl, Nat.zero_le _, (fun h => absurd h (Nat.lt_irrefl 0)), (fun h => absurd h (by omega)), rfl⟩
  case round =>
    obtain ⟨i, rfl, hi, g0, g1, rfl⟩ := hrel
    have G0 := Lib.hid g0
    have G1 := Lib.hid g1
    clear g0 g1
    by_cases hlt : i < 2
    · have e1 := H1.out i hlt
      have hil : (i : Int) < 2 := by omega
      obtain ⟨x, hx⟩ : ∃ x, x = if i = 0 then a else b := ⟨_, rfl⟩
      rw [← hx] at e1
      have HX := Lib.hid hx
      clear hx
      by_cases hz : x = 0
      · subst hz
        go_wp2
        go_roundw
        case rel =>
          refine ⟨i + 1, by go_num, hlt, fun _ => ?_, fun h => ?_, trivial⟩
          · have h := HX.out
            by_cases e : i = 0
            · rw [if_pos e] at h; exact h.symm
            · exact G0.out (by omega)
          · have h2 := HX.out
            rw [if_neg (by omega)] at h2
            exact h2.symm
        case measure => simp [intOf]; omega
      · have hzb : (x != 0) = true := by simp [bne, hz]
        have HE : Hid (orL [a, b] = x) := by
          show _ = _
          rw [HOR.out]
          have h := HX.out
          by_cases e : i = 0
          · rw [if_pos e] at h
            rw [if_neg (by rw [← h]; exact hz)]
            exact h.symm
          · rw [if_neg e] at h
            rw [if_pos (G0.out (by omega))]
            exact h.symm
        go_wp2
        go_ret
        rw [HE.out]
        exact ⟨rfl, rfl⟩
    · obtain rfl : i = 2 := by omega
      have HE : Hid (orL [a, b] = 0) := by
        show _ = _
        rw [HOR.out, if_pos (G0.out (by omega))]
        exact G1.out (by omega)
      go_wp2
      go_ret
      rw [HE.out]
      exact ⟨rfl, rfl⟩

/-- Compare's answer out of the two answers, in whatever world the row is laid. -/
theorem or_row9 (a b : Int) (w : World) : Calls Try.prog 37 #[.slice (some ⟨w.heap.size, 0, none⟩) 2 2] (w.alloc (.cells #[.int .i64 a, .int .i64 b] 3)) fun e w' => e = .returned (.int .i64 (orL [a, b])) ∧ w' = w.alloc (.cells #[.int .i64 a, .int .i64 b] 3) := by
  have hb := Box.new w 3 #[.int .i64 a, .int .i64 b]
  exact or_two9 a b ⟨w.heap.size, 0, none⟩ _ (hb.cell 0) (by rw [own_add]; exact hb.cell 1)

set_option maxHeartbeats 8000000 in
theorem compare_gr9 (p q : K9) (w : World) : Calls Try.prog 22 #[kv9 p, kv9 q] w fun e w' => e = .returned (.int .i64 (cmpK p q)) ∧ Gr w w' := by
  unfold kv9
  obtain ⟨w0, hw0⟩ : ∃ w0, w0 = (w.alloc (.cells #[.int .i64 p.h, sv9 p.a, sv9 p.b, sv9 p.c, sv9 p.d] 44)).alloc (.cells #[.int .i64 q.h, sv9 q.a, sv9 q.b, sv9 q.c, sv9 q.d] 44) := ⟨_, rfl⟩
  have HT0 : Hid (Gr w w0) := by rw [hw0]; exact ((Gr.refl w).alloc _).alloc _
  have hb1 : Box w0 w.heap.size 44 #[.int .i64 p.h, sv9 p.a, sv9 p.b, sv9 p.c, sv9 p.d] := by rw [hw0]; exact (Box.new w _ _).alloc _
  have hb2 : Box w0 (w.heap.size + 1) 44 #[.int .i64 q.h, sv9 q.a, sv9 q.b, sv9 q.c, sv9 q.d] := by
    rw [hw0]
    have h := Box.new (w.alloc (.cells #[.int .i64 p.h, sv9 p.a, sv9 p.b, sv9 p.c, sv9 p.d] 44)) 44 #[.int .i64 q.h, sv9 q.a, sv9 q.b, sv9 q.c, sv9 q.d]
    rw [World.size_alloc] at h
    exact h
  have H1 : Hid (∀ W, Gr w0 W → W.cell? ⟨w.heap.size, 0, none⟩ = some (.int .i64 p.h)) := fun W ht => (hb1.turn ht.turn (fun f => f)).cell 0
  have H2 : Hid (∀ W, Gr w0 W → W.cell? ⟨w.heap.size + 1, 0, none⟩ = some (.int .i64 q.h)) := fun W ht => (hb2.turn ht.turn (fun f => f)).cell 0
  have HD1 : Hid (∀ W, Gr w0 W → ∀ i, i < 4 → W.cell? ((⟨w.heap.size, 1, none⟩ : Addr).add i) = some (sv9 (p.dim i))) := fun W ht i hi => by
    have h := dim_cell (o := 1) (hb1.turn ht.turn (fun f => f)) key_cells i hi
    unfold Addr.add
    split
    · rename_i e; subst e; exact h
    · exact h
  have HD2 : Hid (∀ W, Gr w0 W → ∀ i, i < 4 → W.cell? ((⟨w.heap.size + 1, 1, none⟩ : Addr).add i) = some (sv9 (q.dim i))) := fun W ht i hi => by
    have h := dim_cell (o := 1) (hb2.turn ht.turn (fun f => f)) key_cells i hi
    unfold Addr.add
    split
    · rename_i e; subst e; exact h
    · exact h
  have HW := Lib.hid hw0
  have HC : Hid (∀ W, Gr w0 W → Calls Try.prog 39 #[.slice (some ⟨w.heap.size, 1, none⟩) 4 4, .slice (some ⟨w.heap.size + 1, 1, none⟩) 4 4] W fun e w' => e = .returned (.int .i64 (dimsC p q 4)) ∧ w' = W) := fun W ht => cmp_dims9 p q _ _ W (HD1.out W ht) (HD2.out W ht)
  have HN : Hid (∀ W, Calls Try.prog 38 #[.int .i64 p.h, .int .i64 q.h] W fun e w' => e = .returned (.int .i64 (cmpI p.h q.h)) ∧ w' = W) := fun W => cmp_num9 p.h q.h W
  have HO : Hid (∀ W : World, Calls Try.prog 37 #[.slice (some ⟨W.heap.size, 0, none⟩) 2 2] (W.alloc (.cells #[.int .i64 (cmpI p.h q.h), .int .i64 (dimsC p q 4)] 3)) fun e w' => e = .returned (.int .i64 (cmpK p q)) ∧ w' = W.alloc (.cells #[.int .i64 (cmpI p.h q.h), .int .i64 (dimsC p q 4)] 3)) := fun W => by
    have h := or_row9 (cmpI p.h q.h) (dimsC p q 4) W
    rwa [or_key] at h
  generalize cmpI p.h q.h = ca at *
  generalize dimsC p q 4 = cb at *
  generalize cmpK p q = cc at *
  clear hb1 hb2 hw0 HD1 HD2
  go_enter Try.func22, Try.ntmps22
  go_wp2_with fail
  rw [← HW.out]
  refine drawn_region (fun V => Gr w0 V) [] (by kernel_rfl) ?_
  have ht0 : Gr w0 (World.drew w0) := (Gr.refl w0).drew
  generalize World.drew w0 = wd at *
  have HD := Lib.hid ht0
  have hS0 := ht0
  clear ht0
  refine drawn_take 0 5 (.pointer (some ⟨w.heap.size, 0, none⟩)) rfl rfl (by kernel_rfl) (by kernel_rfl) (by kernel_rfl) (by kernel_rfl) (fun _ _ _ h => h) (by rfl) (by assumption) (by intro w hSw; obtain hS1 := hSw; go_simp) ?_
  try simp only [List.setIfInBounds_toArray, List.set_cons_zero, List.set_cons_succ]
  refine drawn_take 1 6 (.int .i64 p.h) rfl rfl (by kernel_rfl) (by kernel_rfl) (by kernel_rfl) (by kernel_rfl) (fun _ _ _ h => h) (by rfl) (by assumption) (by intro w hSw; have a0 := H1.out w hSw; go_simp) ?_
  try simp only [List.setIfInBounds_toArray, List.set_cons_zero, List.set_cons_succ]
  refine drawn_take 2 7 (.pointer (some ⟨w.heap.size + 1, 0, none⟩)) rfl rfl (by kernel_rfl) (by kernel_rfl) (by kernel_rfl) (by kernel_rfl) (fun _ _ _ h => h) (by rfl) (by assumption) (by intro w hSw; obtain hS1 := hSw; go_simp) ?_
  try simp only [List.setIfInBounds_toArray, List.set_cons_zero, List.set_cons_succ]
  refine drawn_take 3 8 (.int .i64 q.h) rfl rfl (by kernel_rfl) (by kernel_rfl) (by kernel_rfl) (by kernel_rfl) (fun _ _ _ h => h) (by rfl) (by assumption) (by intro w hSw; have a0 := H2.out w hSw; go_simp) ?_
  try simp only [List.setIfInBounds_toArray, List.set_cons_zero, List.set_cons_succ]
  refine drawn_take 5 10 (.pointer (some ⟨w.heap.size, 1, none⟩)) rfl rfl (by kernel_rfl) (by kernel_rfl) (by kernel_rfl) (by kernel_rfl) (fun _ _ _ h => h) (by rfl) (by assumption) (by intro w hSw; obtain hS1 := hSw; go_simp) ?_
  try simp only [List.setIfInBounds_toArray, List.set_cons_zero, List.set_cons_succ]
  refine drawn_take 6 11 (.slice (some ⟨w.heap.size, 1, none⟩) 4 4) rfl rfl (by kernel_rfl) (by kernel_rfl) (by kernel_rfl) (by kernel_rfl) (fun _ _ _ h => h) (by rfl) (by assumption) (by intro w hSw; obtain hS1 := hSw; go_simp) ?_
  try simp only [List.setIfInBounds_toArray, List.set_cons_zero, List.set_cons_succ]
  refine drawn_take 7 12 (.pointer (some ⟨w.heap.size + 1, 1, none⟩)) rfl rfl (by kernel_rfl) (by kernel_rfl) (by kernel_rfl) (by kernel_rfl) (fun _ _ _ h => h) (by rfl) (by assumption) (by intro w hSw; obtain hS1 := hSw; go_simp) ?_
  try simp only [List.setIfInBounds_toArray, List.set_cons_zero, List.set_cons_succ]
  refine drawn_take 8 13 (.slice (some ⟨w.heap.size + 1, 1, none⟩) 4 4) rfl rfl (by kernel_rfl) (by kernel_rfl) (by kernel_rfl) (by kernel_rfl) (fun _ _ _ h => h) (by rfl) (by assumption) (by intro w hSw; obtain hS1 := hSw; go_simp) ?_
  try simp only [List.setIfInBounds_toArray, List.set_cons_zero, List.set_cons_succ]
  refine drawn_any [4] (by kernel_rfl) (by simp) ?_
  refine drawn_cons rfl (fun K hK => ?_) drawn_nil
  go_simp
  refine (HN.out wd).mono ?_
  rintro e w2 ⟨rfl, rfl⟩
  refine hK.out _ _ _ hS0 ?_
  clear hK K
  try simp only [List.setIfInBounds_toArray, List.set_cons_zero, List.set_cons_succ]
  refine drawn_any [9] (by kernel_rfl) (by simp) ?_
  refine drawn_cons rfl (fun K hK => ?_) drawn_nil
  go_simp
  refine (HC.out _ hS0).mono ?_
  rintro e w3 ⟨rfl, rfl⟩
  refine hK.out _ _ _ hS0 ?_
  clear hK K
  try simp only [List.setIfInBounds_toArray, List.set_cons_zero, List.set_cons_succ]
  refine drawn_any [10] (by kernel_rfl) (by simp) ?_
  refine drawn_cons rfl (fun K hK => ?_) drawn_nil
  go_simp
  have hS4 := hS0.alloc (.cells #[.int .i64 ca, .int .i64 cb] 3)
  refine hK.out _ _ _ hS4 ?_
  clear hK K
  try simp only [List.setIfInBounds_toArray, List.set_cons_zero, List.set_cons_succ]
  refine drawn_any [11] (by kernel_rfl) (by simp) ?_
  refine drawn_cons rfl (fun K hK => ?_) drawn_nil
  go_simp
  refine (HO.out _).mono ?_
  rintro e w5 ⟨rfl, rfl⟩
  refine hK.out _ _ _ hS4 ?_
  clear hK K
  try simp only [List.setIfInBounds_toArray, List.set_cons_zero, List.set_cons_succ]
  refine drawn_last1 12 4 (.int .i64 cc) rfl rfl (by kernel_rfl) (by kernel_rfl) (by rfl) (by intro w; go_simp) hS4 ?_
  try simp only [List.setIfInBounds_toArray, List.set_cons_zero, List.set_cons_succ]
  have HF := Lib.hid (HT0.out.trans hS4)
  clear hS0 hS4
  go_wp2
  go_ret
  exact ⟨rfl, HF.out⟩

theorem compare_any9 (p q : K9) (w : World) : Calls Try.prog 22 #[kv9 p, kv9 q] w fun e w' => e = .returned (.int .i64 (cmpK p q)) ∧ Turn (fun _ => False) w w' :=
  (compare_gr9 p q w).mono fun _ _ h => ⟨h.1, h.2.turn⟩

end Go.Proofs.Ytklpmajaihmmfaa

/-
  Stage 11: At, Find: what is at a place, at a key.
-/
namespace Go.Proofs.Ytklpmajaihmmfaa
open Go.RowKit

set_option maxRecDepth 100000

end Go.Proofs.Ytklpmajaihmmfaa

/-
  Stage 11: Find, by a binary search; sort.Search.
-/
namespace Go.Proofs.Ytklpmajaihmmfaa
open Go.RowKit

set_option maxRecDepth 100000

/-- The place at which a key is, or would be. -/
structure Mid11 (P : R11 → Bool) (L : List R11) (i j : Nat) : Prop where
  le : i ≤ j
  top : j ≤ L.length
  low : ∀ t r, t < i → L[t]? = some r → P r = true
  high : ∀ t r, j ≤ t → L[t]? = some r → P r = false
theorem Mid11.start (P : R11 → Bool) (L : List R11) : Mid11 P L 0 L.length := ⟨Nat.zero_le _, Nat.le_refl _, fun t r h => absurd h (Nat.not_lt_zero t), fun t r h hr => by rw [List.getElem?_eq_none h] at hr; cases hr⟩
theorem find_mid {k : K9} {L : List R11} {i : Nat} (hr : RiseR L) (h : Mid11 (fun r => keyLt r.k k) L i i) : findR k L = match L[i]? with | some r => if r.k = k then some r.c else none | none => none := by
  have key : ∀ c, findR k L = some c → L[i]? = some ⟨k, c⟩ := fun c hc => by
    obtain ⟨t, ht⟩ := List.mem_iff_getElem?.1 (find_mem hc)
    rcases Nat.lt_trichotomy t i with hlt | rfl | hgt
    · have := h.low t _ hlt ht
      simp only [key_irr] at this
      cases this
    · exact ht
    · obtain ⟨h1, e1⟩ := List.getElem?_eq_some_iff.1 ht
      have hi : i < L.length := by omega
      have h2 := List.pairwise_iff_getElem.1 hr i t hi h1 hgt
      rw [e1] at h2
      have h3 := h.high i _ (Nat.le_refl _) (List.getElem?_eq_getElem hi)
      simp only at h2 h3
      rw [h2] at h3
      cases h3
  cases hi : L[i]? with
  | none =>
    cases hf : findR k L with
    | none => rfl
    | some c => rw [key c hf] at hi; cases hi
  | some r =>
    dsimp only
    by_cases e : r.k = k
    · rw [if_pos e, ← e]
      exact find_of hr (List.mem_of_getElem? hi)
    · rw [if_neg e]
      cases hf : findR k L with
      | none => rfl
      | some c =>
        have h1 := key c hf
        rw [hi] at h1
        cases h1
        exact absurd rfl e
theorem Mid11.up {P : R11 → Bool} {L : List R11} {i j m : Nat} (h : Mid11 P L i j) (hs : ∀ (a b : Nat) x y, a ≤ b → L[a]? = some x → L[b]? = some y → P y = true → P x = true) {r : R11} (h2 : m < j) (hr : L[m]? = some r) (hp : P r = true) : Mid11 P L (m + 1) j :=
  ⟨h2, h.top, fun t x ht hx => hs t m x r (by omega) hx hr hp, h.high⟩
theorem Mid11.down {P : R11 → Bool} {L : List R11} {i j m : Nat} (h : Mid11 P L i j) (hs : ∀ (a b : Nat) x y, a ≤ b → L[a]? = some x → L[b]? = some y → P y = true → P x = true) {r : R11} (h1 : i ≤ m) (h2 : m < j) (hr : L[m]? = some r) (hp : P r = false) : Mid11 P L i m :=
  ⟨h1, by have := h.top; omega, h.low, fun t x ht hx => by
    cases e : P x with
    | false => rfl
    | true => rw [hs m t r x ht hr hx e] at hp; cases hp⟩
theorem key_down {k : K9} {L : List R11} (hr : RiseR L) (a b : Nat) (x y : R11) (hab : a ≤ b) (hx : L[a]? = some x) (hy : L[b]? = some y) (h : keyLt y.k k = true) : keyLt x.k k = true := by
  obtain ⟨h1, e1⟩ := List.getElem?_eq_some_iff.1 hx
  obtain ⟨h2, e2⟩ := List.getElem?_eq_some_iff.1 hy
  rcases Nat.lt_or_ge a b with hlt | hge
  · have := List.pairwise_iff_getElem.1 hr a b h1 h2 hlt
    rw [e1, e2] at this
    exact key_tr this h
  · obtain rfl : a = b := by omega
    rw [e1] at e2
    subst e2
    exact h

end Go.Proofs.Ytklpmajaihmmfaa

/-
  Stage 11: the library's sort.Search by the program's closures; within: the rows of hours.
-/
namespace Go.Proofs.Ytklpmajaihmmfaa
open Go.RowKit

set_option maxRecDepth 100000

section
variable {P : Program} {T : Type} {E : El T} {tS e : TypeId}
/-- l[i:j]. -/
theorem run_midV (ht : P.underlying tS = some (.slice e)) (hz : (P.info? e).map (·.size) = some E.sz) (A : Option Addr) (n c i j : Nat) (hi : i ≤ j) (hj : j ≤ c) (w : World) :
    (Instr.slice tS (.slice A n c) (some (.int .i64 (i : Int))) (some (.int .i64 (j : Int))) none).run P w = .ok (tailV E A j c i) w := by
  obtain ⟨k, hk, hz⟩ := Option.map_eq_some_iff.1 hz
  unfold tailV
  rw [← hz]
  simp [Instr.slice, Instr.sliceBounds, Instr.sliceBound, asIntOf, run_underlying ht, sizeOf, typeInfo, hk]
  rw [if_pos hj, if_pos hi]
end

/-- The rows of hours, between two places. -/
def lowH (b : Int) (r : R11) : Bool := decide (r.k.h < b)
theorem hour_down {b : Int} {L : List R11} (hr : RiseR L) (i j : Nat) (x y : R11) (hij : i ≤ j) (hx : L[i]? = some x) (hy : L[j]? = some y) (h : lowH b y = true) : lowH b x = true := by
  obtain ⟨h1, e1⟩ := List.getElem?_eq_some_iff.1 hx
  obtain ⟨h2, e2⟩ := List.getElem?_eq_some_iff.1 hy
  rcases Nat.lt_or_ge i j with hlt | hge
  · have h3 := List.pairwise_iff_getElem.1 hr i j h1 h2 hlt
    rw [e1, e2] at h3
    unfold lowH at h ⊢
    rw [decide_eq_true_iff] at h ⊢
    have : ¬ y.k.h < x.k.h := fun hlt2 => by
      have h4 := key_hour hlt2
      rw [rises_key.asym h3] at h4
      cases h4
    omega
  · obtain rfl : i = j := by omega
    rw [e1] at e2
    subst e2
    exact h
theorem filter_none {α : Type} {p : α → Bool} {l : List α} (h : ∀ x ∈ l, p x = false) : l.filter p = [] := List.filter_eq_nil_iff.2 fun x hx => by rw [h x hx]; simp
theorem range_mid {L : List R11} {a b : Int} {i j : Nat} (hab : a < b) (h1 : Mid11 (lowH a) L i i) (h2 : Mid11 (lowH b) L j j) : i ≤ j ∧ rangeR L a b = (L.take j).drop i := by
  have hij : i ≤ j := by
    rcases Nat.lt_or_ge j i with h | h
    · have hj : j < L.length := by have := h1.top; omega
      have g1 := h1.low j _ h (List.getElem?_eq_getElem hj)
      have g2 := h2.high j _ (Nat.le_refl _) (List.getElem?_eq_getElem hj)
      unfold lowH at g1 g2
      rw [decide_eq_true_iff] at g1
      rw [decide_eq_false_iff_not] at g2
      omega
    · exact h
  refine ⟨hij, ?_⟩
  have e : L = (L.take j).take i ++ ((L.take j).drop i ++ L.drop j) := by rw [← List.append_assoc, List.take_append_drop, List.take_append_drop]
  unfold rangeR
  conv => lhs; rw [e]
  rw [List.filter_append, List.filter_append]
  have p1 : ((L.take j).take i).filter (inH a b) = [] := filter_none fun x hx => by
    obtain ⟨t, ht⟩ := List.mem_iff_getElem?.1 hx
    rw [List.take_take, List.getElem?_take] at ht
    split at ht
    · have g := h1.low t x (by omega) ht
      unfold lowH at g
      rw [decide_eq_true_iff] at g
      unfold inH
      rw [decide_eq_false (by omega), Bool.false_and]
    · cases ht
  have p3 : (L.drop j).filter (inH a b) = [] := filter_none fun x hx => by
    obtain ⟨t, ht⟩ := List.mem_iff_getElem?.1 hx
    rw [List.getElem?_drop] at ht
    have g := h2.high (j + t) x (by omega) ht
    unfold lowH at g
    rw [decide_eq_false_iff_not] at g
    unfold inH
    rw [decide_eq_false g, Bool.and_false]
  have p2 : ((L.take j).drop i).filter (inH a b) = (L.take j).drop i := List.filter_eq_self.2 fun x hx => by
    obtain ⟨t, ht⟩ := List.mem_iff_getElem?.1 hx
    rw [List.getElem?_drop, List.getElem?_take] at ht
    split at ht
    · have g1 := h1.high (i + t) x (by omega) ht
      have g2 := h2.low (i + t) x (by omega) ht
      unfold lowH at g1 g2
      rw [decide_eq_true_iff] at g2
      rw [decide_eq_false_iff_not] at g1
      unfold inH
      rw [decide_eq_true (by omega), decide_eq_true g2]
      rfl
    · cases ht
  rw [p1, p2, p3, List.append_nil, List.nil_append]
theorem range_none {L : List R11} {a b : Int} (h : b ≤ a) : rangeR L a b = [] := filter_none fun x _ => by
  unfold inH
  by_cases h1 : a ≤ x.k.h
  · rw [decide_eq_false (show ¬ x.k.h < b by omega), Bool.and_false]
  · rw [decide_eq_false h1, Bool.false_and]

/-- Behind a search of an hour. -/
def Low11 (w : World) (L : List R11) (b : Int) (e : Ending) (w' : World) : Prop := ∃ i : Nat, e = .returned (.int .i64 (i : Int)) ∧ Mid11 (lowH b) L i i ∧ Turn (fun _ => False) w w'

set_option maxHeartbeats 1000000 in
theorem at_hour11 (rb hb : Nat) (ad : Addr) (n c i : Nat) (x : R11) (b : Int) (w : World) (h1 : w.cell? ⟨rb, 0, none⟩ = some (.slice (some ad) n c)) (h2 : w.cell? ⟨hb, 0, none⟩ = some (.int .i64 b)) (hin : i < n) (hx : RowAt w (ad.add (i * 9)) x) :
    Calls Try.prog 58 #[.int .i64 (i : Int), .pointer (some ⟨rb, 0, none⟩), .pointer (some ⟨hb, 0, none⟩)] w fun e w' => e = .returned (.bool (decide (b ≤ x.k.h))) ∧ Turn (fun _ => False) w w' := by
  obtain ⟨a0, -, -, -, -, -, -, -, -⟩ := hx
  have hil : (i : Int) < (n : Int) := by omega
  go_enter Try.func58, Try.ntmps58
  go_wp2_with fail
  go_quiet (fail)
  go_wp2
  go_ret
  exact ⟨rfl, (Turn.refl _ w).drewN _⟩

set_option maxHeartbeats 4000000 in
theorem search_hour11 (rb hb : Nat) (A : Option Addr) (c : Nat) (L : List R11) (b : Int) (w : World) (hr : RiseR L) (hl : L.length ≤ 20000) (h1 : Box w rb 26 #[.slice A L.length c]) (h2 : Box w hb 2 #[.int .i64 b]) (hv : RdE ER w (.slice A L.length c) L) :
    Calls Try.prog 57 #[.int .i64 (L.length : Int), .func (.func 58) #[] #[.pointer (some ⟨rb, 0, none⟩), .pointer (some ⟨hb, 0, none⟩)]] w fun e w' => Low11 w L b e w' := by
  have HV := Lib.hid hv
  have HR := Lib.hid hr
  have HB1 := Lib.hid h1
  have HB2 := Lib.hid h2
  have HST : Hid (Mid11 (lowH b) L 0 L.length) := Mid11.start _ L
  clear hv hr h1 h2
  go_enter Try.func57, Try.ntmps57
  go_wp2_with fail
  go_loopw [5, 6] (fun x5 x6 wr => ∃ i j : Nat, x5 = .int .i64 (i : Int) ∧ x6 = .int .i64 (j : Int) ∧ Mid11 (lowH b) L i j ∧ Turn (fun _ => False) w wr) (fun x5 x6 _ => (intOf x6).toNat - (intOf x5).toNat)
  case atStart => exact ⟨0, L.length, rfl, rfl, HST.out, Turn.refl _ _⟩
  case round =>
    clear HST
    obtain ⟨i, j, rfl, rfl, hm, ht⟩ := hrel
    have HM := Lib.hid hm
    have HT2 := Lib.hid ht
    have h1 := hm.le
    have h2 := hm.top
    clear hm ht
    by_cases hlt : i < j
    · have hij : (i : Int) < (j : Int) := by omega
      obtain ⟨m, hm⟩ : ∃ m, m = (i + j) / 2 := ⟨_, rfl⟩
      have hmj : m < j := by omega
      have hmi : i ≤ m := by omega
      obtain ⟨x, hx⟩ : ∃ x, L[m]? = some x := ⟨_, List.getElem?_eq_getElem (by omega)⟩
      obtain ⟨ad, rfl, hc⟩ := row_at11 HV.out hx
      have HCL : Hid (Calls Try.prog 58 #[.int .i64 (m : Int), .pointer (some ⟨rb, 0, none⟩), .pointer (some ⟨hb, 0, none⟩)] wr fun e w' => e = .returned (.bool (decide (b ≤ x.k.h))) ∧ Turn (fun _ => False) wr w') :=
        at_hour11 rb hb ad L.length c m x b wr ((HB1.out.turn HT2.out (fun f => f)).cell 0) ((HB2.out.turn HT2.out (fun f => f)).cell 0) (by omega) (hc wr HT2.out)
      have HUP : Hid (lowH b x = true → Mid11 (lowH b) L (m + 1) j) := fun h => HM.out.up (hour_down HR.out) hmj hx h
      have HDN : Hid (lowH b x = false → Mid11 (lowH b) L i m) := fun h => HM.out.down (hour_down HR.out) hmi hmj hx h
      have hmid : ((i : Int) + (j : Int)) / 2 = (m : Int) := by omega
      clear hc hx hm
      by_cases hb : b ≤ x.k.h
      · have HN := Lib.hid (HDN.out (decide_eq_false (by omega)))
        rw [decide_eq_true hb] at HCL
        clear HUP HDN hb
        go_wp2_with fail
        refine HCL.out.mono ?_
        rintro e w4 ⟨rfl, t4⟩
        have HF := Lib.hid (HT2.out.trans t4 (fun _ _ f => f))
        clear t4
        go_wp2
        go_roundw
        case rel => exact ⟨i, m, rfl, rfl, HN.out, HF.out⟩
        case measure => simp [intOf]; omega
      · have HN := Lib.hid (HUP.out (decide_eq_true (by omega)))
        rw [decide_eq_false hb] at HCL
        clear HUP HDN hb
        go_wp2_with fail
        refine HCL.out.mono ?_
        rintro e w4 ⟨rfl, t4⟩
        have HF := Lib.hid (HT2.out.trans t4 (fun _ _ f => f))
        clear t4
        go_wp2
        go_roundw
        case rel => exact ⟨m + 1, j, by go_num, rfl, HN.out, HF.out⟩
        case measure => simp [intOf]; omega
    · obtain rfl : i = j := by omega
      clear h1
      go_wp2
      go_ret
      exact ⟨i, rfl, HM.out, HT2.out⟩

set_option maxHeartbeats 2000000 in
theorem place_any11 (rb : Nat) (A : Option Addr) (c : Nat) (L : List R11) (b : Int) (w : World) (hr : RiseR L) (hl : L.length ≤ 20000) (h1 : Box w rb 26 #[.slice A L.length c]) (hv : RdE ER w (.slice A L.length c) L) :
    Calls Try.prog 56 #[.int .i64 b, .pointer (some ⟨rb, 0, none⟩)] w fun e w' => Low11 w L b e w' := by
  have HS := Lib.hid (search_hour11 rb w.heap.size A c L b (w.alloc (.cells #[.int .i64 b] 2)) hr hl (h1.alloc _) (Box.new w _ _) (hv.later ((Turn.refl _ w).alloc _)))
  have c0 := (h1.alloc (.cells #[.int .i64 b] 2)).cell 0
  clear hv hr h1
  go_enter Try.func56, Try.ntmps56
  go_wp2_with fail
  refine HS.out.mono ?_
  rintro e w1 ⟨i, rfl, hm, t1⟩
  have HM := Lib.hid hm
  have HT : Hid (Turn (fun _ => False) w w1) := ((Turn.refl _ w).alloc _).trans t1 (fun _ _ f => f)
  clear hm t1 HS
  go_wp2
  go_ret
  exact ⟨i, rfl, HM.out, HT.out⟩

/-- The rows of hours, not to be changed. -/
def Within11 (w : World) (L : List R11) (e : Ending) (w' : World) : Prop := ∃ sl, e = .returned sl ∧ RdE ER w' sl L ∧ Turn (fun _ => False) w w'
set_option maxHeartbeats 4000000 in
theorem within_any11 (s : Value) (L : List R11) (a b : Int) (w : World) (h : SV11 w s L) : Calls Try.prog 44 #[s, .int .i64 a, .int .i64 b] w fun e w' => Within11 w (rangeR L a b) e w' := by
  have HA := Lib.hid (all_any11 s L w h)
  have HR := Lib.hid (rightR_spec h.right.1).1
  have hl := h.right.2.2
  obtain ⟨p, rfl⟩ := h.ptr
  clear h
  by_cases hab : b ≤ a
  · rw [range_none hab]
    clear HA
    go_enter Try.func44, Try.ntmps44
    go_wp2
    go_ret
    exact ⟨_, rfl, RdE.nil _, Turn.refl _ _⟩
  · have hlt : a < b := by omega
    go_enter Try.func44, Try.ntmps44
    go_wp2_with fail
    refine HA.out.mono ?_
    rintro e w1 ⟨sl, rfl, hr, hw⟩
    replace hw := hw.symm
    subst hw
    obtain ⟨A, c, rfl⟩ := hr.shape
    have hfit := hr.fits
    have HRD := Lib.hid hr
    clear HA hr
    obtain ⟨w0, hw0⟩ : ∃ w0, w0 = w.alloc (.cells #[.slice A L.length c] 26) := ⟨_, rfl⟩
    have HT : Hid (Turn (fun _ => False) w w0) := by rw [hw0]; exact (Turn.refl _ w).alloc _
    have HB : Hid (∀ W, Turn (fun _ => False) w0 W → Box W w.heap.size 26 #[.slice A L.length c]) := fun W ht => Box.turn (by rw [hw0]; exact Box.new w _ _) ht (fun f => f)
    have HP : Hid (∀ W b, Turn (fun _ => False) w0 W → Calls Try.prog 56 #[.int .i64 b, .pointer (some ⟨w.heap.size, 0, none⟩)] W fun e w' => Low11 W L b e w') := fun W b ht => place_any11 w.heap.size A c L b W HR.out hl (HB.out W ht) (HRD.out.later (HT.out.trans ht (fun _ _ f => f)))
    have HW := Lib.hid hw0
    clear hw0
    go_wp2_with fail
    rw [← HW.out]
    refine drawn_region (fun W => Turn (fun _ => False) w0 W) [] (by kernel_rfl) ?_
    have hS0 : Turn (fun _ => False) w0 (World.drew w0) := (Turn.refl _ w0).drew
    generalize World.drew w0 = wd at *
    refine drawn_take 0 15 (.slice A L.length c) rfl rfl (by kernel_rfl) (by kernel_rfl) (by kernel_rfl) (by kernel_rfl) (fun _ _ _ h => h) (by rfl) (by assumption) (by intro w hSw; have hb := HB.out w hSw; have a0 := hb.cell 0; clear hSw hb; go_simp) ?_
    try simp only [List.setIfInBounds_toArray, List.set_cons_zero, List.set_cons_succ]
    refine drawn_take 1 16 (.func (.func 56) #[] #[.pointer (some ⟨w.heap.size, 0, none⟩)]) rfl rfl (by kernel_rfl) (by kernel_rfl) (by kernel_rfl) (by kernel_rfl) (fun _ _ _ h => h) (by rfl) (by assumption) (by intro w hSw; obtain hS1 := hSw; go_simp) ?_
    try simp only [List.setIfInBounds_toArray, List.set_cons_zero, List.set_cons_succ]
    refine drawn_take 2 17 (.int .i64 a) rfl rfl (by kernel_rfl) (by kernel_rfl) (by kernel_rfl) (by kernel_rfl) (fun _ _ _ h => h) (by rfl) (by assumption) (by intro w hSw; obtain hS1 := hSw; go_simp) ?_
    try simp only [List.setIfInBounds_toArray, List.set_cons_zero, List.set_cons_succ]
    refine drawn_take 4 19 (.func (.func 56) #[] #[.pointer (some ⟨w.heap.size, 0, none⟩)]) rfl rfl (by kernel_rfl) (by kernel_rfl) (by kernel_rfl) (by kernel_rfl) (fun _ _ _ h => h) (by rfl) (by assumption) (by intro w hSw; obtain hS1 := hSw; go_simp) ?_
    try simp only [List.setIfInBounds_toArray, List.set_cons_zero, List.set_cons_succ]
    refine drawn_take 5 20 (.int .i64 b) rfl rfl (by kernel_rfl) (by kernel_rfl) (by kernel_rfl) (by kernel_rfl) (fun _ _ _ h => h) (by rfl) (by assumption) (by intro w hSw; obtain hS1 := hSw; go_simp) ?_
    try simp only [List.setIfInBounds_toArray, List.set_cons_zero, List.set_cons_succ]
    refine drawn_any [3] (by kernel_rfl) (by simp) ?_
    refine drawn_cons rfl (fun K hK => ?_) drawn_nil
    go_simp
    refine (HP.out _ a hS0).mono ?_
    rintro e w1 ⟨i, rfl, hi, t1⟩
    have hS1 := hS0.trans t1 (fun _ _ f => f)
    have HI := Lib.hid hi
    refine hK.out _ _ _ hS1 ?_
    clear hK K hS0 hi t1
    try simp only [List.setIfInBounds_toArray, List.set_cons_zero, List.set_cons_succ]
    refine drawn_any [6] (by kernel_rfl) (by simp) ?_
    refine drawn_cons rfl (fun K hK => ?_) drawn_nil
    go_simp
    refine (HP.out _ b hS1).mono ?_
    rintro e w2 ⟨j, rfl, hj, t2⟩
    have hS0 := hS1.trans t2 (fun _ _ f => f)
    have HJ := Lib.hid hj
    refine hK.out _ _ _ hS0 ?_
    clear hK K hS1 hj t2
    try simp only [List.setIfInBounds_toArray, List.set_cons_zero, List.set_cons_succ]
    obtain ⟨hij, hrange⟩ := range_mid hlt HI.out HJ.out
    have hjl := HJ.out.top
    have hmid := fun W => run_midV (E := ER) (P := Try.prog) Try.underlying26 row_size11 A L.length c i j hij (Nat.le_trans hjl hfit.2.1) W
    have HTV : Hid (RdE ER w2 (tailV ER A j c i) (rangeR L a b)) := by
      rw [hrange]
      exact rd_tailV ((HRD.out.later (HT.out.trans hS0 (fun _ _ f => f))).front j hjl) hij
    obtain ⟨v, hv⟩ : ∃ v, v = tailV ER A j c i := ⟨_, rfl⟩
    rw [← hv] at HTV
    rw [← hv] at hmid
    clear hv hrange hfit
    obtain ⟨A2, c2, e2⟩ := HTV.out.shape
    subst e2
    refine drawn_take 7 22 (.slice A2 (rangeR L a b).length c2) rfl rfl (by kernel_rfl) (by kernel_rfl) (by kernel_rfl) (by kernel_rfl) (fun _ _ _ h => h) (by rfl) (by assumption) (by intro w hSw; clear hSw; have hm := hmid w; go_simp) ?_
    try simp only [List.setIfInBounds_toArray, List.set_cons_zero, List.set_cons_succ]
    refine drawn_last1 8 6 (.slice A2 (rangeR L a b).length c2) rfl rfl (by kernel_rfl) (by kernel_rfl) (by rfl) (by intro w; go_simp) hS0 ?_
    try simp only [List.setIfInBounds_toArray, List.set_cons_zero, List.set_cons_succ]
    have HE := Lib.hid (HT.out.trans hS0 (fun _ _ f => f))
    clear hS0 hmid
    go_wp2
    go_ret
    exact ⟨_, rfl, HTV.out, HE.out⟩

end Go.Proofs.Ytklpmajaihmmfaa

/-
  Rows of elements of one cell that a call owns: what they hold, what leaves them as they are, one element put behind them. Rows of numbers.
-/
namespace Go.Proofs.Ytklpmajaihmmfaa
open Go.RowKit

/-- Slice value v, at the head of a row of its own, or nil: its elements, of one cell each, of type e, are xs. -/
def Row (e : TypeId) (w : World) (v : Value) (xs : List Value) : Prop := w.ownsRow 0 e 1 v xs.length xs

section
variable {e : TypeId} {w w' : World} {v : Value} {xs : List Value}
theorem Row.nil (e : TypeId) (w : World) : Row e w (.slice none 0 0) [] := World.ownsRow_nil w 0 _ 1
theorem Row.lt (h : Row e w v xs) {k : Nat} (hk : v.ownBlock = some k) : k < w.heap.size := (World.ownsRow.lt h k hk).2
theorem Row.turn {S : Nat → Prop} (h : Row e w v xs) (ht : Turn S w w') (hn : ∀ k, v.ownBlock = some k → ¬ S k) : Row e w' v xs := by
  refine ⟨h.1, ?_⟩
  rcases h.2 with h0 | ⟨g, cap, cur, rfl, hb, hg, rest⟩
  · exact .inl h0
  · exact .inr ⟨g, cap, cur, rfl, hb, (ht.block g (Array.getElem?_eq_some_iff.1 hg).1 (hn g rfl)).trans hg, rest⟩
theorem Row.later (h : Row e w v xs) (ht : Turn (fun _ => False) w w') : Row e w' v xs := h.turn ht (fun _ _ f => f)
theorem Row.grown {row : Option Nat} (h : Row e w v xs) (hg : w.grownBy w' row) (hn : v.ownBlock = none ∨ v.ownBlock ≠ row) : Row e w' v xs := World.ownsRow.kept h hg hn
theorem Row.form (h : Row e w v xs) : (v = .slice none 0 0 ∧ xs = []) ∨ ∃ g cap cur, v = .slice (some ⟨g, 0, none⟩) xs.length cap ∧ Box w g e cur ∧ xs.length ≤ cap ∧ cap ≤ maxLen ∧ cur.size = cap ∧ cur.toList.take xs.length = xs := by
  rcases h.2 with ⟨h0, h1⟩ | ⟨g, cap, cur, hv, _, hg, hn, hm, hs, ht⟩
  · exact .inl ⟨h0, List.eq_nil_of_length_eq_zero h1⟩
  · exact .inr ⟨g, cap, cur, hv, hg, hn, hm, by simpa using hs, by simpa using ht⟩
theorem Row.shape (h : Row e w v xs) : ∃ A c, v = .slice A xs.length c := by
  rcases h.form with ⟨rfl, rfl⟩ | ⟨g, cap, cur, rfl, _⟩
  · exact ⟨_, _, rfl⟩
  · exact ⟨_, _, rfl⟩
theorem Row.bounds {A : Option Addr} {n c : Nat} (h : Row e w (.slice A n c) xs) : n = xs.length ∧ xs.length ≤ c ∧ c ≤ maxLen := by
  rcases h.form with ⟨h1, rfl⟩ | ⟨g, cap, cur, h1, _, h2, h3, _⟩
  · injection h1 with h4 h5 h6
    subst h4 h5 h6
    exact ⟨rfl, by simp, by simp⟩
  · injection h1 with h4 h5 h6
    subst h4 h5 h6
    exact ⟨rfl, h2, h3⟩
/-- Rows of elements of two types are two rows. -/
theorem Row.apart {e' : TypeId} {v' : Value} {xs' : List Value} (h : Row e w v xs) (h' : Row e' w v' xs') (hne : e ≠ e') : v.ownBlock = none ∨ v.ownBlock ≠ v'.ownBlock := by
  rcases h.form with ⟨rfl, _⟩ | ⟨g, cap, cur, rfl, hb, _⟩
  · exact .inl rfl
  · rcases h'.form with ⟨rfl, _⟩ | ⟨g', cap', cur', rfl, hb', _⟩
    · exact .inr (by simp [Value.ownBlock])
    · refine .inr fun e1 => ?_
      obtain rfl : g = g' := by simpa [Value.ownBlock] using e1
      have e2 := hb.symm.trans hb'
      injection e2 with e2
      injection e2 with _ e3
      exact hne e3
theorem Row.not_box {g : Nat} {t : TypeId} {cs : Array Value} (h : Row e w v xs) (hb : Box w g t cs) (hne : e ≠ t) : v.ownBlock ≠ some g := by
  rcases h.form with ⟨rfl, _⟩ | ⟨g', cap, cur, rfl, hb', _⟩
  · simp [Value.ownBlock]
  · intro e1
    obtain rfl : g' = g := by simpa [Value.ownBlock] using e1
    have e2 := hb'.symm.trans hb
    injection e2 with e2
    injection e2 with _ e3
    exact hne e3
theorem Row.at {A : Option Addr} {n c : Nat} (h : Row e w (.slice A n c) xs) {j : Nat} {x : Value} (hj : xs[j]? = some x) : ∃ ad, A = some ad ∧ w.cell? (ad.add j) = some x := by
  rcases h.form with ⟨_, rfl⟩ | ⟨g, cap, cur, h1, hb, _⟩
  · cases hj
  · injection h1 with h4 h5 h6
    subst h4
    have := World.ownsRow.cells h (g := g) rfl j x (by simpa using hj)
    exact ⟨_, rfl, this⟩
end

/-- A row that a call has made since w. -/
def MadeRow (e : TypeId) (w w' : World) (v : Value) (xs : List Value) : Prop := Row e w' v xs ∧ ∀ k, v.ownBlock = some k → w.heap.size ≤ k

/-- append of one element onto a row of one's own, or nil. -/
theorem wpList_push {w : World} {ops : Array Oper} {rest : List Oper} {o : Oper} {a : Act} {Q : Exit → Act → World → Prop} (hgd : o.guard = none) (s x : Operand) (t e : TypeId) {b : Nat}
    (ht : Try.prog.underlying t = some (.slice e)) {z : Value} (hz : (Try.prog.info? e).map (fun i => (i.zero, i.size, i.bytes)) = some (some z, 1, b)) (hzs : z.cells.size = 1) (hb : b ≤ 1000)
    (ho : o.op = .call { callee := .builtin .append, args := #[s, x], argTypes := #[t, t] }) (v : Value) (xs : List Value) (hs : a.eval s = v) (hown : Row e w v xs)
    (g : Nat) (y : Value) (hx : a.eval x = .slice (some ⟨g, 0, none⟩) 1 1) (hy : w.cell? ⟨g, 0, none⟩ = some y) (hy1 : y.oneCell' = true) (hl : xs.length ≤ 1000000000)
    (h : ∀ A n c w', Row e w' (.slice A n c) (xs ++ [y]) → w.grownBy w' v.ownBlock → ((Value.slice A n c).ownBlock = v.ownBlock ∨ (Value.slice A n c).ownBlock = some w.heap.size) → wpList Try.prog ops Q rest (a.put o.dst (.slice A n c)) w') :
    wpList Try.prog ops Q (o :: rest) a w := by
  refine wpList_plain hgd fun K hK => ?_
  obtain ⟨i, hi, hz0, h1, h2⟩ := info_parts hz
  have hsrc : Src Try.prog i.size t (.slice (some ⟨g, 0, none⟩) 1 1) 1 [y] w := by
    rw [h1]
    refine Src.ofSlice (P := Try.prog) w (size := 1) ht ⟨g, 0, none⟩ 1 1 [y] rfl ?_ ?_
    · intro j u hj
      cases j with
      | zero =>
        obtain rfl : y = u := by simpa using hj
        simpa [Addr.add] using hy
      | succ j => simp at hj
    · intro u hu
      obtain rfl : u = y := by simpa using hu
      exact hy1
  unfold Row at hown
  rw [← h1] at hown
  obtain ⟨A, n, c, w', hr, g1, g2, g3⟩ := run_app (P := Try.prog) w t t o.type e i z ht hi hz0 (by rw [h1]; exact hzs) v xs.length xs hown _ 1 [y] hsrc
    (by simp only [maxLen]; omega) (by rw [h2]; have : (xs.length + 1) * b ≤ 1000000001 * 1000 := Nat.mul_le_mul (by omega) hb; omega)
  unfold Oper.wp execOp
  simp only [ho, resolve, invoke, builtin, Sem.run_bind, Sem.run_pure, Result.andThen_ok, List.map_toArray, List.map_cons, List.map_nil, hs, hx, hr]
  refine hK _ _ (h A n c w' ?_ g2 g3)
  unfold Row
  rw [List.length_append, ← h1]
  exact g1

theorem int_info : (Try.prog.info? 3).map (fun i => (i.zero, i.size, i.bytes)) = some (some (.int .i64 0), 1, 8) := by kernel_rfl
/-- A slice value that reads as the numbers L. -/
def Nums (w : World) (v : Value) (L : List Nat) : Prop :=
  ∃ A c, v = .slice A L.length c ∧ ∀ (j n : Nat), L[j]? = some n → ∃ ad, A = some ad ∧ w.cell? (ad.add j) = some (.int .i64 (n : Int))
def nv (n : Nat) : Value := .int .i64 (n : Int)
theorem Row.nums {w : World} {v : Value} {L : List Nat} (h : Row 3 w v (L.map nv)) : Nums w v L := by
  obtain ⟨A, c, rfl⟩ := h.shape
  refine ⟨A, c, by rw [List.length_map], fun j n hj => ?_⟩
  exact h.at (x := nv n) (by rw [List.getElem?_map, hj]; rfl)
theorem Nums.at {w : World} {A : Option Addr} {n c : Nat} {L : List Nat} (h : Nums w (.slice A n c) L) {k x : Nat} (hk : L[k]? = some x) : ∃ ad, A = some ad ∧ w.cell? (ad.add k) = some (.int .i64 (x : Int)) := by
  obtain ⟨A', c', hv, hx⟩ := h
  injection hv with h1 h2 h3
  subst h1
  exact hx k x hk
theorem Nums.shape {w : World} {v : Value} {L : List Nat} (h : Nums w v L) : ∃ A c, v = .slice A L.length c := by
  obtain ⟨A, c, e, _⟩ := h
  exact ⟨A, c, e⟩
theorem cell_odd {w w' : World} {D : Nat} {a : Addr} {x : Value} (hc : w.cell? a = some x) (ht : Turn (odd D w) w w') : w'.cell? a = some x := by
  rw [ht.cell (World.block_lt_of_cell? w _ hc) ?_]
  · exact hc
  · rintro ⟨_, o, ho, hf⟩
    obtain ⟨o', ho', hf'⟩ := cells_of_cell hc
    rw [ho] at ho'
    cases ho'
    rw [hf] at hf'
    cases hf'
theorem Nums.odd {w w' : World} {D : Nat} {v : Value} {L : List Nat} (h : Nums w v L) (ht : Turn (odd D w) w w') : Nums w' v L := by
  obtain ⟨A, c, e, hx⟩ := h
  refine ⟨A, c, e, fun j n hj => ?_⟩
  obtain ⟨ad, e1, hc⟩ := hx j n hj
  exact ⟨ad, e1, cell_odd hc ht⟩
theorem Nums.later {w w' : World} {v : Value} {L : List Nat} (h : Nums w v L) (ht : Turn (fun _ => False) w w') : Nums w' v L := h.odd (D := 0) ht.none

/-- What lies below what may turn. -/
theorem Nums.below {w w' : World} {D : Nat} {v : Value} {L : List Nat} (h : Nums w v L) (ht : Turn (fun k => D ≤ k) w w') (hD : w.heap.size ≤ D) : Nums w' v L := by
  obtain ⟨A, c, e, hx⟩ := h
  refine ⟨A, c, e, fun j n hj => ?_⟩
  obtain ⟨ad, e1, hc⟩ := hx j n hj
  have hlt := World.block_lt_of_cell? w _ hc
  exact ⟨ad, e1, by rw [ht.cell hlt (by omega)]; exact hc⟩
theorem Rd.below {w w' : World} {D : Nat} {v : Value} {l : List UInt8} (h : Rd w v l) (ht : Turn (fun k => D ≤ k) w w') (hD : w.heap.size ≤ D) : Rd w' v l := by
  obtain ⟨A, c, rfl, hk, hn, hc⟩ := h
  refine ⟨A, c, rfl, hk, hn, fun ad e j b hj => ?_⟩
  have h1 := hc ad e j b hj
  have hlt := World.block_lt_of_cell? w _ h1
  rw [ht.cell hlt (by omega)]
  exact h1

end Go.Proofs.Ytklpmajaihmmfaa

/-
  A region that draws its order and only reads, in a round of a range over a function: one walk of the text's order serves every order.
-/
namespace Go.Proofs.Ytklpmajaihmmfaa
open Go.RowKit

def noDefer : Op → Bool
  | .defer _ => false
  | _ => true
theorem noDefer_ne {o : Op} (h : noDefer o = true) : ∀ c, o ≠ .defer c := by
  rintro c rfl
  cases h

section
variable {F : Fence} {n : Nat} {P : Program} {C : World → Prop} {ops : Array Oper} {md : Region.Mode}

theorem quiet_op {o : Oper} {a : Act} {K : Act → Prop} {K' : Act → World → Prop} {Q' : Exit → Act → World → Prop} {w : World} (hd : noDefer o.op = true) (hw : C w) (h : ∀ a w', C w' → K a → K' a w')
    (ha : o.askedIn F P a C) (hh : o.quietIn F n P a C K) : o.wpIn F n P a w K' Q' := by
  obtain ⟨v, h1, h2⟩ := hh
  have h3 := h1 w hw
  unfold Oper.quietAtIn at h3
  unfold Oper.wpIn
  rw [Oper.semAt_eq _ _ _ (noDefer_ne hd)]
  refine ⟨ha w hw, ?_⟩
  generalize (execOp a.eval o).run P w = r at *
  rcases r with ⟨x, w'⟩ | ⟨x, w'⟩
  · cases x <;> simp only [Oper.quietUponIn] at h3 <;> simp only [Oper.uponIn]
    case value u =>
      rw [h3.1, h3.2]
      exact h _ _ hw h2
    case skip =>
      rw [h3.1, ← h3.2]
      exact h _ _ hw h2
    case enter f args =>
      rw [h3.1]
      exact ⟨h3.2.1, h3.2.2.mono fun e w'' ⟨he, hw''⟩ => by subst he; exact h _ _ hw'' h2⟩
  · simp only [Oper.quietUponIn] at h3

theorem quiet_at (hnd : ∀ o ∈ ops.toList, noDefer o.op = true) {i : Nat} {a : Act} {K : Act → Prop} {K' : Act → World → Prop} {Q' : Exit → Act → World → Prop} {w : World} (hC : C w) (h : ∀ a w', C w' → K a → K' a w')
    (hh : qOpIn F n P ops C i K a) : wpOpIn F n P ops Q' i K' a w := by
  unfold qOpIn at hh
  unfold wpOpIn
  cases ho : ops[i]? with
  | none =>
    simp only [ho] at hh
    exact h _ _ hC hh
  | some o =>
    simp only [ho] at hh
    have hm : noDefer o.op = true := hnd o (Array.mem_toList_iff.2 (Array.mem_of_getElem? ho))
    by_cases hw : Region.wanted o (yielded ops a.tmps)
    · simp only [hw, if_true] at hh ⊢
      exact quiet_op hm hC h hh.1 hh.2
    · simp only [hw] at hh ⊢
      exact ⟨hh.1 w hC, h _ _ hC hh.2⟩

theorem quiet_any (hnd : ∀ o ∈ ops.toList, noDefer o.op = true) {Q : Act → Prop} {Q' : Exit → Act → World → Prop} (hQ : ∀ a w, C w → Q a → Q' .normal a w) : ∀ (fuel : Nat) (listed : Array Bool) (a : Act) (w : World), C w →
    wpAnyQIn F n P md ops C Q fuel listed a → wpAnyIn F n P md ops Q' fuel listed a w
  | 0, _, _, _, hw, h => ⟨h.1, hQ _ _ hw h.2⟩
  | fuel + 1, _, _, _, hw, h => ⟨fun h0 => hQ _ _ hw (h.1 h0), fun i hi => quiet_at hnd hw (fun a' w' hw' => quiet_any hnd hQ fuel _ a' w' hw') (h.2 i hi)⟩

theorem quiet_region {id : Nat} {Q : Exit → Act → World → Prop} {a : Act} {w : World} {l : List Oper} (hnd : (l.all fun o => noDefer o.op) = true) (hm : P.follows .mixedOrders = true) (hB : Region.lexB .any l.toArray = true)
    (h : wpQuietIn F n P l.toArray (fun w' => ∃ n, w' = w.drewN n) (fun a' => ∀ w', (∃ n, w' = w.drewN n) → Q .normal a' w') l a) : (Code.region id l.toArray true).wpIn F n P Q a w := by
  simp only [Region.lexB, Bool.and_eq_true] at hB
  have hnd' : ∀ o ∈ l.toArray.toList, noDefer o.op = true := fun o ho => by
    rw [List.all_eq_true] at hnd
    exact hnd o (by simpa using ho)
  refine wpIn_region_any hm (quiet_any hnd' (C := fun w' => ∃ n, w' = w.drewN n) (Q := fun a' => ∀ w', (∃ n, w' = w.drewN n) → Q .normal a' w') (fun _ w' hw' h => h w' hw') _ _ _ _ ⟨1, rfl⟩ ?_)
  have := wpAnyQIn_lex (F := F) (n := n) (P := P) (ops := l.toArray) (C := fun w' => ∃ n, w' = w.drewN n) (md := .any) hB.1 l 0 (Array.replicate l.toArray.size false) a (by simp) (by simpa using hB.2) h
  simpa using this
end

theorem wide_fn (f : FuncId) : Fence.wide.fn f = True := rfl

theorem quiet_same {P : Program} {l0 : Nat} {n : Nat} {f : FuncId} {args : Array Value} {w : World} {k : Nat} {v : Value}
    (h : Calls P f args (w.drewN k) fun e w' => e = .returned v ∧ w.drewN k = w') : CallsIn (Fence.wide.inRound l0) n P f args (w.drewN k) fun e w'' => e = .returned v ∧ ∃ m, w'' = w.drewN m :=
  CallsIn.inRound l0 (callsIn_wide.2 (h.mono fun _ _ ⟨he, hm⟩ => ⟨he, k, hm.symm⟩))

end Go.Proofs.Ytklpmajaihmmfaa
