/-
  What the law says that a thing puts, and the putting of it.
-/
import Derived.Test.YtjanmiafnldkgaaQa
import Derived.LaidEqlPtr
namespace Go.Proofs.Ytjanmiafnldkgaa
open Go.RowKit

def formL (x : PD) : List UInt8 :=
  if x.K = 1 ∨ x.K = 5 then enc x.N else if x.K = 2 then enc (zig x.S) else if x.K = 3 then enc x.T.size ++ x.T.data.toList else if x.K = 4 then enc x.B.toNat else []

theorem formL_num {x : PD} (h : x.K = 1 ∨ x.K = 5) : formL x = enc x.N := by unfold formL; rw [if_pos h]
theorem formL_int {x : PD} (h : x.K = 2) : formL x = enc (zig x.S) := by unfold formL; rw [if_neg (by omega), if_pos h]
theorem formL_text {x : PD} (h : x.K = 3) : formL x = enc x.T.size ++ x.T.data.toList := by unfold formL; rw [if_neg (by omega), if_neg (by omega), if_pos h]
theorem formL_bool {x : PD} (h : x.K = 4) : formL x = enc x.B.toNat := by unfold formL; rw [if_neg (by omega), if_neg (by omega), if_neg (by omega), if_pos h]
theorem formL_none {x : PD} (h : x.K < 1 ∨ 5 < x.K) : formL x = [] := by unfold formL; rw [if_neg (by omega), if_neg (by omega), if_neg (by omega), if_neg (by omega)]

theorem formL_len (x : PD) (h : x.T.size ≤ 60) : (formL x).length ≤ 70 := by
  unfold formL
  split
  · have := enc_len x.N; omega
  · split
    · have := enc_len (zig x.S); omega
    · split
      · have := enc_len x.T.size
        have e : x.T.data.toList.length = x.T.size := by rw [Array.length_toList]; rfl
        rw [List.length_append, e]
        omega
      · split
        · have := enc_len x.B.toNat; omega
        · simp

theorem Made.behind {a b c : World} {v : Value} {l : List UInt8} (h : Turn (fun _ => False) a b) (g : Made b c v l) : Made a c v l :=
  ⟨g.1, h.fresh g.2.1 (fun _ f => f.elim), fun k hk => Nat.le_trans h.size (g.2.2 k hk)⟩

theorem Made.shape {a b : World} {v : Value} {l : List UInt8} (h : Made a b v l) : ∃ A c, v = .slice A l.length c := h.1.shape

theorem writer_info : (Try.prog.info? 26).isSome = true := by kernel_rfl

/-- A pointer to a writer is itself. -/
theorem ptr_neq (a : Addr) (w : World) : (binOp .neq 23 (.pointer (some a)) (.pointer (some a))).run Try.prog w = .ok (.bool false) w := by
  obtain ⟨j, hj⟩ := Option.isSome_iff_exists.1 writer_info
  have h : ∀ d : Nat, (Op.equalIn (d + 1) 23 (.pointer (some a)) (.pointer (some a))).run Try.prog w = .ok true w := fun d => by
    simp [Op.equalIn, run_underlying Try.underlying23, sizeOf, typeInfo, hj, run_sameAddr_same]
  simp only [binOp]
  simp [Op.equal, Op.maxDepth, h 9999]

theorem Made.nil (w : World) : Made w w (.slice none 0 0) [] := ⟨By.nil _, Turn.refl _ _, fun k h => by cases h⟩

set_option maxRecDepth 100000 in
set_option maxHeartbeats 1000000 in
theorem form_any (x : PD) (w : World) (hf : PD.Fit x) (hT : x.T.size ≤ 60) :
    Calls Try.prog 16 #[x.val] w fun e w' => ∃ v, e = .returned v ∧ Made w w' v (formL x) := by
  obtain ⟨hN, hS1, hS2, _⟩ := hf
  obtain ⟨K, M, N, S, T, B⟩ := x
  unfold PD.val
  simp only at hN hS1 hS2 hT ⊢
  by_cases h1 : K = 1
  · subst h1
    go_enter Try.func16, Try.ntmps16
    go_wp2_with (go_at_call 11; refine (ref_num N _ hN).mono ?_; rintro e w1 ⟨v, rfl, hm⟩; have HM := Lib.hid hm; clear hm)
    go_ret
    exact ⟨_, rfl, by rw [formL_num (.inl rfl)]; exact HM.out.behind ((Turn.refl _ w).alloc _)⟩
  by_cases h5 : K = 5
  · subst h5
    go_enter Try.func16, Try.ntmps16
    go_wp2_with (go_at_call 11; refine (ref_num N _ hN).mono ?_; rintro e w1 ⟨v, rfl, hm⟩; have HM := Lib.hid hm; clear hm)
    go_ret
    exact ⟨_, rfl, by rw [formL_num (.inr rfl)]; exact HM.out.behind ((Turn.refl _ w).alloc _)⟩
  by_cases h2 : K = 2
  · subst h2
    go_enter Try.func16, Try.ntmps16
    go_wp2_with (go_at_call 14; refine (ref_int S _ hS1 hS2).mono ?_; rintro e w1 ⟨v, rfl, hm⟩; have HM := Lib.hid hm; clear hm)
    go_ret
    exact ⟨_, rfl, by rw [formL_int rfl]; exact HM.out.behind ((Turn.refl _ w).alloc _)⟩
  by_cases h3 : K = 3
  · subst h3
    go_enter Try.func16, Try.ntmps16
    go_wp2_with (go_at_call 31; refine (ref_text T _ (by omega)).mono ?_; rintro e w1 ⟨v, rfl, hm⟩; have HM := Lib.hid hm; clear hm)
    go_ret
    exact ⟨_, rfl, by rw [formL_text rfl]; exact HM.out.behind ((Turn.refl _ w).alloc _)⟩
  by_cases h4 : K = 4
  · subst h4
    go_enter Try.func16, Try.ntmps16
    go_wp2_with (go_at_call 32; refine (ref_bool B _).mono ?_; rintro e w1 ⟨v, rfl, hm⟩; have HM := Lib.hid hm; clear hm)
    go_ret
    exact ⟨_, rfl, by rw [formL_bool rfl]; exact HM.out.behind ((Turn.refl _ w).alloc _)⟩
  go_enter Try.func16, Try.ntmps16
  go_wp2
  go_ret
  exact ⟨_, rfl, by rw [formL_none (by simp only; omega)]; exact (Made.nil _).behind ((Turn.refl _ w).alloc _)⟩

theorem Put.behind {w c : World} {p : Nat} {v u : Value} {l m : List UInt8} {o : Obj} (_ : Wr w p v l) (g : Put (w.alloc o) p v c u m) : Put w p v c u m := by
  obtain ⟨g1, g2, g3⟩ := g
  refine ⟨g1, ((Turn.refl (fun k => k = p ∨ v.ownBlock = some k) w).alloc o).trans g2 (fun _ _ s => s), ?_⟩
  rcases g3 with e | e
  · exact .inl e
  · refine .inr fun k hk => ?_
    have := e k hk
    simp at this
    omega

theorem Wr.alloc {w : World} {p : Nat} {v : Value} {l : List UInt8} (h : Wr w p v l) (o : Obj) : Wr (w.alloc o) p v l := ⟨h.1.alloc o, h.2.alloc o⟩

set_option maxRecDepth 100000 in
set_option maxHeartbeats 1000000 in
theorem put_any (p : Nat) (v : Value) (l : List UInt8) (x : PD) (w : World) (hw : Wr w p v l) (hl : l.length ≤ 900000) (hf : PD.Fit x) (hT : x.T.size ≤ 60) :
    Calls Try.prog 17 #[.pointer (some ⟨p, 0, none⟩), x.val] w fun e w' => e = .returned (.pointer (some ⟨p, 0, none⟩)) ∧ ∃ u, Put w p v w' u (l ++ formL x) := by
  obtain ⟨hN, hS1, hS2, _⟩ := hf
  obtain ⟨K, M, N, S, T, B⟩ := x
  unfold PD.val
  simp only at hN hS1 hS2 hT ⊢
  have HW := Lib.hid hw; clear hw
  by_cases h1 : K = 1
  · subst h1
    go_enter Try.func17, Try.ntmps17
    go_wp2_with (go_at_call 9; refine (num_put p v l N _ (HW.out.alloc _) hN (by omega)).mono ?_; rintro e w1 ⟨rfl, u, hm⟩; have HM := Lib.hid hm; clear hm)
    go_ret
    exact ⟨rfl, u, by rw [formL_num (.inl rfl)]; exact Put.behind HW.out HM.out⟩
  by_cases h5 : K = 5
  · subst h5
    go_enter Try.func17, Try.ntmps17
    go_wp2_with (go_at_call 9; refine (num_put p v l N _ (HW.out.alloc _) hN (by omega)).mono ?_; rintro e w1 ⟨rfl, u, hm⟩; have HM := Lib.hid hm; clear hm)
    go_ret
    exact ⟨rfl, u, by rw [formL_num (.inr rfl)]; exact Put.behind HW.out HM.out⟩
  by_cases h2 : K = 2
  · subst h2
    go_enter Try.func17, Try.ntmps17
    go_wp2_with (go_at_call 13; refine (int_put p v l S _ (HW.out.alloc _) hS1 hS2 (by omega)).mono ?_; rintro e w1 ⟨rfl, u, hm⟩; have HM := Lib.hid hm; clear hm)
    go_ret
    exact ⟨rfl, u, by rw [formL_int rfl]; exact Put.behind HW.out HM.out⟩
  by_cases h3 : K = 3
  · subst h3
    go_enter Try.func17, Try.ntmps17
    go_wp2_with (go_at_call 29; refine (text_put p v l T _ (HW.out.alloc _) (by omega) (by omega)).mono ?_; rintro e w1 ⟨rfl, u, hm⟩; have HM := Lib.hid hm; clear hm)
    go_ret
    exact ⟨rfl, u, by rw [formL_text rfl]; exact Put.behind HW.out HM.out⟩
  by_cases h4 : K = 4
  · subst h4
    go_enter Try.func17, Try.ntmps17
    go_wp2_with (go_at_call 33; refine (bool_put p v l B _ (HW.out.alloc _) (by omega)).mono ?_; rintro e w1 ⟨rfl, u, hm⟩; have HM := Lib.hid hm; clear hm)
    go_ret
    exact ⟨rfl, u, by rw [formL_bool rfl]; exact Put.behind HW.out HM.out⟩
  go_enter Try.func17, Try.ntmps17
  go_wp2
  go_ret
  exact ⟨rfl, v, by rw [formL_none (by simp only; omega), List.append_nil]; exact Put.behind HW.out (Put.refl (HW.out.alloc _))⟩

set_option maxRecDepth 100000 in
set_option maxHeartbeats 1000000 in
theorem put_nil (x : PD) (w : World) : Calls Try.prog 17 #[.pointer none, x.val] w fun e w' => e = .returned (.pointer none) ∧ Turn (fun _ => False) w w' := by
  obtain ⟨K, M, N, S, T, B⟩ := x
  unfold PD.val
  simp only
  by_cases h1 : K = 1
  · subst h1
    go_enter Try.func17, Try.ntmps17
    go_wp2
    go_ret
    exact ⟨rfl, (Turn.refl _ w).alloc _⟩
  by_cases h5 : K = 5
  · subst h5
    go_enter Try.func17, Try.ntmps17
    go_wp2
    go_ret
    exact ⟨rfl, (Turn.refl _ w).alloc _⟩
  by_cases h2 : K = 2
  · subst h2
    go_enter Try.func17, Try.ntmps17
    go_wp2
    go_ret
    exact ⟨rfl, (Turn.refl _ w).alloc _⟩
  by_cases h3 : K = 3
  · subst h3
    go_enter Try.func17, Try.ntmps17
    go_wp2
    go_ret
    exact ⟨rfl, (Turn.refl _ w).alloc _⟩
  by_cases h4 : K = 4
  · subst h4
    cases B
    · go_enter Try.func17, Try.ntmps17
      go_wp2
      go_ret
      exact ⟨rfl, (Turn.refl _ w).alloc _⟩
    · go_enter Try.func17, Try.ntmps17
      go_wp2
      go_ret
      exact ⟨rfl, (Turn.refl _ w).alloc _⟩
  go_enter Try.func17, Try.ntmps17
  go_wp2
  go_ret
  exact ⟨rfl, (Turn.refl _ w).alloc _⟩

/-- The bytes of the first k things. -/
def all (l : List PD) (k : Nat) : List UInt8 := (l.take k).flatMap formL

theorem all_succ {l : List PD} {k : Nat} {x : PD} (h : l[k]? = some x) : all l (k + 1) = all l k ++ formL x := by
  unfold all
  have hk := (List.getElem?_eq_some_iff.1 h).1
  have hx : l[k] = x := (List.getElem?_eq_some_iff.1 h).2
  rw [List.take_succ_eq_append_getElem hk, List.flatMap_append, hx]
  simp

theorem all_len (l : List PD) (h : ∀ x ∈ l, x.T.size ≤ 60) : ∀ k, (all l k).length ≤ 70 * k := by
  intro k
  induction k with
  | zero => simp [all]
  | succ k ih =>
    by_cases hk : k < l.length
    · have hx : l[k]? = some l[k] := List.getElem?_eq_getElem hk
      rw [all_succ hx, List.length_append]
      have := formL_len l[k] (h _ (List.getElem_mem hk))
      omega
    · have e : all l (k + 1) = all l k := by
        unfold all
        rw [List.take_of_length_le (by omega), List.take_of_length_le (by omega)]
      rw [e]
      omega

theorem PSl.cells {w w' : World} {A : Option Addr} {c n : Nat} {l : List PD} (h : PSl w (.slice A n c) l) (ht : Turn (fun _ => False) w w') {b o : Nat} (hA : A = some ⟨b, o, none⟩) {i : Nat} {x : PD} (hi : l[i]? = some x) : PD.At w' b (o + i * 6) x := by
  subst hA
  obtain ⟨b', o', e, hat, _⟩ := (h.later ht).at hi
  injection e with e
  injection e with e1 e2
  subst e1 e2
  exact hat

end Go.Proofs.Ytjanmiafnldkgaa
