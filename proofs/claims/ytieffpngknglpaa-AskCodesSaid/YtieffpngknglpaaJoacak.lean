/-
  Texts laid one behind the other: Oe Zj.
-/
import Derived.Test.YtieffpngknglpaaJoacaj
import Derived.Test.YtieffpngknglpaaJoacah

/-
  A text put; and the document's own bytes.
-/
namespace Go.Proofs.Ytieffpngknglpaa
open Go.RowKit

theorem hid_small (n : Nat) (h : n ≤ 1000000) : Hid (n < 18446744073709551616) := by
  show n < 18446744073709551616
  omega

theorem enc_len (n : Nat) : (enc n).length ≤ 10 := by
  have h : ∀ k n, (encF k n).length ≤ k + 1 := by
    intro k
    induction k with
    | zero => intro n; simp [encF]
    | succ k ih =>
      intro n
      unfold encF
      split
      · simp
      · have := ih (n / 128)
        simp only [List.length_cons]
        omega
  exact h 9 n

set_option maxRecDepth 100000 in
set_option maxHeartbeats 400000 in
theorem text_put (p : Nat) (v : Value) (l : List UInt8) (s : ByteArray) (w : World) (hw : Wr w p v l) (hs : s.size ≤ 900000) (hl : l.length ≤ 900000) :
    Calls Try.prog 23 #[.pointer (some ⟨p, 0, none⟩), .string s] w fun e w' => e = .returned (.pointer (some ⟨p, 0, none⟩)) ∧
      ∃ v', Put w p v w' v' (l ++ (enc s.size ++ s.data.toList)) := by
  have HW := Lib.hid hw; clear hw
  have hx := enc_len s.size
  go_enter Try.func23, Try.ntmps23
  go_wp2_with (first
    | (go_at_call 21; refine (num_put p v l s.size w HW.out (hid_small _ (by omega)) (by omega)).mono ?_; rintro e w1 ⟨rfl, u, hp⟩; have hc : w1.cell? ⟨p, 0, none⟩ = some u := hp.1.1.cell 0; have HP := Lib.hid hp; clear hp)
    | (at_builtin; go_must (refine wpList_app _ rfl _ _ _ rfl u (l ++ enc s.size) rfl HP.out.1.2 _ rfl s.data.toList (yields_string w1 s) (by simp; omega) ?_)))
  intro A n c w2 hby hg hat
  have hc2 : w2.cell? ⟨p, 0, none⟩ = some u := (writer_far0 HP.out.1 w2 hg).1
  have hf2 : w2.frozen? ⟨p, 0, none⟩ = false := (writer_far0 HP.out.1 w2 hg).2
  have hby2 : By w2 (.slice A n c) (l ++ enc s.size ++ s.data.toList) := by rw [List.append_assoc]; exact hby
  have HB := Lib.hid (put_step0 HP.out.1 hby2 hg hat); clear hby hby2 hg hat
  go_wp2
  go_ret
  exact ⟨rfl, _, by rw [← List.append_assoc]; exact HP.out.trans HB.out⟩

/-- The document's bytes of a number, so far. -/
def RefRel (n : Nat) (w : World) (x out : Value) (wr : World) (k r : Nat) (acc : List UInt8) : Prop :=
  x = .int .u64 r ∧ r < 128 ^ (k + 1) ∧ k ≤ 9 ∧ acc.length + k ≤ 9 ∧ acc ++ encF k r = enc n ∧ r ≤ n ∧ Made w wr out acc

theorem ref_start (n : Nat) (w : World) (hn : Hid (n < 18446744073709551616)) : RefRel n w (.int .u64 n) (.slice none 0 0) w 9 n [] := by
  unfold RefRel enc
  exact ⟨rfl, num_bound n hn, Nat.le_refl _, Nat.le_refl _, rfl, Nat.le_refl _, By.nil _, Turn.refl _ _, fun _ h => by cases h⟩

theorem made_step {w wr w1 : World} {v : Value} {acc news : List UInt8} {A : Option Addr} {n c : Nat} {o : Obj} (h : Made w wr v acc) (hby : By w1 (.slice A n c) (acc ++ news))
    (hg : (wr.alloc o).grownBy w1 v.ownBlock) (hat : (Value.slice A n c).ownBlock = v.ownBlock ∨ (Value.slice A n c).ownBlock = some (wr.heap.size + 1)) :
    Made w w1 (.slice A n c) (acc ++ news) := by
  obtain ⟨_, ht, hk⟩ := h
  refine ⟨hby, (ht.alloc o).grown hg (fun k hlt e => by have := hk k e; omega), fun k e => ?_⟩
  rcases hat with e1 | e1
  · exact hk k (e1 ▸ e)
  · rw [e1] at e
    have := ht.size
    simp at e
    omega

theorem made_step0 {w wr w1 : World} {v : Value} {acc news : List UInt8} {A : Option Addr} {n c : Nat} (h : Made w wr v acc) (hby : By w1 (.slice A n c) (acc ++ news))
    (hg : wr.grownBy w1 v.ownBlock) (hat : (Value.slice A n c).ownBlock = v.ownBlock ∨ (Value.slice A n c).ownBlock = some wr.heap.size) :
    Made w w1 (.slice A n c) (acc ++ news) := by
  obtain ⟨_, ht, hk⟩ := h
  refine ⟨hby, ht.grown hg (fun k hlt e => by have := hk k e; omega), fun k e => ?_⟩
  rcases hat with e1 | e1
  · exact hk k (e1 ▸ e)
  · rw [e1] at e
    have := ht.size
    simp at e
    omega

theorem ref_last {n : Nat} {w wr w1 : World} {k r : Nat} {acc : List UInt8} {v : Value} {A : Option Addr} {m c : Nat} {o : Obj} (h : r < 128) (henc : acc ++ encF k r = enc n) (hm : Made w wr v acc)
    (hby : By w1 (.slice A m c) (acc ++ [low r])) (hg : (wr.alloc o).grownBy w1 v.ownBlock) (hat : (Value.slice A m c).ownBlock = v.ownBlock ∨ (Value.slice A m c).ownBlock = some (wr.heap.size + 1)) :
    Made w w1 (.slice A m c) (enc n) := by
  have h2 := made_step hm hby hg hat
  have e : encF k r = [low r] := by
    cases k with
    | zero => rfl
    | succ k => simp [encF, h]
  rw [e] at henc
  rw [← henc]
  exact h2

theorem ref_round {n : Nat} {w wr w1 : World} {k r : Nat} {acc : List UInt8} {v : Value} {A : Option Addr} {m c : Nat} {o : Obj} (h : ¬ r < 128) (hr : r < 128 ^ (k + 1)) (hk : k ≤ 9) (hlen : acc.length + k ≤ 9)
    (henc : acc ++ encF k r = enc n) (hrn : r ≤ n) (hm : Made w wr v acc)
    (hby : By w1 (.slice A m c) (acc ++ [mid r])) (hg : (wr.alloc o).grownBy w1 v.ownBlock) (hat : (Value.slice A m c).ownBlock = v.ownBlock ∨ (Value.slice A m c).ownBlock = some (wr.heap.size + 1)) :
    ∃ k' r' acc', RefRel n w (.int .u64 ((r : Int) / 128)) (.slice A m c) w1 k' r' acc' := by
  cases k with
  | zero => exact absurd hr (by simp; omega)
  | succ k =>
    refine ⟨k, r / 128, _, ?_, ?_, by omega, ?_, ?_, by omega, made_step hm hby hg hat⟩
    · congr 1
    · rw [Nat.div_lt_iff_lt_mul (by omega)]
      rw [Nat.pow_succ] at hr
      exact hr
    · simp only [List.length_append, List.length_cons, List.length_nil]; omega
    · rw [← henc]
      simp [encF, h]

theorem ref_wrap (r n : Nat) (h : r ≤ n) (hn : Hid (n < 18446744073709551616)) : IntKind.u64.wrap ((r : Int) / 128) = (r : Int) / 128 := by
  have a : n < 18446744073709551616 := hn
  rw [IntKind.wrap_u64]
  omega

set_option maxRecDepth 100000 in
set_option maxHeartbeats 400000 in
theorem ref_num (n : Nat) (w : World) (hn : Hid (n < 18446744073709551616)) :
    Calls Try.prog 25 #[.int .u64 n] w fun e w' => ∃ v, e = .returned v ∧ Made w w' v (enc n) := by
  go_enter Try.func25, Try.ntmps25
  go_wp2
  go_loopw [0, 3] (fun x out wr => ∃ (k r : Nat) (acc : List UInt8), RefRel n w x out wr k r acc) (fun x _ _ => (intOf x).toNat)
  case atStart => exact ⟨_, _, _, ref_start n w hn⟩
  case round =>
    obtain ⟨k, r, acc, rfl, hr, hk, hlen, henc, hrn, hm⟩ := hrel
    have hwrap := ref_wrap r n hrn hn
    have HN := Lib.hid hrn; clear hrn
    have HR := Lib.hid hr; clear hr
    have HE := Lib.hid henc; clear henc
    have HM := Lib.hid hm; clear hm
    have HL := Lib.hid hlen; clear hlen
    by_cases h128 : r < 128
    · go_wp2_with (at_builtin; go_must (refine wpList_app _ rfl _ _ _ rfl _ acc rfl (HM.out.1.alloc _) _ rfl [low r] (yields_one wr _ _ (by rw [low_toNat r (by omega)])) (by have := HL.out; simp; omega) ?_))
      intro A m c w1 hby hg hat
      have HB := Lib.hid (ref_last h128 HE.out HM.out hby hg hat); clear hby hg hat
      go_wp2
      go_ret
      exact ⟨_, rfl, HB.out⟩
    · go_wp2_with (at_builtin; go_must (refine wpList_app _ rfl _ _ _ rfl _ acc rfl (HM.out.1.alloc _) _ rfl [mid r] (yields_one wr _ _ (by rw [mid_toNat]; omega)) (by have := HL.out; simp; omega) ?_))
      intro A m c w1 hby hg hat
      have HB := Lib.hid (ref_round h128 HR.out hk HL.out HE.out HN.out HM.out hby hg hat); clear hby hg hat
      go_wp2
      go_roundw
      case rel => exact HB.out
      case measure => simp [intOf]; omega

theorem ref_int1 (n : Int) (h : 0 ≤ n) (h2 : Hid (n ≤ 9223372036854775807)) : IntKind.u64.wrap (2 * IntKind.u64.wrap n) = (zig n : Int) := by
  have b : n ≤ 9223372036854775807 := h2
  unfold zig
  rw [if_pos h, IntKind.wrap_u64, IntKind.wrap_u64]
  omega

theorem ref_int2 (n : Int) (h : ¬ 0 ≤ n) (h1 : Hid (-9223372036854775808 ≤ n)) :
    IntKind.u64.wrap (IntKind.u64.wrap (2 * IntKind.u64.wrap (wrap64 (-wrap64 (n + 1)))) + 1) = (zig n : Int) := by
  have a : -9223372036854775808 ≤ n := h1
  have e : wrap64 (-wrap64 (n + 1)) = -(n + 1) := by unfold wrap64; omega
  unfold zig
  rw [if_neg h, e, IntKind.wrap_u64, IntKind.wrap_u64, IntKind.wrap_u64]
  omega

theorem By.one (w : World) (b : UInt8) (c : Int) (hc : c = (b.toNat : Int)) : By (w.alloc (.cells #[.int .u8 c] 5)) (.slice (some ⟨w.heap.size, 0, none⟩) 1 1) [b] := by
  subst hc
  exact World.ownsRow_lit (base := 0) w #[bv b] 1 (Nat.zero_le _) (by simp [maxLen]) rfl

theorem enc_small (n : Nat) (h : n < 128) : enc n = [low n] := by
  unfold enc encF
  rw [if_pos h]

set_option maxRecDepth 100000 in
set_option maxHeartbeats 400000 in
theorem ref_bool (b : Bool) (w : World) :
    Calls Try.prog 26 #[.bool b] w fun e w' => ∃ v, e = .returned v ∧ Made w w' v (enc b.toNat) := by
  cases b
  · go_enter Try.func26, Try.ntmps26
    go_wp2
    go_ret
    exact ⟨_, rfl, by rw [show enc false.toNat = [low 0] from enc_small 0 (by omega)]; exact By.one w (low 0) 0 (by rw [low_toNat 0 (by omega)]; rfl), (Turn.refl _ w).alloc _, fun k hk => by simp [Value.ownBlock] at hk; omega⟩
  · go_enter Try.func26, Try.ntmps26
    go_wp2
    go_ret
    exact ⟨_, rfl, by rw [show enc true.toNat = [low 1] from enc_small 1 (by omega)]; exact By.one w (low 1) 1 (by rw [low_toNat 1 (by omega)]; rfl), (Turn.refl _ w).alloc _, fun k hk => by simp [Value.ownBlock] at hk; omega⟩

set_option maxRecDepth 100000 in
set_option maxHeartbeats 400000 in
theorem ref_text (s : ByteArray) (w : World) (hs : s.size ≤ 900000) :
    Calls Try.prog 27 #[.string s] w fun e w' => ∃ v, e = .returned v ∧ Made w w' v (enc s.size ++ s.data.toList) := by
  have hx := enc_len s.size
  go_enter Try.func27, Try.ntmps27
  go_wp2_with (first
    | (go_at_call 25; refine (ref_num s.size w (hid_small _ (by omega))).mono ?_; rintro e w1 ⟨v, rfl, hm⟩; have HM := Lib.hid hm; clear hm)
    | (at_builtin; go_must (refine wpList_app _ rfl _ _ _ rfl _ (enc s.size) rfl HM.out.1 _ rfl s.data.toList (yields_string w1 s) (by simp; omega) ?_)))
  intro A n c w2 hby hg hat
  have HB := Lib.hid (made_step0 HM.out hby hg hat); clear hby hg hat
  go_wp2
  go_ret
  exact ⟨_, rfl, HB.out⟩

end Go.Proofs.Ytieffpngknglpaa

/-
  Stage 9: the document's Encode.
-/
namespace Go.Proofs.Ytieffpngknglpaa
open Go.RowKit

set_option maxRecDepth 100000

theorem made_behind9 {a b c : World} {v : Value} {l : List UInt8} (h : Turn (fun _ => False) a b) (g : Made b c v l) : Made a c v l :=
  ⟨g.1, h.trans g.2.1 (fun _ _ f => f), fun k hk => Nat.le_trans h.size (g.2.2 k hk)⟩
/-- Bytes put behind bytes of one's own. -/
theorem made_more9 {w wr w2 w3 : World} {A A3 : Option Addr} {n c n3 c3 : Nat} {acc m : List UInt8} (h : Made w wr (.slice A n c) acc) (ht : Turn (fun _ => False) wr w2) (hb : By w3 (.slice A3 n3 c3) (acc ++ m))
    (hg : w2.grownBy w3 (Value.slice A n c).ownBlock) (ha : (Value.slice A3 n3 c3).ownBlock = (Value.slice A n c).ownBlock ∨ (Value.slice A3 n3 c3).ownBlock = some w2.heap.size) : Made w w3 (.slice A3 n3 c3) (acc ++ m) := made_app h ht hb hg ha rfl
/-- A fact's bytes; a batch's. -/
def textB (t : List UInt8) : List UInt8 := enc t.length ++ t
def textsB (k : K9) : Nat → List UInt8
  | 0 => []
  | i + 1 => textsB k i ++ textB (k.dim i)
def factB (n : Nat) (f : F9) : List UInt8 := enc f.k.h.toNat ++ textsB f.k n ++ enc (zig f.v)
def batchB (l : List F9) (n : Nat) : List UInt8 := enc l.length ++ l.flatMap (factB n)
/-- A fact that is right. -/
structure Good9 (f : F9) : Prop where
  h0 : 0 ≤ f.k.h
  h1 : f.k.h ≤ 16777216
  v0 : -1152921504606846976 ≤ f.v
  v1 : f.v ≤ 1152921504606846976
  t : ∀ i, i < 4 → (f.k.dim i).length ≤ 16
theorem good_chk {f : F9} {n : Int} (h : chkF f n = 0) : Good9 f := by
  unfold chkF at h
  split at h
  · split at h
    · rename_i hr
      split at h
      · rename_i ht
        refine ⟨hr.1, hr.2.1, hr.2.2.2, hr.2.2.1, fun i hi => ?_⟩
        simp only [okTexts, okText, Bool.and_eq_true, decide_eq_true_iff] at ht
        match i, hi with
        | 0, _ => exact ht.1.1.1.1
        | 1, _ => exact ht.1.1.2.1
        | 2, _ => exact ht.1.2.1
        | 3, _ => exact ht.2.1
      · cases h
    · cases h
  · cases h
theorem bad_none {n : Int} : ∀ {l : List F9} {i : Nat}, (badAt n l i).1 = 0 → ∀ f ∈ l, chkF f n = 0
  | [], _, _, f, hf => by cases hf
  | g :: t, i, h, f, hf => by
    unfold badAt at h
    split at h
    · rename_i hg
      rcases List.mem_cons.1 hf with rfl | hf
      · exact hg
      · exact bad_none h f hf
    · rename_i hg
      exact absurd h hg
theorem bad_fst {n : Int} : ∀ {l : List F9} {i : Nat}, (badAt n l i).1 = 0 → badAt n l i = (0, 0)
  | [], _, _ => rfl
  | g :: t, i, h => by
    unfold badAt at h ⊢
    split
    · rename_i hg
      rw [if_pos hg] at h
      exact bad_fst h
    · rename_i hg
      rw [if_neg hg] at h
      exact absurd h hg
theorem all_good {l : List F9} {n : Int} (h : (allB l n).1 = 0) : (1 ≤ n ∧ n ≤ 4) ∧ (1 ≤ l.length ∧ l.length ≤ 50) ∧ (∀ f ∈ l, chkF f n = 0) ∧ allB l n = (0, 0) := by
  unfold allB at h ⊢
  split
  · rename_i hc
    rw [if_pos hc] at h
    obtain ⟨h1, h2, h3⟩ := hc
    unfold okDims at h1
    simp only [Bool.and_eq_true, decide_eq_true_iff] at h1
    exact ⟨h1, ⟨h2, h3⟩, bad_none h, bad_fst h⟩
  · rename_i hc
    rw [if_neg hc] at h
    cases h
theorem texts_len (f : F9) (hg : Good9 f) : ∀ k, k ≤ 4 → (textsB f.k k).length ≤ 26 * k
  | 0, _ => Nat.zero_le _
  | k + 1, hk => by
    have ih := texts_len f hg k (by omega)
    have h1 := hg.t k (by omega)
    have h2 := enc_len (f.k.dim k).length
    show (textsB f.k k ++ (enc (f.k.dim k).length ++ f.k.dim k)).length ≤ _
    rw [List.length_append, List.length_append]
    omega
theorem fact_len {f : F9} (hg : Good9 f) {n : Nat} (hn : n ≤ 4) : (factB n f).length ≤ 200 := by
  have h1 := texts_len f hg n hn
  have h2 := enc_len f.k.h.toNat
  have h3 := enc_len (zig f.v)
  unfold factB
  rw [List.length_append, List.length_append]
  omega
/-- What was laid of a batch. -/
def partB (l : List F9) (n i : Nat) : List UInt8 := enc l.length ++ (l.take i).flatMap (factB n)
theorem partB_step {l : List F9} {n i : Nat} {f : F9} (h : l[i]? = some f) : partB l n (i + 1) = partB l n i ++ factB n f := by
  obtain ⟨h0, e⟩ := List.getElem?_eq_some_iff.1 h
  unfold partB
  rw [List.take_succ_eq_append_getElem h0, e, List.flatMap_append, List.append_assoc]
  simp
theorem partB_len {l : List F9} {n : Nat} (hn : n ≤ 4) (hg : ∀ f ∈ l, Good9 f) : ∀ i, (partB l n i).length ≤ 10 + 200 * i
  | 0 => by
    unfold partB
    have := enc_len l.length
    simp
    omega
  | i + 1 => by
    have ih := partB_len hn hg i
    cases h : l[i]? with
    | none =>
      have e : partB l n (i + 1) = partB l n i := by
        unfold partB
        have := List.getElem?_eq_none_iff.1 h
        rw [List.take_of_length_le (by omega), List.take_of_length_le (by omega)]
      rw [e]
      omega
    | some f =>
      rw [partB_step h, List.length_append]
      have := fact_len (hg f (List.mem_of_getElem? h)) hn
      omega
theorem partB_all (l : List F9) (n : Nat) : partB l n l.length = batchB l n := by unfold partB batchB; rw [List.take_length]
/-- Behind Encode: the bytes, or none. -/
def Encd (w : World) (l : List F9) (n : Int) (e : Ending) (w' : World) : Prop :=
  ∃ v, e = .returned (.tuple #[v, .int .i64 (allB l n).1]) ∧ Made w w' v (if (allB l n).1 = 0 then batchB l n.toNat else [])

end Go.Proofs.Ytieffpngknglpaa
