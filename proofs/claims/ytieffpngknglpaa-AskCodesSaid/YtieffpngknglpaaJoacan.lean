/-
  Texts laid one behind the other: Oj Ok.
-/
import Derived.Test.YtieffpngknglpaaJoacam

/-
  A reader's calls, whole.
-/
namespace Go.Proofs.Ytieffpngknglpaa
open Go.RowKit

/-- Behind a reader's call: behind a fault nothing is read. -/
def Got (p : Nat) (v : Value) (l : List UInt8) (k f : Nat) (w : World) (none x : Value) (k1 f1 : Nat) (e : Ending) (w' : World) : Prop :=
  (f = 0 → Tried p v l k w none x k1 f1 e w') ∧ (f ≠ 0 → e = .returned none ∧ Moved w p v l w' k f)

theorem Moved.behind {a b c : World} {p : Nat} {v : Value} {l : List UInt8} {k f : Nat} (h : Turn (fun g => g = p) a b) (g : Moved b p v l c k f) : Moved a p v l c k f :=
  ⟨g.1, h.trans g.2 (fun _ _ t => t)⟩

theorem Tried.behind {a b : World} {p : Nat} {v : Value} {l : List UInt8} {k : Nat} {none x : Value} {k1 f : Nat} {e : Ending} {w' : World} (h : Turn (fun g => g = p) a b) (g : Tried p v l k b none x k1 f e w') : Tried p v l k a none x k1 f e w' :=
  ⟨fun n => ⟨(g.1 n).1, (g.1 n).2.behind h⟩, fun n => ⟨(g.2 n).1, (g.2 n).2.behind h⟩⟩

theorem Rdr.alloc {w : World} {p : Nat} {v : Value} {l : List UInt8} {k f : Nat} (h : Rdr w p v l k f) (o : Obj) : Rdr (w.alloc o) p v l k f :=
  h.turn ((Turn.refl (fun _ => False) w).alloc o) (fun f => f) (fun _ _ f => f)

def TextPost (p : Nat) (v : Value) (l : List UInt8) (k : Nat) (w : World) (most : Nat) (e : Ending) (w' : World) : Prop :=
  e = .returned (.tuple #[.string ⟨(rdText most (l.drop k)).1.toArray⟩, .int .i64 (rdText most (l.drop k)).2.1]) ∧ Moved w p v l w' (k + (rdText most (l.drop k)).2.2) 0

theorem text_end {p : Nat} {v : Value} {l : List UInt8} {k : Nat} {w w' : World} {most : Nat} {s : ByteArray} {f m : Nat} {r : List UInt8 × Nat × Nat} (hr : r = rdText most (l.drop k)) (h1 : s = ⟨r.1.toArray⟩) (h2 : f = r.2.1) (h3 : m = k + r.2.2)
    (hm : Moved w p v l w' m 0) : TextPost p v l k w most (.returned (.tuple #[.string s, .int .i64 f])) w' := by
  subst h1 h2 h3 hr
  exact ⟨rfl, hm⟩

theorem count_le (most : Nat) (l : List UInt8) : (rdCount most l).1 ≤ most := by
  unfold rdCount
  split
  · exact Nat.zero_le _
  · split <;> simp_all <;> omega

set_option maxRecDepth 100000 in
set_option maxHeartbeats 400000 in
theorem text_in (p : Nat) (v : Value) (l : List UInt8) (k : Nat) (w : World) (most : Nat) (hmost : most ≤ 1000000) (b : Addr) (hb : w.cell? b = some (.int .i64 most)) (h : Rdr w p v l k 0) :
    Calls Try.prog 52 #[tk p, .pointer (some b)] w (TextPost p v l k w most) := by
  have hn := count_any p v l k w most (Nat.le_trans hmost (by omega)) h
  have hle := count_le most (l.drop k)
  clear h
  obtain ⟨⟨n, f, m⟩, hr⟩ : ∃ r, r = rdCount most (l.drop k) := ⟨_, rfl⟩
  unfold CountPost at hn
  rw [← hr] at hn hle
  have hle2 : n ≤ 1000000 := Nat.le_trans hle hmost
  clear hle
  have HN := Lib.hid hn; clear hn
  have hE : rdText most (l.drop k) = if f ≠ 0 then ([], f, m) else if ((l.drop k).drop m).length < n then ([], 3, m) else (((l.drop k).drop m).take n, 0, m + n) := by
    unfold rdText
    rw [← hr]
  have HE := Lib.hid hE; clear hE hr
  unfold tk at HN ⊢
  by_cases hf : f = 0
  · subst hf
    have hlen : ((l.drop k).drop m).length = l.length - (k + m) := by rw [List.length_drop, List.length_drop]; omega
    by_cases hlt : l.length - (k + m) < n
    · have HL := Lib.hid hlen; clear hlen
      have hnil : ∀ w : World, (convert 34 9 (.slice none 0 0)).run Try.prog w = .ok (.string ⟨#[]⟩) w := fun w => (By.nil w).rd.string
      go_enter Try.func52, Try.ntmps52
      go_wp2_with (first
        | (go_at_call 53; refine HN.out.mono ?_; rintro e w1 ⟨rfl, hm1⟩; have HM1 := Lib.hid hm1; clear hm1)
        | (go_at_call 48; refine (take_no p v l (k + m) 0 n _ HM1.out.1 hlt).mono ?_; rintro e w2 ⟨rfl, q, rfl⟩))
      go_ret2
      exact text_end (r := ([], 3, m)) (by rw [HE.out, if_neg (by omega), if_pos (by rw [HL.out]; exact hlt)]) rfl rfl rfl (HM1.out.drewN q)
    · have HL := Lib.hid hlen; clear hlen
      go_enter Try.func52, Try.ntmps52
      go_wp2_with (first
        | (go_at_call 53; refine HN.out.mono ?_; rintro e w1 ⟨rfl, hm1⟩; have HM1 := Lib.hid hm1; clear hm1)
        | (go_at_call 48; refine (take_any p v l (k + m) n _ HM1.out.1 (by omega)).mono ?_; rintro e w2 ⟨u, rfl, hst, hm2⟩; have HM2 := Lib.hid hm2; clear hm2))
      go_ret2
      refine text_end (r := (((l.drop k).drop m).take n, 0, m + n)) (by rw [HE.out, if_neg (by omega), if_neg (by rw [HL.out]; exact hlt)]) ?_ rfl (Nat.add_assoc _ _ _) (HM1.out.trans HM2.out)
      rw [List.drop_drop]
  · have hf2 : (((f : Int) == 0) = false) := by rw [beq_eq_false_iff_ne]; omega
    have hf3 : (((f : Int) != 0) = true) := by rw [bne_iff_ne]; omega
    have HF := Lib.hid hf; clear hf
    go_enter Try.func52, Try.ntmps52
    go_wp2_with (go_at_call 53; refine HN.out.mono ?_; rintro e w1 ⟨rfl, hm1⟩; have HM1 := Lib.hid hm1; clear hm1)
    go_ret2
    exact text_end (r := ([], f, m)) (by rw [HE.out, if_pos HF.out]) rfl rfl rfl HM1.out

set_option maxRecDepth 100000 in
set_option maxHeartbeats 400000 in
theorem read_u64_bad (p : Nat) (v : Value) (l : List UInt8) (k f : Nat) (w : World) (g : Value) (hf : f ≠ 0) (h : Rdr w p v l k f) :
    Calls Try.prog 41 #[.pointer (some ⟨p, 0, none⟩), g] w fun e w' => e = .returned (.int .u64 0) ∧ Moved w p v l w' k f := by
  have HR := Lib.hid h; clear h
  have hf2 : (((f : Int) == 0) = false) := by rw [beq_eq_false_iff_ne]; omega
  have hf3 : (((f : Int) != 0) = true) := by rw [bne_iff_ne]; omega
  clear hf
  go_enter Try.func41, Try.ntmps41
  go_wp2_with (go_at_call 32; refine (fault_any p _ l k f w HR.out).mono ?_; rintro e w1 ⟨rfl, rfl⟩)
  go_ret
  exact ⟨rfl, HR.out, Turn.refl _ _⟩

set_option maxRecDepth 100000 in
set_option maxHeartbeats 400000 in
theorem read_bool_bad (p : Nat) (v : Value) (l : List UInt8) (k f : Nat) (w : World) (g : Value) (hf : f ≠ 0) (h : Rdr w p v l k f) :
    Calls Try.prog 49 #[.pointer (some ⟨p, 0, none⟩), g] w fun e w' => e = .returned (.bool false) ∧ Moved w p v l w' k f := by
  have HR := Lib.hid h; clear h
  have hf2 : (((f : Int) == 0) = false) := by rw [beq_eq_false_iff_ne]; omega
  have hf3 : (((f : Int) != 0) = true) := by rw [bne_iff_ne]; omega
  clear hf
  go_enter Try.func49, Try.ntmps49
  go_wp2_with (go_at_call 32; refine (fault_any p _ l k f w HR.out).mono ?_; rintro e w1 ⟨rfl, rfl⟩)
  go_ret
  exact ⟨rfl, HR.out, Turn.refl _ _⟩

set_option maxRecDepth 100000 in
set_option maxHeartbeats 400000 in
theorem read_text_bad (p : Nat) (v : Value) (l : List UInt8) (k f : Nat) (w : World) (g : Value) (hf : f ≠ 0) (h : Rdr w p v l k f) :
    Calls Try.prog 51 #[.pointer (some ⟨p, 0, none⟩), g] w fun e w' => e = .returned (.string ⟨#[]⟩) ∧ Moved w p v l w' k f := by
  have HR := Lib.hid h; clear h
  have hf2 : (((f : Int) == 0) = false) := by rw [beq_eq_false_iff_ne]; omega
  have hf3 : (((f : Int) != 0) = true) := by rw [bne_iff_ne]; omega
  clear hf
  go_enter Try.func51, Try.ntmps51
  go_wp2_with (go_at_call 32; refine (fault_any p _ l k f w HR.out).mono ?_; rintro e w1 ⟨rfl, rfl⟩)
  go_ret
  exact ⟨rfl, HR.out, Turn.refl _ _⟩

theorem Tried.ret {p : Nat} {v : Value} {l : List UInt8} {k : Nat} {w : World} {none x : Value} {k1 f : Nat} {e : Ending} {w' : World} (h : Tried p v l k w none x k1 f e w') : ∃ y, e = .returned y := by
  by_cases hf : f = 0
  · exact ⟨_, (h.1 hf).1⟩
  · exact ⟨_, (h.2 hf).1⟩

theorem Got.ret {p : Nat} {v : Value} {l : List UInt8} {k f : Nat} {w : World} {none x : Value} {k1 f1 : Nat} {e : Ending} {w' : World} (h : Got p v l k f w none x k1 f1 e w') : ∃ y, e = .returned y := by
  by_cases hf : f = 0
  · exact (h.1 hf).ret
  · exact ⟨_, (h.2 hf).1⟩

set_option maxRecDepth 100000 in
set_option maxHeartbeats 400000 in
theorem rnum (p : Nat) (v : Value) (l : List UInt8) (k f : Nat) (w : World) (h : Rdr w p v l k f) :
    Calls Try.prog 30 #[.pointer (some ⟨p, 0, none⟩)] w (Got p v l k f w (.int .u64 0) (.int .u64 (rdNum (l.drop k)).1) (k + (rdNum (l.drop k)).2.2) (rdNum (l.drop k)).2.1) := by
  by_cases hf : f = 0
  · subst hf
    have HT := Lib.hid (read_u64 p v l k w h _ _ _ (number_any p v l k w h))
    clear h
    go_enter Try.func30, Try.ntmps30
    go_wp2_with (go_at_call 41; refine HT.out.mono ?_; intro e w1 ht; obtain ⟨y, rfl⟩ := ht.ret; have HH := Lib.hid ht; clear ht)
    go_ret
    exact ⟨fun _ => HH.out, fun n => absurd rfl n⟩
  · have HT := Lib.hid (read_u64_bad p v l k f w (.func (.func 42) #[] #[]) hf h)
    have HF := Lib.hid hf; clear hf
    clear h
    go_enter Try.func30, Try.ntmps30
    go_wp2_with (go_at_call 41; refine HT.out.mono ?_; rintro e w1 ⟨rfl, hm⟩; have HM := Lib.hid hm; clear hm)
    go_ret
    exact ⟨fun n => absurd n HF.out, fun _ => ⟨rfl, HM.out⟩⟩

set_option maxRecDepth 100000 in
set_option maxHeartbeats 400000 in
theorem rbool (p : Nat) (v : Value) (l : List UInt8) (k f : Nat) (w : World) (h : Rdr w p v l k f) :
    Calls Try.prog 43 #[.pointer (some ⟨p, 0, none⟩)] w (Got p v l k f w (.bool false) (.bool (rdFlag (l.drop k)).1) (k + (rdFlag (l.drop k)).2.2) (rdFlag (l.drop k)).2.1) := by
  by_cases hf : f = 0
  · subst hf
    have HT := Lib.hid (read_bool p v l k w h _ _ _ (flag_any p v l k w h))
    clear h
    go_enter Try.func43, Try.ntmps43
    go_wp2_with (go_at_call 49; refine HT.out.mono ?_; intro e w1 ht; obtain ⟨y, rfl⟩ := ht.ret; have HH := Lib.hid ht; clear ht)
    go_ret
    exact ⟨fun _ => HH.out, fun n => absurd rfl n⟩
  · have HT := Lib.hid (read_bool_bad p v l k f w (.func (.func 50) #[] #[]) hf h)
    have HF := Lib.hid hf; clear hf
    clear h
    go_enter Try.func43, Try.ntmps43
    go_wp2_with (go_at_call 49; refine HT.out.mono ?_; rintro e w1 ⟨rfl, hm⟩; have HM := Lib.hid hm; clear hm)
    go_ret
    exact ⟨fun n => absurd n HF.out, fun _ => ⟨rfl, HM.out⟩⟩

set_option maxRecDepth 100000 in
set_option maxHeartbeats 400000 in
theorem rtext (p : Nat) (v : Value) (l : List UInt8) (k f : Nat) (w : World) (most : Nat) (hmost : most ≤ 1000000) (h : Rdr w p v l k f) :
    Calls Try.prog 44 #[.pointer (some ⟨p, 0, none⟩), .int .i64 most] w (Got p v l k f w (.string ⟨#[]⟩) (.string ⟨(rdText most (l.drop k)).1.toArray⟩) (k + (rdText most (l.drop k)).2.2) (rdText most (l.drop k)).2.1) := by
  by_cases hf : f = 0
  · subst hf
    have hb : (w.alloc (.cells #[.int .i64 most] 3)).cell? ⟨w.heap.size, 0, none⟩ = some (.int .i64 most) := (Box.new w 3 #[.int .i64 most]).cell 0
    have HT := Lib.hid (read_text p v l k (w.alloc (.cells #[.int .i64 most] 3)) ⟨w.heap.size, 0, none⟩ (h.alloc _) _ _ _ (text_in p v l k (w.alloc (.cells #[.int .i64 most] 3)) most hmost ⟨w.heap.size, 0, none⟩ hb (h.alloc _)))
    clear h
    go_enter Try.func44, Try.ntmps44
    go_wp2_with (go_at_call 51; refine HT.out.mono ?_; intro e w1 ht; obtain ⟨y, rfl⟩ := ht.ret; have HH := Lib.hid ht; clear ht)
    go_ret
    exact ⟨fun _ => HH.out.behind ((Turn.refl _ w).alloc _), fun n => absurd rfl n⟩
  · have HT := Lib.hid (read_text_bad p v l k f (w.alloc (.cells #[.int .i64 most] 3)) (.func (.func 52) #[] #[.pointer (some ⟨w.heap.size, 0, none⟩)]) hf (h.alloc _))
    have HF := Lib.hid hf; clear hf
    clear h
    go_enter Try.func44, Try.ntmps44
    go_wp2_with (go_at_call 51; refine HT.out.mono ?_; rintro e w1 ⟨rfl, hm⟩; have HM := Lib.hid hm; clear hm)
    go_ret
    exact ⟨fun n => absurd n HF.out, fun _ => ⟨rfl, HM.out.behind ((Turn.refl _ w).alloc _)⟩⟩

theorem got_bad {p : Nat} {v : Value} {l : List UInt8} {k f : Nat} {w : World} {none x : Value} {k1 f1 : Nat} {e : Ending} {w' : World} (h : Got p v l k f w none x k1 f1 e w') (hn : ¬ (f = 0 ∧ f1 = 0)) :
    e = .returned none ∧ Moved w p v l w' k (if f = 0 then f1 else f) := by
  by_cases hf : f = 0
  · rw [if_pos hf]
    exact (h.1 hf).2 (fun h1 => hn ⟨hf, h1⟩)
  · rw [if_neg hf]
    exact h.2 hf

theorem got_ok {p : Nat} {v : Value} {l : List UInt8} {k f : Nat} {w : World} {none x : Value} {k1 f1 : Nat} {e : Ending} {w' : World} (h : Got p v l k f w none x k1 f1 e w') (hn : f = 0 ∧ f1 = 0) :
    e = .returned x ∧ Moved w p v l w' k1 0 := (h.1 hn.1).1 hn.2

/-- Int's value of a number that was tried. -/
def RInt (p : Nat) (v : Value) (l : List UInt8) (k f : Nat) (w : World) : Ending → World → Prop :=
  Got p v l k f w (.int .i64 0) (.int .i64 (zag (rdNum (l.drop k)).1)) (k + (rdNum (l.drop k)).2.2) (rdNum (l.drop k)).2.1

theorem rdF_lt : ∀ (g i acc : Nat) (l : List UInt8), g + i = 10 → acc < 128 ^ i → (rdF g i acc l).1 < 18446744073709551616
  | 0, i, acc, l, _, _ => by simp [rdF]
  | g + 1, i, acc, [], _, _ => by simp [rdF]
  | g + 1, i, acc, b :: l, h, ha => by
    unfold rdF
    have hb := UInt8.toNat_lt b
    have hp := pow_le i (by omega)
    split
    · refine rdF_lt g (i + 1) _ l (by omega) ?_
      have h1 : (b.toNat - 128) * 128 ^ i ≤ 127 * 128 ^ i := Nat.mul_le_mul_right _ (by omega)
      rw [Nat.pow_succ]
      omega
    · split
      · omega
      · rename_i h1 h2
        show acc + b.toNat * 128 ^ i < 18446744073709551616
        by_cases h9 : i = 9
        · have : b.toNat * 128 ^ i ≤ 1 * 128 ^ i := Nat.mul_le_mul_right _ (by omega)
          omega
        · have h3 : b.toNat * 128 ^ i ≤ 127 * 128 ^ i := Nat.mul_le_mul_right _ (by omega)
          have h4 := pow_le (i + 1) (by omega)
          rw [Nat.pow_succ] at h4
          omega

theorem rdNum_lt (l : List UInt8) : Hid ((rdNum l).1 < 18446744073709551616) := rdF_lt 10 0 0 l (by omega) (by simp)

theorem zag_zero : zag 0 = 0 := by decide

end Go.Proofs.Ytieffpngknglpaa

/-
  What is put is read as it was, and of fewer bytes it is not: on lists of bytes. A new reader.
-/
namespace Go.Proofs.Ytieffpngknglpaa
open Go.RowKit

theorem rdF_enc : ∀ (g n i acc : Nat) (rest : List UInt8), g + i = 9 → (i = 0 ∨ 0 < n) → n < 128 ^ (g + 1) → n * 128 ^ i < 18446744073709551616 →
    rdF (g + 1) i acc (encF g n ++ rest) = (acc + n * 128 ^ i, 0, i + (encF g n).length)
  | 0, n, i, acc, rest, hg, h0, hn, hb => by
    have e9 : i = 9 := by omega
    subst e9
    have h2 : n < 2 := by omega
    have h3 : (low n).toNat = n := low_toNat n (by omega)
    show (if 128 ≤ (low n).toNat then _ else if (0 < 9 ∧ (low n).toNat = 0) ∨ (9 = 9 ∧ 1 < (low n).toNat) then _ else _) = _
    rw [h3, if_neg (by omega), if_neg (by omega)]
    rfl
  | g + 1, n, i, acc, rest, hg, h0, hn, hb => by
    by_cases h : n < 128
    · have e : encF (g + 1) n = [low n] := by unfold encF; rw [if_pos h]
      have h3 : (low n).toNat = n := low_toNat n (by omega)
      rw [e]
      show (if 128 ≤ (low n).toNat then _ else if (0 < i ∧ (low n).toNat = 0) ∨ (i = 9 ∧ 1 < (low n).toNat) then _ else _) = _
      rw [h3, if_neg (by omega), if_neg (by omega)]
      rfl
    · have e : encF (g + 1) n = mid n :: encF g (n / 128) := by
        show (if n < 128 then [low n] else mid n :: encF g (n / 128)) = _
        rw [if_neg h]
      have h3 := mid_toNat n
      have hp : 0 < 128 ^ i := Nat.pow_pos (by omega)
      rw [e]
      show (if 128 ≤ (mid n).toNat then rdF (g + 1) (i + 1) (acc + ((mid n).toNat - 128) * 128 ^ i) (encF g (n / 128) ++ rest) else _) = _
      rw [if_pos (by omega), h3]
      have hd : n / 128 < 128 ^ (g + 1) := by
        rw [Nat.div_lt_iff_lt_mul (by omega), ← Nat.pow_succ]
        exact hn
      have hm : n / 128 * 128 ^ (i + 1) ≤ n * 128 ^ i := by
        rw [Nat.pow_succ, Nat.mul_comm (128 ^ i) 128, ← Nat.mul_assoc]
        exact Nat.mul_le_mul_right (128 ^ i) (Nat.div_mul_le_self n 128)
      have hlt : n / 128 * 128 ^ (i + 1) < 18446744073709551616 := Nat.lt_of_le_of_lt hm hb
      have hq : 0 < n / 128 := Nat.div_pos (by omega) (by omega)
      rw [rdF_enc g (n / 128) (i + 1) _ rest (by omega) (.inr hq) hd hlt]
      refine Prod.ext ?_ (Prod.ext rfl ?_)
      · show acc + (n % 128 + 128 - 128) * 128 ^ i + n / 128 * 128 ^ (i + 1) = acc + n * 128 ^ i
        have e1 : n % 128 + 128 - 128 = n % 128 := by omega
        have e2 : n * 128 ^ i = (n % 128) * 128 ^ i + n / 128 * 128 ^ (i + 1) := by
          rw [Nat.pow_succ, Nat.mul_comm (128 ^ i) 128, ← Nat.mul_assoc, ← Nat.add_mul, show n % 128 + n / 128 * 128 = n from by omega]
        rw [e1, e2]
        omega
      · show i + 1 + (encF g (n / 128)).length = i + (mid n :: encF g (n / 128)).length
        simp only [List.length_cons]
        omega

theorem rdNum_enc (n : Nat) (rest : List UInt8) (hn : Hid (n < 18446744073709551616)) : rdNum (enc n ++ rest) = (n, 0, (enc n).length) := by
  have h : n < 18446744073709551616 := hn
  have := rdF_enc 9 n 0 0 rest rfl (.inl rfl) (num_bound n hn) (by simpa using h)
  unfold rdNum enc
  rw [this]
  simp

theorem rdF_cut : ∀ (g n i acc m : Nat), g + i = 9 → m < (encF g n).length → rdF (g + 1) i acc ((encF g n).take m) = (0, 3, i + m)
  | g, n, i, acc, 0, _, _ => by
    rw [List.take_zero]
    rfl
  | 0, n, i, acc, m + 1, _, hm => absurd hm (by simp [encF])
  | g + 1, n, i, acc, m + 1, hg, hm => by
    by_cases h : n < 128
    · have e : encF (g + 1) n = [low n] := by unfold encF; rw [if_pos h]
      rw [e] at hm
      exact absurd hm (by simp)
    · have e : encF (g + 1) n = mid n :: encF g (n / 128) := by
        show (if n < 128 then [low n] else mid n :: encF g (n / 128)) = _
        rw [if_neg h]
      have h3 := mid_toNat n
      rw [e] at hm ⊢
      rw [List.take_succ_cons]
      show (if 128 ≤ (mid n).toNat then rdF (g + 1) (i + 1) (acc + ((mid n).toNat - 128) * 128 ^ i) ((encF g (n / 128)).take m) else _) = _
      rw [if_pos (by omega), rdF_cut g (n / 128) (i + 1) _ m (by omega) (by simpa using hm)]
      refine Prod.ext rfl (Prod.ext rfl ?_)
      show i + 1 + m = i + (m + 1)
      omega

theorem rdNum_cut (n m : Nat) (hm : m < (enc n).length) : rdNum ((enc n).take m) = (0, 3, m) := by
  have := rdF_cut 9 n 0 0 m rfl hm
  unfold rdNum enc
  rw [this]
  simp

theorem enc_pos (n : Nat) : 0 < (enc n).length := by
  unfold enc encF
  split <;> simp

set_option maxRecDepth 100000 in
set_option maxHeartbeats 400000 in
theorem new_reader (v : Value) (l : List UInt8) (w : World) (hv : Rd w v l) (hl : l.length ≤ 1000000) :
    Calls Try.prog 29 #[v] w fun e w' => ∃ p u, e = .returned (.pointer (some ⟨p, 0, none⟩)) ∧ Rdr w' p u l 0 0 ∧ Turn (fun _ => False) w w' ∧ w.heap.size ≤ p ∧ ∀ k, u.ownBlock = some k → w.heap.size ≤ k := by
  have HV := Lib.hid hv; clear hv
  go_enter Try.func29, Try.ntmps29
  go_wp2_with (go_at_call 40; refine (clone_any v l w HV.out hl).mono ?_; rintro e w1 ⟨u, rfl, hb, ht, hk⟩; obtain ⟨A, c, hu⟩ := hb.shape; subst hu; have HB := Lib.hid hb; clear hb; have HT := Lib.hid ht; clear ht; have HK := Lib.hid hk; clear hk)
  go_ret
  refine ⟨w1.heap.size, .slice A l.length c, rfl, ⟨Box.new _ _ _, HB.out.alloc _, Nat.zero_le _, hl⟩, HT.out.alloc _, HT.out.size, HK.out⟩

end Go.Proofs.Ytieffpngknglpaa
