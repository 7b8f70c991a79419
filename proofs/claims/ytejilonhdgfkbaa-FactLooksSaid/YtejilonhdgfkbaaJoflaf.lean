/-
  Texts laid one behind the other: Oj Ok Ol Ra Rb Rc Zl Zm.
-/
import Derived.Test.YtejilonhdgfkbaaJoflae
import Derived.Test.YtejilonhdgfkbaaJoflac
import Derived.Test.YtejilonhdgfkbaaJoflaa

/-
  A reader's calls, whole.
-/
namespace Go.Proofs.Ytejilonhdgfkbaa
open Go.RowKit

/-- Behind a reader's call: behind a fault nothing is read. -/
def Got (p : Nat) (v : Value) (l : List UInt8) (k f : Nat) (w : World) (none x : Value) (k1 f1 : Nat) (e : Ending) (w' : World) : Prop :=
  (f = 0 → Tried p v l k w none x k1 f1 e w') ∧ (f ≠ 0 → e = .returned none ∧ Moved w p v l w' k f)

theorem Moved.behind {a b c : World} {p : Nat} {v : Value} {l : List UInt8} {k f : Nat} (h : Turn (fun g => g = p) a b) (g : Moved b p v l c k f) : Moved a p v l c k f :=
  ⟨g.1, h.trans g.2 (fun _ _ t => t)⟩

theorem Tried.behind {a b : World} {p : Nat} {v : Value} {l : List UInt8} {k : Nat} {none x : Value} {k1 f : Nat} {e : Ending} {w' : World} (h : Turn (fun g => g = p) a b) (g : Tried p v l k b none x k1 f e w') : Tried p v l k a none x k1 f e w' :=
  ⟨fun n => ⟨(g.1 n).1, (g.1 n).2.behind h⟩, fun n => ⟨(g.2 n).1, (g.2 n).2.behind h⟩⟩

theorem Rdr.alloc {w : World} {p : Nat} {v : Value} {l : List UInt8} {k f : Nat} (h : Rdr w p v l k f) (o : Obj) : Rdr (w.alloc o) p v l k f :=
  h.turn ((Turn.refl (fun _ => False) w).alloc o) (fun f => f) (fun _ _ f => f)

def TextPost (p : Nat) (v : Value) (l : List UInt8) (k : Nat) (w : World) (most : Nat) (e : Ending) (w' : World) : Prop :=
  e = .returned (.tuple #[.string ⟨(rdText most (l.drop k)).1.toArray⟩, .int .i64 (rdText most (l.drop k)).2.1]) ∧ Moved w p v l w' (k + (rdText most (l.drop k)).2.2) 0

theorem text_end {p : Nat} {v : Value} {l : List UInt8} {k : Nat} {w w' : World} {most : Nat} {s : ByteArray} {f m : Nat} {r : List UInt8 × Nat × Nat} (hr : r = rdText most (l.drop k)) (h1 : s = ⟨r.1.toArray⟩) (h2 : f = r.2.1) (h3 : m = k + r.2.2)
    (hm : Moved w p v l w' m 0) : TextPost p v l k w most (.returned (.tuple #[.string s, .int .i64 f])) w' := by
  subst h1 h2 h3 hr
  exact ⟨rfl, hm⟩

theorem count_le (most : Nat) (l : List UInt8) : (rdCount most l).1 ≤ most := by
  unfold rdCount
  split
  · exact Nat.zero_le _
  · split <;> simp_all <;> omega

set_option maxRecDepth 100000 in
set_option maxHeartbeats 400000 in
theorem text_in (p : Nat) (v : Value) (l : List UInt8) (k : Nat) (w : World) (most : Nat) (hmost : most ≤ 1000000) (b : Addr) (hb : w.cell? b = some (.int .i64 most)) (h : Rdr w p v l k 0) :
    Calls Try.prog 108 #[tk p, .pointer (some b)] w (TextPost p v l k w most) := by
  have hn := count_any p v l k w most (Nat.le_trans hmost (by omega)) h
  have hle := count_le most (l.drop k)
  clear h
  obtain ⟨⟨n, f, m⟩, hr⟩ : ∃ r, r = rdCount most (l.drop k) := ⟨_, rfl⟩
  unfold CountPost at hn
  rw [← hr] at hn hle
  have hle2 : n ≤ 1000000 := Nat.le_trans hle hmost
  clear hle
  have HN := Lib.hid hn; clear hn
  have hE : rdText most (l.drop k) = if f ≠ 0 then ([], f, m) else if ((l.drop k).drop m).length < n then ([], 3, m) else (((l.drop k).drop m).take n, 0, m + n) := by
    unfold rdText
    rw [← hr]
  have HE := Lib.hid hE; clear hE hr
  unfold tk at HN ⊢
  by_cases hf : f = 0
  · subst hf
    have hlen : ((l.drop k).drop m).length = l.length - (k + m) := by rw [List.length_drop, List.length_drop]; omega
    by_cases hlt : l.length - (k + m) < n
    · have HL := Lib.hid hlen; clear hlen
      have hnil : ∀ w : World, (convert 44 9 (.slice none 0 0)).run Try.prog w = .ok (.string ⟨#[]⟩) w := fun w => (By.nil w).rd.string
      go_enter Try.func108, Try.ntmps108
      go_wp2_with (first
        | (go_at_call 92; refine HN.out.mono ?_; rintro e w1 ⟨rfl, hm1⟩; have HM1 := Lib.hid hm1; clear hm1)
        | (go_at_call 104; refine (take_no p v l (k + m) 0 n _ HM1.out.1 hlt).mono ?_; rintro e w2 ⟨rfl, q, rfl⟩))
      go_ret2
      exact text_end (r := ([], 3, m)) (by rw [HE.out, if_neg (by omega), if_pos (by rw [HL.out]; exact hlt)]) rfl rfl rfl (HM1.out.drewN q)
    · have HL := Lib.hid hlen; clear hlen
      go_enter Try.func108, Try.ntmps108
      go_wp2_with (first
        | (go_at_call 92; refine HN.out.mono ?_; rintro e w1 ⟨rfl, hm1⟩; have HM1 := Lib.hid hm1; clear hm1)
        | (go_at_call 104; refine (take_any p v l (k + m) n _ HM1.out.1 (by omega)).mono ?_; rintro e w2 ⟨u, rfl, hst, hm2⟩; have HM2 := Lib.hid hm2; clear hm2))
      go_ret2
      refine text_end (r := (((l.drop k).drop m).take n, 0, m + n)) (by rw [HE.out, if_neg (by omega), if_neg (by rw [HL.out]; exact hlt)]) ?_ rfl (Nat.add_assoc _ _ _) (HM1.out.trans HM2.out)
      rw [List.drop_drop]
  · have hf2 : (((f : Int) == 0) = false) := by rw [beq_eq_false_iff_ne]; omega
    have hf3 : (((f : Int) != 0) = true) := by rw [bne_iff_ne]; omega
    have HF := Lib.hid hf; clear hf
    go_enter Try.func108, Try.ntmps108
    go_wp2_with (go_at_call 92; refine HN.out.mono ?_; rintro e w1 ⟨rfl, hm1⟩; have HM1 := Lib.hid hm1; clear hm1)
    go_ret2
    exact text_end (r := ([], f, m)) (by rw [HE.out, if_pos HF.out]) rfl rfl rfl HM1.out

set_option maxRecDepth 100000 in
set_option maxHeartbeats 400000 in
theorem count_in (p : Nat) (v : Value) (l : List UInt8) (k : Nat) (w : World) (most : Nat) (hmost : most ≤ 1000000000) (b : Addr) (hb : w.cell? b = some (.int .i64 most)) (h : Rdr w p v l k 0) :
    Calls Try.prog 91 #[tk p, .pointer (some b)] w (CountPost p v l k w most) := by
  have HN := Lib.hid (count_any p v l k w most hmost h)
  clear h
  unfold tk at HN ⊢
  go_enter Try.func91, Try.ntmps91
  go_wp2_with (go_at_call 92; refine HN.out.mono ?_; rintro e w1 ⟨rfl, hm1⟩; have HM1 := Lib.hid hm1; clear hm1)
  go_ret2
  exact ⟨rfl, HM1.out⟩

set_option maxRecDepth 100000 in
set_option maxHeartbeats 400000 in
theorem read_u64_bad (p : Nat) (v : Value) (l : List UInt8) (k f : Nat) (w : World) (g : Value) (hf : f ≠ 0) (h : Rdr w p v l k f) :
    Calls Try.prog 106 #[.pointer (some ⟨p, 0, none⟩), g] w fun e w' => e = .returned (.int .u64 0) ∧ Moved w p v l w' k f := by
  have HR := Lib.hid h; clear h
  have hf2 : (((f : Int) == 0) = false) := by rw [beq_eq_false_iff_ne]; omega
  have hf3 : (((f : Int) != 0) = true) := by rw [bne_iff_ne]; omega
  clear hf
  go_enter Try.func106, Try.ntmps106
  go_wp2_with (go_at_call 67; refine (fault_any p _ l k f w HR.out).mono ?_; rintro e w1 ⟨rfl, rfl⟩)
  go_ret
  exact ⟨rfl, HR.out, Turn.refl _ _⟩

set_option maxRecDepth 100000 in
set_option maxHeartbeats 400000 in
theorem read_text_bad (p : Nat) (v : Value) (l : List UInt8) (k f : Nat) (w : World) (g : Value) (hf : f ≠ 0) (h : Rdr w p v l k f) :
    Calls Try.prog 107 #[.pointer (some ⟨p, 0, none⟩), g] w fun e w' => e = .returned (.string ⟨#[]⟩) ∧ Moved w p v l w' k f := by
  have HR := Lib.hid h; clear h
  have hf2 : (((f : Int) == 0) = false) := by rw [beq_eq_false_iff_ne]; omega
  have hf3 : (((f : Int) != 0) = true) := by rw [bne_iff_ne]; omega
  clear hf
  go_enter Try.func107, Try.ntmps107
  go_wp2_with (go_at_call 67; refine (fault_any p _ l k f w HR.out).mono ?_; rintro e w1 ⟨rfl, rfl⟩)
  go_ret
  exact ⟨rfl, HR.out, Turn.refl _ _⟩

set_option maxRecDepth 100000 in
set_option maxHeartbeats 400000 in
theorem read_count_bad (p : Nat) (v : Value) (l : List UInt8) (k f : Nat) (w : World) (g : Value) (hf : f ≠ 0) (h : Rdr w p v l k f) :
    Calls Try.prog 90 #[.pointer (some ⟨p, 0, none⟩), g] w fun e w' => e = .returned (.int .i64 0) ∧ Moved w p v l w' k f := by
  have HR := Lib.hid h; clear h
  have hf2 : (((f : Int) == 0) = false) := by rw [beq_eq_false_iff_ne]; omega
  have hf3 : (((f : Int) != 0) = true) := by rw [bne_iff_ne]; omega
  clear hf
  go_enter Try.func90, Try.ntmps90
  go_wp2_with (go_at_call 67; refine (fault_any p _ l k f w HR.out).mono ?_; rintro e w1 ⟨rfl, rfl⟩)
  go_ret
  exact ⟨rfl, HR.out, Turn.refl _ _⟩

theorem Tried.ret {p : Nat} {v : Value} {l : List UInt8} {k : Nat} {w : World} {none x : Value} {k1 f : Nat} {e : Ending} {w' : World} (h : Tried p v l k w none x k1 f e w') : ∃ y, e = .returned y := by
  by_cases hf : f = 0
  · exact ⟨_, (h.1 hf).1⟩
  · exact ⟨_, (h.2 hf).1⟩

theorem Got.ret {p : Nat} {v : Value} {l : List UInt8} {k f : Nat} {w : World} {none x : Value} {k1 f1 : Nat} {e : Ending} {w' : World} (h : Got p v l k f w none x k1 f1 e w') : ∃ y, e = .returned y := by
  by_cases hf : f = 0
  · exact (h.1 hf).ret
  · exact ⟨_, (h.2 hf).1⟩

set_option maxRecDepth 100000 in
set_option maxHeartbeats 400000 in
theorem rnum (p : Nat) (v : Value) (l : List UInt8) (k f : Nat) (w : World) (h : Rdr w p v l k f) :
    Calls Try.prog 93 #[.pointer (some ⟨p, 0, none⟩)] w (Got p v l k f w (.int .u64 0) (.int .u64 (rdNum (l.drop k)).1) (k + (rdNum (l.drop k)).2.2) (rdNum (l.drop k)).2.1) := by
  by_cases hf : f = 0
  · subst hf
    have HT := Lib.hid (read_u64 p v l k w h _ _ _ (number_any p v l k w h))
    clear h
    go_enter Try.func93, Try.ntmps93
    go_wp2_with (go_at_call 106; refine HT.out.mono ?_; intro e w1 ht; obtain ⟨y, rfl⟩ := ht.ret; have HH := Lib.hid ht; clear ht)
    go_ret
    exact ⟨fun _ => HH.out, fun n => absurd rfl n⟩
  · have HT := Lib.hid (read_u64_bad p v l k f w (.func (.func 105) #[] #[]) hf h)
    have HF := Lib.hid hf; clear hf
    clear h
    go_enter Try.func93, Try.ntmps93
    go_wp2_with (go_at_call 106; refine HT.out.mono ?_; rintro e w1 ⟨rfl, hm⟩; have HM := Lib.hid hm; clear hm)
    go_ret
    exact ⟨fun n => absurd n HF.out, fun _ => ⟨rfl, HM.out⟩⟩

set_option maxRecDepth 100000 in
set_option maxHeartbeats 400000 in
theorem rtext (p : Nat) (v : Value) (l : List UInt8) (k f : Nat) (w : World) (most : Nat) (hmost : most ≤ 1000000) (h : Rdr w p v l k f) :
    Calls Try.prog 94 #[.pointer (some ⟨p, 0, none⟩), .int .i64 most] w (Got p v l k f w (.string ⟨#[]⟩) (.string ⟨(rdText most (l.drop k)).1.toArray⟩) (k + (rdText most (l.drop k)).2.2) (rdText most (l.drop k)).2.1) := by
  by_cases hf : f = 0
  · subst hf
    have hb : (w.alloc (.cells #[.int .i64 most] 3)).cell? ⟨w.heap.size, 0, none⟩ = some (.int .i64 most) := (Box.new w 3 #[.int .i64 most]).cell 0
    have HT := Lib.hid (read_text p v l k (w.alloc (.cells #[.int .i64 most] 3)) ⟨w.heap.size, 0, none⟩ (h.alloc _) _ _ _ (text_in p v l k (w.alloc (.cells #[.int .i64 most] 3)) most hmost ⟨w.heap.size, 0, none⟩ hb (h.alloc _)))
    clear h
    go_enter Try.func94, Try.ntmps94
    go_wp2_with (go_at_call 107; refine HT.out.mono ?_; intro e w1 ht; obtain ⟨y, rfl⟩ := ht.ret; have HH := Lib.hid ht; clear ht)
    go_ret
    exact ⟨fun _ => HH.out.behind ((Turn.refl _ w).alloc _), fun n => absurd rfl n⟩
  · have HT := Lib.hid (read_text_bad p v l k f (w.alloc (.cells #[.int .i64 most] 3)) (.func (.func 108) #[] #[.pointer (some ⟨w.heap.size, 0, none⟩)]) hf (h.alloc _))
    have HF := Lib.hid hf; clear hf
    clear h
    go_enter Try.func94, Try.ntmps94
    go_wp2_with (go_at_call 107; refine HT.out.mono ?_; rintro e w1 ⟨rfl, hm⟩; have HM := Lib.hid hm; clear hm)
    go_ret
    exact ⟨fun n => absurd n HF.out, fun _ => ⟨rfl, HM.out.behind ((Turn.refl _ w).alloc _)⟩⟩

set_option maxRecDepth 100000 in
set_option maxHeartbeats 400000 in
theorem rcount (p : Nat) (v : Value) (l : List UInt8) (k f : Nat) (w : World) (most : Nat) (hmost : most ≤ 1000000000) (h : Rdr w p v l k f) :
    Calls Try.prog 65 #[.pointer (some ⟨p, 0, none⟩), .int .i64 most] w (Got p v l k f w (.int .i64 0) (.int .i64 (rdCount most (l.drop k)).1) (k + (rdCount most (l.drop k)).2.2) (rdCount most (l.drop k)).2.1) := by
  by_cases hf : f = 0
  · subst hf
    have hb : (w.alloc (.cells #[.int .i64 most] 3)).cell? ⟨w.heap.size, 0, none⟩ = some (.int .i64 most) := (Box.new w 3 #[.int .i64 most]).cell 0
    have HT := Lib.hid (read_count p v l k (w.alloc (.cells #[.int .i64 most] 3)) ⟨w.heap.size, 0, none⟩ (h.alloc _) _ _ _ (count_in p v l k (w.alloc (.cells #[.int .i64 most] 3)) most hmost ⟨w.heap.size, 0, none⟩ hb (h.alloc _)))
    clear h
    go_enter Try.func65, Try.ntmps65
    go_wp2_with (go_at_call 90; refine HT.out.mono ?_; intro e w1 ht; obtain ⟨y, rfl⟩ := ht.ret; have HH := Lib.hid ht; clear ht)
    go_ret
    exact ⟨fun _ => HH.out.behind ((Turn.refl _ w).alloc _), fun n => absurd rfl n⟩
  · have HT := Lib.hid (read_count_bad p v l k f (w.alloc (.cells #[.int .i64 most] 3)) (.func (.func 91) #[] #[.pointer (some ⟨w.heap.size, 0, none⟩)]) hf (h.alloc _))
    have HF := Lib.hid hf; clear hf
    clear h
    go_enter Try.func65, Try.ntmps65
    go_wp2_with (go_at_call 90; refine HT.out.mono ?_; rintro e w1 ⟨rfl, hm⟩; have HM := Lib.hid hm; clear hm)
    go_ret
    exact ⟨fun n => absurd n HF.out, fun _ => ⟨rfl, HM.out.behind ((Turn.refl _ w).alloc _)⟩⟩

theorem got_bad {p : Nat} {v : Value} {l : List UInt8} {k f : Nat} {w : World} {none x : Value} {k1 f1 : Nat} {e : Ending} {w' : World} (h : Got p v l k f w none x k1 f1 e w') (hn : ¬ (f = 0 ∧ f1 = 0)) :
    e = .returned none ∧ Moved w p v l w' k (if f = 0 then f1 else f) := by
  by_cases hf : f = 0
  · rw [if_pos hf]
    exact (h.1 hf).2 (fun h1 => hn ⟨hf, h1⟩)
  · rw [if_neg hf]
    exact h.2 hf

theorem got_ok {p : Nat} {v : Value} {l : List UInt8} {k f : Nat} {w : World} {none x : Value} {k1 f1 : Nat} {e : Ending} {w' : World} (h : Got p v l k f w none x k1 f1 e w') (hn : f = 0 ∧ f1 = 0) :
    e = .returned x ∧ Moved w p v l w' k1 0 := (h.1 hn.1).1 hn.2

/-- Int's value of a number that was tried. -/
def RInt (p : Nat) (v : Value) (l : List UInt8) (k f : Nat) (w : World) : Ending → World → Prop :=
  Got p v l k f w (.int .i64 0) (.int .i64 (zag (rdNum (l.drop k)).1)) (k + (rdNum (l.drop k)).2.2) (rdNum (l.drop k)).2.1

theorem rdF_lt : ∀ (g i acc : Nat) (l : List UInt8), g + i = 10 → acc < 128 ^ i → (rdF g i acc l).1 < 18446744073709551616
  | 0, i, acc, l, _, _ => by simp [rdF]
  | g + 1, i, acc, [], _, _ => by simp [rdF]
  | g + 1, i, acc, b :: l, h, ha => by
    unfold rdF
    have hb := UInt8.toNat_lt b
    have hp := pow_le i (by omega)
    split
    · refine rdF_lt g (i + 1) _ l (by omega) ?_
      have h1 : (b.toNat - 128) * 128 ^ i ≤ 127 * 128 ^ i := Nat.mul_le_mul_right _ (by omega)
      rw [Nat.pow_succ]
      omega
    · split
      · omega
      · rename_i h1 h2
        show acc + b.toNat * 128 ^ i < 18446744073709551616
        by_cases h9 : i = 9
        · have : b.toNat * 128 ^ i ≤ 1 * 128 ^ i := Nat.mul_le_mul_right _ (by omega)
          omega
        · have h3 : b.toNat * 128 ^ i ≤ 127 * 128 ^ i := Nat.mul_le_mul_right _ (by omega)
          have h4 := pow_le (i + 1) (by omega)
          rw [Nat.pow_succ] at h4
          omega

theorem rdNum_lt (l : List UInt8) : Hid ((rdNum l).1 < 18446744073709551616) := rdF_lt 10 0 0 l (by omega) (by simp)

theorem zag_zero : zag 0 = 0 := by decide

set_option maxRecDepth 100000 in
set_option maxHeartbeats 400000 in
theorem rint (p : Nat) (v : Value) (l : List UInt8) (k f : Nat) (w : World) (h : Rdr w p v l k f) :
    Calls Try.prog 95 #[.pointer (some ⟨p, 0, none⟩)] w (RInt p v l k f w) := by
  have HN := Lib.hid (rnum p v l k f w h)
  clear h
  have HB := Lib.hid (rdNum_lt (l.drop k))
  by_cases hok : f = 0 ∧ (rdNum (l.drop k)).2.1 = 0
  · have HO := Lib.hid hok; clear hok
    go_enter Try.func95, Try.ntmps95
    go_wp2_with (first
      | (go_at_call 93; refine HN.out.mono ?_; intro e w1 hg; obtain ⟨rfl, hm⟩ := (hg.1 HO.out.1).1 HO.out.2; have HM := Lib.hid hm; clear hm; clear hg)
      | (go_at_call 109; refine (back_any (rdNum (l.drop k)).1 w1 HB.out).mono ?_; rintro e w2 ⟨rfl, rfl⟩))
    go_ret
    exact ⟨fun _ => ⟨fun _ => ⟨rfl, HM.out⟩, fun n => absurd HO.out.2 n⟩, fun n => absurd HO.out.1 n⟩
  · have HO := Lib.hid hok; clear hok
    go_enter Try.func95, Try.ntmps95
    go_wp2_with (first
      | (go_at_call 93; refine HN.out.mono ?_; intro e w1 hg; obtain ⟨rfl, hm⟩ := got_bad hg HO.out; have HM := Lib.hid hm; clear hm; clear hg)
      | (go_at_call 109; refine (back_any 0 w1 (by show (0 : Nat) < 18446744073709551616; omega)).mono ?_; rintro e w2 ⟨rfl, rfl⟩))
    go_ret
    exact ⟨fun h0 => ⟨fun h1 => absurd ⟨h0, h1⟩ HO.out, fun _ => ⟨rfl, by have := HM.out; rw [if_pos h0] at this; exact this⟩⟩, fun n => ⟨rfl, by have := HM.out; rw [if_neg n] at this; exact this⟩⟩

end Go.Proofs.Ytejilonhdgfkbaa

/-
  What is put is read as it was, and of fewer bytes it is not: on lists of bytes. A new reader.
-/
namespace Go.Proofs.Ytejilonhdgfkbaa
open Go.RowKit

theorem rdF_enc : ∀ (g n i acc : Nat) (rest : List UInt8), g + i = 9 → (i = 0 ∨ 0 < n) → n < 128 ^ (g + 1) → n * 128 ^ i < 18446744073709551616 →
    rdF (g + 1) i acc (encF g n ++ rest) = (acc + n * 128 ^ i, 0, i + (encF g n).length)
  | 0, n, i, acc, rest, hg, h0, hn, hb => by
    have e9 : i = 9 := by omega
    subst e9
    have h2 : n < 2 := by omega
    have h3 : (low n).toNat = n := low_toNat n (by omega)
    show (if 128 ≤ (low n).toNat then _ else if (0 < 9 ∧ (low n).toNat = 0) ∨ (9 = 9 ∧ 1 < (low n).toNat) then _ else _) = _
    rw [h3, if_neg (by omega), if_neg (by omega)]
    rfl
  | g + 1, n, i, acc, rest, hg, h0, hn, hb => by
    by_cases h : n < 128
    · have e : encF (g + 1) n = [low n] := by unfold encF; rw [if_pos h]
      have h3 : (low n).toNat = n := low_toNat n (by omega)
      rw [e]
      show (if 128 ≤ (low n).toNat then _ else if (0 < i ∧ (low n).toNat = 0) ∨ (i = 9 ∧ 1 < (low n).toNat) then _ else _) = _
      rw [h3, if_neg (by omega), if_neg (by omega)]
      rfl
    · have e : encF (g + 1) n = mid n :: encF g (n / 128) := by
        show (if n < 128 then [low n] else mid n :: encF g (n / 128)) = _
        rw [if_neg h]
      have h3 := mid_toNat n
      have hp : 0 < 128 ^ i := Nat.pow_pos (by omega)
      rw [e]
      show (if 128 ≤ (mid n).toNat then rdF (g + 1) (i + 1) (acc + ((mid n).toNat - 128) * 128 ^ i) (encF g (n / 128) ++ rest) else _) = _
      rw [if_pos (by omega), h3]
      have hd : n / 128 < 128 ^ (g + 1) := by
        rw [Nat.div_lt_iff_lt_mul (by omega), ← Nat.pow_succ]
        exact hn
      have hm : n / 128 * 128 ^ (i + 1) ≤ n * 128 ^ i := by
        rw [Nat.pow_succ, Nat.mul_comm (128 ^ i) 128, ← Nat.mul_assoc]
        exact Nat.mul_le_mul_right (128 ^ i) (Nat.div_mul_le_self n 128)
      have hlt : n / 128 * 128 ^ (i + 1) < 18446744073709551616 := Nat.lt_of_le_of_lt hm hb
      have hq : 0 < n / 128 := Nat.div_pos (by omega) (by omega)
      rw [rdF_enc g (n / 128) (i + 1) _ rest (by omega) (.inr hq) hd hlt]
      refine Prod.ext ?_ (Prod.ext rfl ?_)
      · show acc + (n % 128 + 128 - 128) * 128 ^ i + n / 128 * 128 ^ (i + 1) = acc + n * 128 ^ i
        have e1 : n % 128 + 128 - 128 = n % 128 := by omega
        have e2 : n * 128 ^ i = (n % 128) * 128 ^ i + n / 128 * 128 ^ (i + 1) := by
          rw [Nat.pow_succ, Nat.mul_comm (128 ^ i) 128, ← Nat.mul_assoc, ← Nat.add_mul, show n % 128 + n / 128 * 128 = n from by omega]
        rw [e1, e2]
        omega
      · show i + 1 + (encF g (n / 128)).length = i + (mid n :: encF g (n / 128)).length
        simp only [List.length_cons]
        omega

theorem rdNum_enc (n : Nat) (rest : List UInt8) (hn : Hid (n < 18446744073709551616)) : rdNum (enc n ++ rest) = (n, 0, (enc n).length) := by
  have h : n < 18446744073709551616 := hn
  have := rdF_enc 9 n 0 0 rest rfl (.inl rfl) (num_bound n hn) (by simpa using h)
  unfold rdNum enc
  rw [this]
  simp

theorem rdF_cut : ∀ (g n i acc m : Nat), g + i = 9 → m < (encF g n).length → rdF (g + 1) i acc ((encF g n).take m) = (0, 3, i + m)
  | g, n, i, acc, 0, _, _ => by
    rw [List.take_zero]
    rfl
  | 0, n, i, acc, m + 1, _, hm => absurd hm (by simp [encF])
  | g + 1, n, i, acc, m + 1, hg, hm => by
    by_cases h : n < 128
    · have e : encF (g + 1) n = [low n] := by unfold encF; rw [if_pos h]
      rw [e] at hm
      exact absurd hm (by simp)
    · have e : encF (g + 1) n = mid n :: encF g (n / 128) := by
        show (if n < 128 then [low n] else mid n :: encF g (n / 128)) = _
        rw [if_neg h]
      have h3 := mid_toNat n
      rw [e] at hm ⊢
      rw [List.take_succ_cons]
      show (if 128 ≤ (mid n).toNat then rdF (g + 1) (i + 1) (acc + ((mid n).toNat - 128) * 128 ^ i) ((encF g (n / 128)).take m) else _) = _
      rw [if_pos (by omega), rdF_cut g (n / 128) (i + 1) _ m (by omega) (by simpa using hm)]
      refine Prod.ext rfl (Prod.ext rfl ?_)
      show i + 1 + m = i + (m + 1)
      omega

theorem rdNum_cut (n m : Nat) (hm : m < (enc n).length) : rdNum ((enc n).take m) = (0, 3, m) := by
  have := rdF_cut 9 n 0 0 m rfl hm
  unfold rdNum enc
  rw [this]
  simp

theorem enc_pos (n : Nat) : 0 < (enc n).length := by
  unfold enc encF
  split <;> simp

set_option maxRecDepth 100000 in
set_option maxHeartbeats 400000 in
theorem new_reader (v : Value) (l : List UInt8) (w : World) (hv : Rd w v l) (hl : l.length ≤ 1000000) :
    Calls Try.prog 49 #[v] w fun e w' => ∃ p u, e = .returned (.pointer (some ⟨p, 0, none⟩)) ∧ Rdr w' p u l 0 0 ∧ Turn (fun _ => False) w w' ∧ w.heap.size ≤ p ∧ ∀ k, u.ownBlock = some k → w.heap.size ≤ k := by
  have HV := Lib.hid hv; clear hv
  go_enter Try.func49, Try.ntmps49
  go_wp2_with (go_at_call 64; refine (clone_any v l w HV.out hl).mono ?_; rintro e w1 ⟨u, rfl, hb, ht, hk⟩; obtain ⟨A, c, hu⟩ := hb.shape; subst hu; have HB := Lib.hid hb; clear hb; have HT := Lib.hid ht; clear ht; have HK := Lib.hid hk; clear hk)
  go_ret
  refine ⟨w1.heap.size, .slice A l.length c, rfl, ⟨Box.new _ _ _, HB.out.alloc _, Nat.zero_le _, hl⟩, HT.out.alloc _, HT.out.size, HK.out⟩

end Go.Proofs.Ytejilonhdgfkbaa

/-
  The chapter's example: what must come at any rate.
-/
namespace Go.Proofs.Ytejilonhdgfkbaa
open Go.RowKit

def demo1 : List UInt8 := [172, 2, 1, 2, 97, 98]
theorem demo1_eq : ([] ++ enc 300) ++ enc (zig (-1)) ++ (enc (ByteArray.mk #[97, 98]).size ++ (ByteArray.mk #[97, 98]).data.toList) = demo1 := by decide +kernel
theorem demo1_num : rdNum (demo1.drop 0) = (300, 0, 2) := by decide +kernel

theorem By.at {w : World} {v : Value} {l : List UInt8} (h : By w v l) (hl : 0 < l.length) : ∃ g c, v = .slice (some ⟨g, 0, none⟩) l.length c ∧ l.length ≤ c ∧ ∀ j b, l[j]? = some b → w.cell? ⟨g, j, none⟩ = some (.int .u8 (b.toNat : Int)) := by
  rcases h.form with ⟨_, rfl⟩ | ⟨g, cap, cur, rfl, hb, h1, _⟩
  · exact absurd hl (by simp)
  · refine ⟨g, cap, rfl, h1, fun j b hj => ?_⟩
    have := World.ownsRow.cells h (g := g) rfl j (bv b) (by simp [hj])
    have e : (⟨g, 0, none⟩ : Addr).add j = ⟨g, j, none⟩ := by unfold Addr.add; split <;> simp_all
    rw [e] at this
    exact this

theorem Wr.new (w : World) : Wr (w.alloc (.cells #[.slice none 0 0] 64)) w.heap.size (.slice none 0 0) [] := ⟨Box.new _ _ _, By.nil _⟩

theorem hid_int (n : Int) (h : -1000000 ≤ n) (h2 : n ≤ 1000000) : Hid (-9223372036854775808 ≤ n) ∧ Hid (n ≤ 9223372036854775807) := by
  constructor
  · show -9223372036854775808 ≤ n
    omega
  · show n ≤ 9223372036854775807
    omega

theorem Wr.turn {w w' : World} {p : Nat} {v : Value} {l : List UInt8} {S : Nat → Prop} (h : Wr w p v l) (ht : Turn S w w') (h1 : ¬ S p) (h2 : ∀ g, v.ownBlock = some g → ¬ S g) : Wr w' p v l :=
  ⟨h.1.turn ht h1, h.2.turn ht h2⟩

/-- A writer of the call's own, made since w. -/
def Own (w w1 : World) (p : Nat) (v : Value) (l : List UInt8) : Prop := Wr w1 p v l ∧ Turn (fun _ => False) w w1 ∧ w.heap.size ≤ p ∧ ∀ k, v.ownBlock = some k → w.heap.size ≤ k

theorem Own.put {w w1 w2 : World} {p : Nat} {v u : Value} {l m : List UInt8} (h : Own w w1 p v l) (g : Put w1 p v w2 u m) : Own w w2 p u m := by
  obtain ⟨_, ht, hp, hv⟩ := h
  obtain ⟨hw, gt, gm⟩ := g
  refine ⟨hw, ht.fresh gt ?_, hp, ?_⟩
  · rintro k (rfl | hk)
    · exact hp
    · exact hv k hk
  · intro k hk
    rcases gm with e | e
    · exact hv k (e ▸ hk)
    · have := ht.size
      have := e k hk
      omega

theorem Own.later {w w1 w2 : World} {p : Nat} {v : Value} {l : List UInt8} (h : Own w w1 p v l) (g : Turn (fun _ => False) w1 w2) : Own w w2 p v l :=
  ⟨h.1.turn g (fun f => f) (fun _ _ f => f), h.2.1.fresh g (fun _ f => f.elim), h.2.2⟩

theorem Own.new (w : World) : Own w (w.alloc (.cells #[.slice none 0 0] 64)) w.heap.size (.slice none 0 0) [] :=
  ⟨Wr.new w, (Turn.refl _ w).alloc _, Nat.le_refl _, fun k h => by cases h⟩

end Go.Proofs.Ytejilonhdgfkbaa

/-
  The document's own reader: its next byte, and that it is no such thing.
-/
namespace Go.Proofs.Ytejilonhdgfkbaa
open Go.RowKit

/-- The document's reader in block q: of bytes m that are left, in the slice u, with fault f. -/
def XRd (w : World) (q B : Nat) (A : Option Addr) (c : Nat) (m : List UInt8) (f : Nat) : Prop :=
  Box w q 80 #[.slice A m.length c, .int .i64 f] ∧ Rd w (.slice A m.length c) m ∧ ((∀ g, (Value.slice A m.length c).ownBlock = some g → g = B) ∧ B ≠ q) ∧ m.length ≤ c ∧ c ≤ maxLen

/-- Behind a call on it. -/
def XM (w : World) (q B : Nat) (w' : World) (m : List UInt8) (f : Nat) : Prop := (∃ A c, XRd w' q B A c m f) ∧ Turn (fun g => g = q) w w'

theorem XM.refl {w : World} {q B : Nat} {A : Option Addr} {c : Nat} {m : List UInt8} {f : Nat} (h : XRd w q B A c m f) : XM w q B w m f := ⟨⟨_, _, h⟩, Turn.refl _ _⟩
theorem XM.trans {a b c : World} {q B : Nat} {m m' : List UInt8} {f f' : Nat} (h : XM a q B b m f) (g : XM b q B c m' f') : XM a q B c m' f' := ⟨g.1, h.2.trans g.2 (fun _ _ t => t)⟩

theorem XRd.fault {w : World} {q B : Nat} {A : Option Addr} {c : Nat} {m : List UInt8} {f : Nat} (h : XRd w q B A c m f) (g : Int) (f' : Nat) (hg : g = f') : XM w q B (w.setCell ⟨q, 1, none⟩ (.int .i64 g)) m f' := by
  subst hg
  obtain ⟨hb, hr, hn, hc⟩ := h
  have t : Turn (fun k => k = q) w (w.setCell ⟨q, 1, none⟩ (.int .i64 f')) := (Turn.refl (fun k => k = q) w).setCell (p := ⟨q, 1, none⟩) (fun _ => rfl) _
  exact ⟨⟨A, c, by simpa using hb.set 1 (.int .i64 (f' : Int)), hr.turn t (fun k hk e => hn.2 ((hn.1 k hk).symm.trans e)), hn, hc⟩, t⟩

/-- The first n bytes. -/
theorem XRd.front {w : World} {q B : Nat} {A : Option Addr} {c : Nat} {m : List UInt8} {f : Nat} (h : XRd w q B A c m f) (n : Nat) (hn : n ≤ m.length) : Rd w (.slice A n c) (m.take n) := by
  exact h.2.1.front n hn

/-- The first n bytes cut off. -/
theorem XRd.cut {w : World} {q B : Nat} {A : Option Addr} {c : Nat} {m : List UInt8} {f : Nat} (h : XRd w q B A c m f) (n : Nat) (hn : n ≤ m.length) (D : Option Addr) (hD : D = if c = n then A else A.map fun x => x.add n) :
    XM w q B (w.setCell ⟨q, 0, none⟩ (.slice D (m.length - n) (c - n))) (m.drop n) f := by
  subst hD
  obtain ⟨hb, hr, hne, hc, hm⟩ := h
  have hl : (m.drop n).length = m.length - n := List.length_drop
  have t : Turn (fun k => k = q) w (w.setCell ⟨q, 0, none⟩ (.slice (if c = n then A else A.map fun x => x.add n) (m.length - n) (c - n))) := (Turn.refl (fun k => k = q) w).setCell (p := ⟨q, 0, none⟩) (fun _ => rfl) _
  have hr' : Rd _ (.slice A m.length c) m := hr.turn t (fun k hk e => hne.2 ((hne.1 k hk).symm.trans e))
  refine ⟨⟨(if c = n then A else A.map fun x => x.add n), c - n, ?_, ?_, ?_, by omega, by omega⟩, t⟩
  · rw [hl]
    simpa using hb.set 0 (.slice (if c = n then A else A.map fun x => x.add n) (m.length - n) (c - n))
  · rw [hl]
    obtain ⟨A', c', e, _, h1, h2⟩ := hr'
    injection e with e1 e2 e3
    subst e1 e3
    by_cases hcn : c = n
    · have e0 : m.drop n = [] := List.drop_eq_nil_of_le (by omega)
      have e4 : m.length - n = 0 := by omega
      rw [e0, e4]
      refine ⟨_, c - n, rfl, ⟨Nat.zero_le _, by omega⟩, fun _ => ⟨rfl, by omega⟩, fun _ _ j b hj => by simp at hj⟩
    · rw [if_neg hcn] at h2 ⊢
      refine ⟨_, c - n, by rw [hl], ⟨by omega, by omega⟩, fun e => ?_, fun ad had j b hj => ?_⟩
      · have h5 : A = none := by simpa using e
        obtain ⟨h6, h7⟩ := h1 h5
        subst h6
        exact ⟨by simp, by omega⟩
      · obtain ⟨ad0, h5, rfl⟩ := Option.map_eq_some_iff.1 had
        rw [add_of_add]
        exact h2 ad0 h5 (n + j) b (by rw [List.getElem?_drop] at hj; exact hj)
  · rw [hl]
    refine ⟨fun g hg => ?_, hne.2⟩
    cases A with
    | none =>
      have : (Value.slice (if c = n then (none : Option Addr) else Option.map (fun x : Addr => x.add n) none) (m.length - n) (c - n)).ownBlock = none := by split <;> rfl
      rw [this] at hg
      cases hg
    | some a =>
      have : (Value.slice (if c = n then some a else Option.map (fun x : Addr => x.add n) (some a)) (m.length - n) (c - n)).ownBlock = some a.block := by
        split
        · rfl
        · simp [Value.ownBlock, add_block]
      rw [this] at hg
      exact hne.1 g hg

set_option maxRecDepth 100000 in
set_option maxHeartbeats 400000 in
theorem xbad_any (q B : Nat) (A : Option Addr) (c : Nat) (m : List UInt8) (w : World) (h : XRd w q B A c m 0) :
    Calls Try.prog 68 #[.pointer (some ⟨q, 0, none⟩)] w fun e w' => e = .returned (.tuple #[]) ∧ XM w q B w' m 4 := by
  have c1 : w.cell? ⟨q, 1, none⟩ = some (.int .i64 0) := h.1.cell 1
  have f1 : w.frozen? ⟨q, 1, none⟩ = false := h.1.free 1
  have HB := Lib.hid (h.fault 4 4 rfl)
  clear h
  go_enter Try.func68, Try.ntmps68
  go_wp2
  go_end0
  exact ⟨rfl, HB.out⟩

set_option maxRecDepth 100000 in
set_option maxHeartbeats 400000 in
theorem xone_bad (q B : Nat) (A : Option Addr) (c : Nat) (m : List UInt8) (f : Nat) (hf : f ≠ 0) (w : World) (h : XRd w q B A c m f) :
    Calls Try.prog 69 #[.pointer (some ⟨q, 0, none⟩)] w fun e w' => e = .returned (.int .i64 0) ∧ w = w' := by
  have c1 : w.cell? ⟨q, 1, none⟩ = some (.int .i64 f) := h.1.cell 1
  have hf2 : (((f : Int) == 0) = false) := by rw [beq_eq_false_iff_ne]; omega
  have hf3 : (((f : Int) != 0) = true) := by rw [bne_iff_ne]; omega
  clear h hf
  go_enter Try.func69, Try.ntmps69
  go_wp2
  go_ret
  exact ⟨rfl, rfl⟩

set_option maxRecDepth 100000 in
set_option maxHeartbeats 400000 in
theorem xone_none (q B : Nat) (A : Option Addr) (c : Nat) (w : World) (h : XRd w q B A c [] 0) :
    Calls Try.prog 69 #[.pointer (some ⟨q, 0, none⟩)] w fun e w' => e = .returned (.int .i64 0) ∧ XM w q B w' [] 3 := by
  have c0 : w.cell? ⟨q, 0, none⟩ = some (.slice A 0 c) := h.1.cell 0
  have c1 : w.cell? ⟨q, 1, none⟩ = some (.int .i64 0) := h.1.cell 1
  have f1 : w.frozen? ⟨q, 1, none⟩ = false := h.1.free 1
  have HB := Lib.hid (h.fault 3 3 rfl)
  clear h
  go_enter Try.func69, Try.ntmps69
  go_wp2
  go_ret
  exact ⟨rfl, HB.out⟩

set_option maxRecDepth 100000 in
set_option maxHeartbeats 400000 in
theorem xone_some (q B : Nat) (A : Option Addr) (c : Nat) (b : UInt8) (m : List UInt8) (w : World) (h : XRd w q B A c (b :: m) 0) :
    Calls Try.prog 69 #[.pointer (some ⟨q, 0, none⟩)] w fun e w' => e = .returned (.int .i64 (b.toNat : Int)) ∧ XM w q B w' m 0 := by
  have c0 : w.cell? ⟨q, 0, none⟩ = some (.slice A (m.length + 1) c) := h.1.cell 0
  have f0 : w.frozen? ⟨q, 0, none⟩ = false := h.1.free 0
  have c1 : w.cell? ⟨q, 1, none⟩ = some (.int .i64 0) := h.1.cell 1
  have hlen : m.length + 1 ≤ c := h.2.2.2.1
  have hmax : c ≤ 9223372036854775807 := by have := h.2.2.2.2; unfold maxLen at this; omega
  have hbyte : b.toNat < 256 := UInt8.toNat_lt b
  obtain ⟨ad, hA, hcell⟩ : ∃ ad, A = some ad ∧ w.cell? ad = some (.int .u8 (b.toNat : Int)) := by
    obtain ⟨A', c', e, _, h1, h2⟩ := h.2.1
    injection e with e1 e2 e3
    subst e1
    cases A with
    | none => exact absurd (h1 rfl).1 (by simp)
    | some ad =>
      refine ⟨ad, rfl, ?_⟩
      have := h2 ad rfl 0 b rfl
      rwa [show ad.add 0 = ad by simp [Addr.add]] at this
  have HC := Lib.hid (h.cut 1 (by simp) _ rfl)
  clear h
  subst hA
  obtain ⟨x, hx⟩ : ∃ x : Nat, x = b.toNat := ⟨_, rfl⟩
  rw [← hx] at hcell hbyte ⊢
  clear hx
  by_cases hc1 : c = 1
  · subst hc1
    have hm0 : m.length = 0 := by omega
    go_enter Try.func69, Try.ntmps69
    go_wp2
    go_ret
    refine ⟨rfl, ?_⟩
    have := HC.out
    simpa [hm0] using this
  · go_enter Try.func69, Try.ntmps69
    go_wp2
    go_ret
    refine ⟨rfl, ?_⟩
    have := HC.out
    simpa [hc1, Addr.add] using this

end Go.Proofs.Ytejilonhdgfkbaa

/-
  A number read by the document's own reader.
-/
namespace Go.Proofs.Ytejilonhdgfkbaa
open Go.RowKit

def XNum (q B : Nat) (m : List UInt8) (w : World) (e : Ending) (w' : World) : Prop :=
  e = .returned (.int .u64 (rdNum m).1) ∧ XM w q B w' (m.drop (rdNum m).2.2) (rdNum m).2.1

theorem xnum_end {q B : Nat} {m : List UInt8} {w w' : World} {val : Int} {t : List UInt8} {f : Nat} {r : Nat × Nat × Nat} (hr : r = rdNum m) (h1 : val = r.1) (h2 : f = r.2.1) (h3 : t = m.drop r.2.2)
    (hm : XM w q B w' t f) : XNum q B m w (.returned (.int .u64 val)) w' := by
  subst h1 h2 h3 hr
  exact ⟨rfl, hm⟩

def XRel (q B : Nat) (m : List UInt8) (w : World) (x3 x4 x5 : Value) (wr : World) (k acc y : Nat) : Prop :=
  x5 = .int .i64 k ∧ k ≤ 10 ∧ (k < 10 → x3 = .int .u64 acc ∧ x4 = .int .u64 y ∧ Hid (acc < 128 ^ k) ∧ Hid (y = 128 ^ k)) ∧ rdF (10 - k) k acc (m.drop k) = rdNum m ∧ XM w q B wr (m.drop k) 0 ∧ k ≤ m.length

theorem rdF_cons (k acc : Nat) (hk : k < 10) (b : UInt8) (t : List UInt8) (x : Nat) (hx : x = b.toNat) :
    rdF (10 - k) k acc (b :: t) = if 128 ≤ x then rdF (10 - (k + 1)) (k + 1) (acc + (x - 128) * 128 ^ k) t
      else if (0 < k ∧ x = 0) ∨ (k = 9 ∧ 1 < x) then (0, 4, k + 1) else (acc + x * 128 ^ k, 0, k + 1) := by
  have e : 10 - k = (10 - (k + 1)) + 1 := by omega
  rw [e]
  subst hx
  rfl

/-- What the product and the sum come to. -/
theorem xmul (x y k : Nat) (hk : k ≤ 9) (hy : y = 128 ^ k) (hd : k < 9 ∨ x % 128 ≤ 1) : IntKind.u64.wrap ((x : Int) % 128 * (y : Int)) = ((x % 128 * y : Nat) : Int) ∧ x % 128 * y ≤ 9223372036854775808 ∧ (k < 9 → x % 128 * y ≤ 127 * y) := by
  have hp := pow_le k hk
  have h1 : x % 128 * y ≤ 9223372036854775808 := by
    subst hy
    rcases hd with h | h
    · have h2 := pow_le (k + 1) (by omega)
      rw [Nat.pow_succ] at h2
      have h3 : x % 128 * 128 ^ k ≤ 127 * 128 ^ k := Nat.mul_le_mul_right _ (by omega)
      omega
    · have h3 : x % 128 * 128 ^ k ≤ 1 * 128 ^ k := Nat.mul_le_mul_right _ h
      omega
  refine ⟨?_, h1, fun _ => Nat.mul_le_mul_right _ (by omega)⟩
  have e : ((x : Int) % 128 * (y : Int)) = ((x % 128 * y : Nat) : Int) := by
    rw [Int.natCast_mul]
    rfl
  rw [e, IntKind.wrap_u64]
  omega

theorem xadd (acc z : Nat) (h1 : acc < 9223372036854775808) (h2 : z ≤ 9223372036854775808) : IntKind.u64.wrap ((acc : Int) + (z : Int)) = ((acc + z : Nat) : Int) := by
  rw [IntKind.wrap_u64]
  omega

theorem xacc (acc k : Nat) (hk : k ≤ 9) (h : acc < 128 ^ k) : acc < 9223372036854775808 := by
  have := pow_le k hk
  omega

theorem xnext {q B : Nat} {m t : List UInt8} {b : UInt8} {w wr w1 : World} {k acc y x z : Nat} {v : Int} (hk : k < 10) (hacc : acc < 128 ^ k) (hy : y = 128 ^ k) (hx : x = b.toNat) (hx2 : x < 256) (h128 : 128 ≤ x) (hz : z = x % 128 * y)
    (hv : k < 9 → v = ((y * 128 : Nat) : Int)) (hm : m.drop k = b :: t) (hrd : rdF (10 - k) k acc (m.drop k) = rdNum m) (h0 : XM w q B wr (m.drop k) 0) (h1 : XM wr q B w1 t 0) :
    ∃ k' acc' y', XRel q B m w (.int .u64 ((acc + z : Nat) : Int)) (.int .u64 v) (.int .i64 ((k : Int) + 1)) w1 k' acc' y' := by
  have hlen : k < m.length := by
    rcases Nat.lt_or_ge k m.length with h | h
    · exact h
    · rw [List.drop_eq_nil_of_le h] at hm
      cases hm
  have ht : t = m.drop (k + 1) := by
    have h2 : m.drop (k + 1) = (m.drop k).drop 1 := by rw [List.drop_drop]
    rw [h2, hm]
    rfl
  refine ⟨k + 1, acc + z, y * 128, by congr 1, by omega, fun h9 => ⟨rfl, by rw [hv (by omega)], ?_, ?_⟩, ?_, ?_, by omega⟩
  · show acc + z < 128 ^ (k + 1)
    have : z ≤ 127 * y := by rw [hz]; exact Nat.mul_le_mul_right _ (by omega)
    rw [Nat.pow_succ]
    omega
  · show y * 128 = 128 ^ (k + 1)
    rw [Nat.pow_succ, hy]
  · rw [← hrd, hm, rdF_cons k acc hk b t x hx, if_pos h128, ← ht, hz, hy, show x % 128 = x - 128 from by omega]
  · rw [← ht]
    exact h0.trans h1

set_option maxRecDepth 100000 in
set_option maxHeartbeats 2000000 in
theorem xnum_any (q B : Nat) (A : Option Addr) (c : Nat) (m : List UInt8) (w : World) (h : XRd w q B A c m 0) :
    Calls Try.prog 53 #[.pointer (some ⟨q, 0, none⟩)] w (XNum q B m w) := by
  have H := Lib.hid h; clear h
  go_enter Try.func53, Try.ntmps53
  go_wp2
  go_loopw [3, 4, 5] (fun x3 x4 x5 wr => ∃ (k acc y : Nat), XRel q B m w x3 x4 x5 wr k acc y) (fun _ _ x5 _ => 10 - (intOf x5).toNat)
  case atStart => exact ⟨0, 0, 1, rfl, by omega, fun _ => ⟨rfl, rfl, by show 0 < 128 ^ 0; simp, by show 1 = 128 ^ 0; simp⟩, rfl, XM.refl H.out, Nat.zero_le _⟩
  case round =>
    obtain ⟨k, acc, y, rfl, hk, hx, hrd, hm, hkl⟩ := hrel
    by_cases h10 : k < 10
    · obtain ⟨rfl, rfl, HA, HY⟩ := hx h10
      have HD := Lib.hid hrd; clear hrd hkl
      obtain ⟨⟨A1, c1, hx1⟩, ht⟩ := hm
      have HM : Hid (XM w q B wr (m.drop k) 0) := ⟨⟨A1, c1, hx1⟩, ht⟩
      clear ht hx
      cases hdr : m.drop k with
      | nil =>
        rw [hdr] at hx1
        have HX := Lib.hid hx1; clear hx1
        have HE : Hid (rdNum m = (0, 3, k)) := by
          show rdNum m = (0, 3, k)
          rw [← HD.out, hdr, show 10 - k = (10 - (k + 1)) + 1 by omega]
          rfl
        have HN := Lib.hid hdr; clear hdr
        go_wp2_with (go_at_call 69; refine (xone_none q B A1 c1 wr HX.out).mono ?_; rintro e w1 ⟨rfl, ⟨⟨A2, c2, hx2⟩, ht2⟩⟩; have cf : w1.cell? ⟨q, 1, none⟩ = some (.int .i64 3) := hx2.1.cell 1; have HX2 : Hid (XM wr q B w1 [] 3) := ⟨⟨A2, c2, hx2⟩, ht2⟩; clear hx2 ht2)
        go_ret
        exact xnum_end HE.out.symm rfl rfl (by rw [HN.out]) (HM.out.trans HX2.out)
      | cons b t =>
        rw [hdr] at hx1
        obtain ⟨x, hx⟩ : ∃ x : Nat, x = b.toNat := ⟨_, rfl⟩
        have hx256 : x < 256 := by rw [hx]; exact UInt8.toNat_lt _
        have HS := Lib.hid (HD.out.symm.trans ((congrArg _ hdr).trans (rdF_cons k acc h10 b t x hx)))
        have HX := Lib.hid (xone_some q B A1 c1 b t wr hx1)
        rw [← hx] at HX
        have HB := Lib.hid hx; clear hx hx1
        have HT : Hid (t = m.drop (k + 1)) := by
          show t = m.drop (k + 1)
          have h2 : m.drop (k + 1) = (m.drop k).drop 1 := by rw [List.drop_drop]
          rw [h2, hdr]
          rfl
        have HN := Lib.hid hdr; clear hdr
        by_cases h128 : 128 ≤ x
        · by_cases h9 : k < 9
          · have hby : IntKind.u64.wrap ((y : Int) * 128) = (y : Int) * 128 := by
              have h1 := pow_le k (by omega)
              have h2 := pow_le (k + 1) (by omega)
              rw [Nat.pow_succ, ← HY.out] at h2
              rw [IntKind.wrap_u64]
              omega
            obtain ⟨z, hz⟩ : ∃ z : Nat, z = x % 128 * y := ⟨_, rfl⟩
            have hw := xmul x y k (by omega) HY.out (by omega)
            have hadd := xadd acc z (xacc acc k (by omega) HA.out) (by rw [hz]; exact hw.2.1)
            have hmul := hw.1
            rw [← hz] at hmul
            have HZ := Lib.hid hz; clear hz hw
            go_wp2_with (go_at_call 69; refine HX.out.mono ?_; rintro e w1 ⟨rfl, ⟨⟨A2, c2, hx2⟩, ht2⟩⟩; have cf : w1.cell? ⟨q, 1, none⟩ = some (.int .i64 0) := hx2.1.cell 1; have HX2 : Hid (XM wr q B w1 t 0) := ⟨⟨A2, c2, hx2⟩, ht2⟩; have HX3 := Lib.hid hx2; clear hx2 ht2)
            go_roundw
            case rel => exact xnext h10 HA.out HY.out HB.out hx256 h128 HZ.out (fun _ => by omega) HN.out HD.out HM.out HX2.out
            case measure => simp [intOf]; omega
          · have h9b : 9 ≤ k := by omega
            by_cases hd : 1 < x % 128
            · have HQ : Hid (rdNum m = (0, 4, k + 1)) := by
                show rdNum m = (0, 4, k + 1)
                rw [HS.out, if_pos h128, show 10 - (k + 1) = 0 by omega]
                rfl
              go_wp2_with (first
                | (go_at_call 69; refine HX.out.mono ?_; rintro e w1 ⟨rfl, ⟨⟨A2, c2, hx2⟩, ht2⟩⟩; have cf : w1.cell? ⟨q, 1, none⟩ = some (.int .i64 0) := hx2.1.cell 1; have HX2 : Hid (XM wr q B w1 t 0) := ⟨⟨A2, c2, hx2⟩, ht2⟩; have HX3 := Lib.hid hx2; clear hx2 ht2)
                | (go_at_call 68; refine (xbad_any q B A2 c2 t w1 HX3.out).mono ?_; rintro e w2 ⟨rfl, hb⟩; have HBD := Lib.hid hb; clear hb))
              go_ret
              exact xnum_end HQ.out.symm rfl rfl HT.out ((HM.out.trans HX2.out).trans HBD.out)
            · have hd1 : x % 128 ≤ 1 := by omega
              clear hd
              obtain rfl : 9 = k := by omega
              obtain ⟨z, hz⟩ : ∃ z : Nat, z = x % 128 * y := ⟨_, rfl⟩
              have hw := xmul x y 9 (by omega) HY.out (by omega)
              have hadd := xadd acc z (xacc acc 9 (by omega) HA.out) (by rw [hz]; exact hw.2.1)
              have hmul := hw.1
              rw [← hz] at hmul
              have HZ := Lib.hid hz; clear hz hw
              go_wp2_with (go_at_call 69; refine HX.out.mono ?_; rintro e w1 ⟨rfl, ⟨⟨A2, c2, hx2⟩, ht2⟩⟩; have cf : w1.cell? ⟨q, 1, none⟩ = some (.int .i64 0) := hx2.1.cell 1; have HX2 : Hid (XM wr q B w1 t 0) := ⟨⟨A2, c2, hx2⟩, ht2⟩; have HX3 := Lib.hid hx2; clear hx2 ht2)
              go_roundw
              case rel => exact xnext h10 HA.out HY.out HB.out hx256 h128 HZ.out (fun h => absurd h (by omega)) HN.out HD.out HM.out HX2.out
              case measure => simp [intOf]
        · have hx128 : x < 128 := by omega
          by_cases h9 : k < 9
          · by_cases hz0 : x % 128 < 1
            · by_cases hk0 : k < 1
              · obtain ⟨z, hz⟩ : ∃ z : Nat, z = x % 128 * y := ⟨_, rfl⟩
                have hw := xmul x y k (by omega) HY.out (by omega)
                have hadd := xadd acc z (xacc acc k (by omega) HA.out) (by rw [hz]; exact hw.2.1)
                have hmul := hw.1
                rw [← hz] at hmul
                have HZ := Lib.hid hz; clear hz hw
                go_wp2_with (go_at_call 69; refine HX.out.mono ?_; rintro e w1 ⟨rfl, ⟨⟨A2, c2, hx2⟩, ht2⟩⟩; have cf : w1.cell? ⟨q, 1, none⟩ = some (.int .i64 0) := hx2.1.cell 1; have HX2 : Hid (XM wr q B w1 t 0) := ⟨⟨A2, c2, hx2⟩, ht2⟩; have HX3 := Lib.hid hx2; clear hx2 ht2)
                go_ret
                refine xnum_end (r := (acc + x * 128 ^ k, 0, k + 1)) (by rw [HS.out, if_neg h128, if_neg (by omega)]) ?_ rfl HT.out (HM.out.trans HX2.out)
                show ((acc : Int) + (z : Int)) = ((acc + x * 128 ^ k : Nat) : Int)
                rw [HZ.out, HY.out, show x % 128 = x from by omega]
                rfl
              · have hk1 : 0 < k := by omega
                obtain ⟨z, hz⟩ : ∃ z : Nat, z = x % 128 * y := ⟨_, rfl⟩
                have hw := xmul x y k (by omega) HY.out (by omega)
                have hadd := xadd acc z (xacc acc k (by omega) HA.out) (by rw [hz]; exact hw.2.1)
                have hmul := hw.1
                rw [← hz] at hmul
                have HZ := Lib.hid hz; clear hz hw
                go_wp2_with (first
                  | (go_at_call 69; refine HX.out.mono ?_; rintro e w1 ⟨rfl, ⟨⟨A2, c2, hx2⟩, ht2⟩⟩; have cf : w1.cell? ⟨q, 1, none⟩ = some (.int .i64 0) := hx2.1.cell 1; have HX2 : Hid (XM wr q B w1 t 0) := ⟨⟨A2, c2, hx2⟩, ht2⟩; have HX3 := Lib.hid hx2; clear hx2 ht2)
                  | (go_at_call 68; refine (xbad_any q B A2 c2 t w1 HX3.out).mono ?_; rintro e w2 ⟨rfl, hb⟩; have HBD := Lib.hid hb; clear hb))
                go_ret
                exact xnum_end (r := (0, 4, k + 1)) (by rw [HS.out, if_neg h128, if_pos (.inl ⟨by omega, by omega⟩)]) rfl rfl HT.out ((HM.out.trans HX2.out).trans HBD.out)
            · have hz1 : 1 ≤ x % 128 := by omega
              clear hz0
              obtain ⟨z, hz⟩ : ∃ z : Nat, z = x % 128 * y := ⟨_, rfl⟩
              have hw := xmul x y k (by omega) HY.out (by omega)
              have hadd := xadd acc z (xacc acc k (by omega) HA.out) (by rw [hz]; exact hw.2.1)
              have hmul := hw.1
              rw [← hz] at hmul
              have HZ := Lib.hid hz; clear hz hw
              go_wp2_with (go_at_call 69; refine HX.out.mono ?_; rintro e w1 ⟨rfl, ⟨⟨A2, c2, hx2⟩, ht2⟩⟩; have cf : w1.cell? ⟨q, 1, none⟩ = some (.int .i64 0) := hx2.1.cell 1; have HX2 : Hid (XM wr q B w1 t 0) := ⟨⟨A2, c2, hx2⟩, ht2⟩; have HX3 := Lib.hid hx2; clear hx2 ht2)
              go_ret
              refine xnum_end (r := (acc + x * 128 ^ k, 0, k + 1)) (by rw [HS.out, if_neg h128, if_neg (by omega)]) ?_ rfl HT.out (HM.out.trans HX2.out)
              show ((acc : Int) + (z : Int)) = ((acc + x * 128 ^ k : Nat) : Int)
              rw [HZ.out, HY.out, show x % 128 = x from by omega]
              rfl
          · have h9b : 9 ≤ k := by omega
            by_cases hd : 1 < x % 128
            · go_wp2_with (first
                | (go_at_call 69; refine HX.out.mono ?_; rintro e w1 ⟨rfl, ⟨⟨A2, c2, hx2⟩, ht2⟩⟩; have cf : w1.cell? ⟨q, 1, none⟩ = some (.int .i64 0) := hx2.1.cell 1; have HX2 : Hid (XM wr q B w1 t 0) := ⟨⟨A2, c2, hx2⟩, ht2⟩; have HX3 := Lib.hid hx2; clear hx2 ht2)
                | (go_at_call 68; refine (xbad_any q B A2 c2 t w1 HX3.out).mono ?_; rintro e w2 ⟨rfl, hb⟩; have HBD := Lib.hid hb; clear hb))
              go_ret
              exact xnum_end (r := (0, 4, k + 1)) (by rw [HS.out, if_neg h128, if_pos (.inr ⟨by omega, by omega⟩)]) rfl rfl HT.out ((HM.out.trans HX2.out).trans HBD.out)
            · have hd1 : x % 128 ≤ 1 := by omega
              clear hd
              by_cases hz0 : x % 128 < 1
              · obtain ⟨z, hz⟩ : ∃ z : Nat, z = x % 128 * y := ⟨_, rfl⟩
                have hw := xmul x y k (by omega) HY.out (by omega)
                have hadd := xadd acc z (xacc acc k (by omega) HA.out) (by rw [hz]; exact hw.2.1)
                have hmul := hw.1
                rw [← hz] at hmul
                have HZ := Lib.hid hz; clear hz hw
                go_wp2_with (first
                  | (go_at_call 69; refine HX.out.mono ?_; rintro e w1 ⟨rfl, ⟨⟨A2, c2, hx2⟩, ht2⟩⟩; have cf : w1.cell? ⟨q, 1, none⟩ = some (.int .i64 0) := hx2.1.cell 1; have HX2 : Hid (XM wr q B w1 t 0) := ⟨⟨A2, c2, hx2⟩, ht2⟩; have HX3 := Lib.hid hx2; clear hx2 ht2)
                  | (go_at_call 68; refine (xbad_any q B A2 c2 t w1 HX3.out).mono ?_; rintro e w2 ⟨rfl, hb⟩; have HBD := Lib.hid hb; clear hb))
                go_ret
                exact xnum_end (r := (0, 4, k + 1)) (by rw [HS.out, if_neg h128, if_pos (.inl ⟨by omega, by omega⟩)]) rfl rfl HT.out ((HM.out.trans HX2.out).trans HBD.out)
              · have hz1 : 1 ≤ x % 128 := by omega
                clear hz0
                obtain ⟨z, hz⟩ : ∃ z : Nat, z = x % 128 * y := ⟨_, rfl⟩
                have hw := xmul x y k (by omega) HY.out (by omega)
                have hadd := xadd acc z (xacc acc k (by omega) HA.out) (by rw [hz]; exact hw.2.1)
                have hmul := hw.1
                rw [← hz] at hmul
                have HZ := Lib.hid hz; clear hz hw
                go_wp2_with (go_at_call 69; refine HX.out.mono ?_; rintro e w1 ⟨rfl, ⟨⟨A2, c2, hx2⟩, ht2⟩⟩; have cf : w1.cell? ⟨q, 1, none⟩ = some (.int .i64 0) := hx2.1.cell 1; have HX2 : Hid (XM wr q B w1 t 0) := ⟨⟨A2, c2, hx2⟩, ht2⟩; have HX3 := Lib.hid hx2; clear hx2 ht2)
                go_ret
                refine xnum_end (r := (acc + x * 128 ^ k, 0, k + 1)) (by rw [HS.out, if_neg h128, if_neg (by omega)]) ?_ rfl HT.out (HM.out.trans HX2.out)
                show ((acc : Int) + (z : Int)) = ((acc + x * 128 ^ k : Nat) : Int)
                rw [HZ.out, HY.out, show x % 128 = x from by omega]
                rfl
    · have e10 : k = 10 := by omega
      subst e10
      have HD := Lib.hid hrd; clear hrd
      obtain ⟨⟨A1, c1, hx1⟩, ht⟩ := hm
      have HM : Hid (XM w q B wr (m.drop 10) 0) := ⟨⟨A1, c1, hx1⟩, ht⟩
      have HX := Lib.hid hx1; clear hx1 ht hx hkl
      go_wp2_with (go_at_call 68; refine (xbad_any q B A1 c1 _ wr HX.out).mono ?_; rintro e w2 ⟨rfl, hb⟩; have HBD := Lib.hid hb; clear hb)
      go_ret
      exact xnum_end HD.out rfl rfl rfl (HM.out.trans HBD.out)

end Go.Proofs.Ytejilonhdgfkbaa

/-
  What else the document's own reader reads.
-/
namespace Go.Proofs.Ytejilonhdgfkbaa
open Go.RowKit

/-- Behind a call on the document's reader: val, and what is left, and the fault; behind a fault nothing. -/
def XPost (q B : Nat) (m : List UInt8) (f : Nat) (w : World) (none val : Value) (t : List UInt8) (f1 : Nat) (e : Ending) (w' : World) : Prop :=
  (f = 0 → e = .returned val ∧ XM w q B w' t f1) ∧ (f ≠ 0 → e = .returned none ∧ XM w q B w' m f)

theorem XPost.ok {q B : Nat} {m : List UInt8} {w : World} {none val : Value} {t : List UInt8} {f1 : Nat} {e : Ending} {w' : World} (h1 : e = .returned val) (h : XM w q B w' t f1) : XPost q B m 0 w none val t f1 e w' :=
  ⟨fun _ => ⟨h1, h⟩, fun n => absurd rfl n⟩
theorem XPost.bad {q B : Nat} {m : List UInt8} {f : Nat} {w : World} {none val : Value} {t : List UInt8} {f1 : Nat} {e : Ending} {w' : World} (hf : f ≠ 0) (h1 : e = .returned none) (h : XM w q B w' m f) : XPost q B m f w none val t f1 e w' :=
  ⟨fun n => absurd n hf, fun _ => ⟨h1, h⟩⟩

set_option maxRecDepth 100000 in
set_option maxHeartbeats 1000000 in
theorem xnum_bad (q B : Nat) (A : Option Addr) (c : Nat) (m : List UInt8) (f : Nat) (hf : f ≠ 0) (w : World) (h : XRd w q B A c m f) :
    Calls Try.prog 53 #[.pointer (some ⟨q, 0, none⟩)] w fun e w' => e = .returned (.int .u64 0) ∧ w = w' := by
  have HX := Lib.hid (xone_bad q B A c m f hf w h)
  have c1 : w.cell? ⟨q, 1, none⟩ = some (.int .i64 f) := h.1.cell 1
  have hf2 : (((f : Int) == 0) = false) := by rw [beq_eq_false_iff_ne]; omega
  have hf3 : (((f : Int) != 0) = true) := by rw [bne_iff_ne]; omega
  clear h hf
  go_enter Try.func53, Try.ntmps53
  go_wp2
  go_loopw [3, 4, 5] (fun x3 x4 x5 wr => x5 = .int .i64 0 ∧ wr = w) (fun _ _ x5 _ => 10 - (intOf x5).toNat)
  case atStart => exact ⟨rfl, rfl⟩
  case round =>
    obtain ⟨rfl, rfl⟩ := hrel
    go_wp2_with (go_at_call 69; refine HX.out.mono ?_; rintro e w1 ⟨rfl, rfl⟩)
    go_ret
    exact ⟨rfl, rfl⟩

theorem xnum (q B : Nat) (A : Option Addr) (c : Nat) (m : List UInt8) (f : Nat) (w : World) (h : XRd w q B A c m f) :
    Calls Try.prog 53 #[.pointer (some ⟨q, 0, none⟩)] w (XPost q B m f w (.int .u64 0) (.int .u64 (rdNum m).1) (m.drop (rdNum m).2.2) (rdNum m).2.1) := by
  by_cases hf : f = 0
  · subst hf
    exact (xnum_any q B A c m w h).mono fun e w' hx => XPost.ok hx.1 hx.2
  · exact (xnum_bad q B A c m f hf w h).mono fun e w' hx => XPost.bad hf hx.1 (hx.2 ▸ XM.refl h)

theorem zag_even (n : Nat) (h : n % 2 < 1) (hn : Hid (n < 18446744073709551616)) : wrap64 (IntKind.u64.wrap ((n : Int) / 2)) = zag n := by
  have a : n < 18446744073709551616 := hn
  rw [IntKind.wrap_u64]
  unfold zag wrap64
  rw [if_pos (by omega)]
  omega
theorem zag_odd (n : Nat) (h : 1 ≤ n % 2) (hn : Hid (n < 18446744073709551616)) : wrap64 (wrap64 (-wrap64 (IntKind.u64.wrap ((n : Int) / 2))) - 1) = zag n := by
  have a : n < 18446744073709551616 := hn
  have e1 : wrap64 (IntKind.u64.wrap ((n : Int) / 2)) = (n : Int) / 2 := by rw [IntKind.wrap_u64]; unfold wrap64; omega
  have e2 : wrap64 (-((n : Int) / 2)) = -((n : Int) / 2) := by unfold wrap64; omega
  rw [e1, e2]
  unfold zag wrap64
  rw [if_neg (by omega)]
  omega

set_option maxRecDepth 100000 in
set_option maxHeartbeats 1000000 in
/-- Int, over whatever Num answers. -/
theorem xint_of (q : Nat) (n : Nat) (hn : Hid (n < 18446744073709551616)) (w : World) (K : World → Prop)
    (h : Calls Try.prog 53 #[.pointer (some ⟨q, 0, none⟩)] w fun e w' => e = .returned (.int .u64 n) ∧ K w') :
    Calls Try.prog 55 #[.pointer (some ⟨q, 0, none⟩)] w fun e w' => e = .returned (.int .i64 (zag n)) ∧ K w' := by
  have H := Lib.hid h; clear h
  by_cases hp : n % 2 < 1
  · have hz := zag_even n hp hn
    go_enter Try.func55, Try.ntmps55
    go_wp2_with (go_at_call 53; refine H.out.mono ?_; rintro e w1 ⟨rfl, hk⟩; have HK := Lib.hid hk; clear hk)
    go_ret
    exact ⟨ret_int hz, HK.out⟩
  · have hp1 : 1 ≤ n % 2 := by omega
    clear hp
    have hz := zag_odd n hp1 hn
    go_enter Try.func55, Try.ntmps55
    go_wp2_with (go_at_call 53; refine H.out.mono ?_; rintro e w1 ⟨rfl, hk⟩; have HK := Lib.hid hk; clear hk)
    go_ret
    exact ⟨ret_int hz, HK.out⟩

theorem xint (q B : Nat) (A : Option Addr) (c : Nat) (m : List UInt8) (f : Nat) (w : World) (h : XRd w q B A c m f) :
    Calls Try.prog 55 #[.pointer (some ⟨q, 0, none⟩)] w (XPost q B m f w (.int .i64 0) (.int .i64 (zag (rdNum m).1)) (m.drop (rdNum m).2.2) (rdNum m).2.1) := by
  by_cases hf : f = 0
  · subst hf
    refine (xint_of q (rdNum m).1 (rdNum_lt m) w _ ((xnum_any q B A c m w h).mono fun e w' hx => hx)).mono fun e w' hx => XPost.ok hx.1 hx.2
  · refine (xint_of q 0 (by show (0 : Nat) < 18446744073709551616; omega) w (fun w' => w = w') ((xnum_bad q B A c m f hf w h).mono fun e w' hx => hx)).mono fun e w' hx => XPost.bad hf (by rw [hx.1, zag_zero]) (hx.2 ▸ XM.refl h)

set_option maxRecDepth 100000 in
set_option maxHeartbeats 1000000 in
theorem xtext (q B : Nat) (A : Option Addr) (c : Nat) (m : List UInt8) (f : Nat) (most : Nat) (hmost : most ≤ 1000000) (w : World) (h : XRd w q B A c m f) :
    Calls Try.prog 54 #[.pointer (some ⟨q, 0, none⟩), .int .i64 most] w (XPost q B m f w (.string ⟨#[]⟩) (.string ⟨(rdText most m).1.toArray⟩) (m.drop (rdText most m).2.2) (rdText most m).2.1) := by
  by_cases hf : f = 0
  · subst hf
    have HN := xnum_any q B A c m w h
    unfold XNum at HN
    have hlen : m.length ≤ 9223372036854775807 := by have := h.2.2.2; unfold maxLen at this; omega
    clear h
    obtain ⟨⟨n, g, k⟩, hr⟩ : ∃ r, r = rdNum m := ⟨_, rfl⟩
    rw [← hr] at HN
    have hE : rdText most m = if g ≠ 0 then ([], g, k) else if most < n then ([], 4, k) else if (m.drop k).length < n then ([], 3, k) else ((m.drop k).take n, 0, k + n) := by
      unfold rdText rdCount
      rw [← hr]
      by_cases hg : g = 0
      · subst hg
        by_cases hm : most < n <;> simp [hm]
      · simp [hg]
    have HE := Lib.hid hE; clear hE hr
    have hlen2 : (m.drop k).length ≤ 9223372036854775807 := by rw [List.length_drop]; omega
    obtain ⟨t, ht⟩ : ∃ t, t = m.drop k := ⟨_, rfl⟩
    simp only [← ht] at HN HE hlen2
    have HTT := Lib.hid ht; clear ht hlen
    have HN2 := Lib.hid HN; clear HN
    by_cases hg : g = 0
    · subst hg
      by_cases hm : most < n
      · go_enter Try.func54, Try.ntmps54
        go_wp2_with (first
          | (go_at_call 53; refine HN2.out.mono ?_; rintro e w1 ⟨rfl, ⟨⟨A2, c2, hx2⟩, ht2⟩⟩; have cf : w1.cell? ⟨q, 1, none⟩ = some (.int .i64 0) := hx2.1.cell 1; have HX2 : Hid (XM w q B w1 t 0) := ⟨⟨A2, c2, hx2⟩, ht2⟩; have HX3 := Lib.hid hx2; clear hx2 ht2)
          | (go_at_call 68; refine (xbad_any q B A2 c2 t w1 HX3.out).mono ?_; rintro e w2 ⟨rfl, hb⟩; have HBD := Lib.hid hb; clear hb))
        go_ret
        rw [HE.out, if_neg (by omega), if_pos hm]
        exact XPost.ok rfl (by rw [← HTT.out]; exact HX2.out.trans HBD.out)
      · by_cases hl : t.length < n
        · go_enter Try.func54, Try.ntmps54
          go_wp2_with (go_at_call 53; refine HN2.out.mono ?_; rintro e w1 ⟨rfl, ⟨⟨A2, c2, hx2⟩, ht2⟩⟩; have cf : w1.cell? ⟨q, 1, none⟩ = some (.int .i64 0) := hx2.1.cell 1; have cg : w1.cell? ⟨q, 0, none⟩ = some (.slice A2 t.length c2) := hx2.1.cell 0; have ff : w1.frozen? ⟨q, 1, none⟩ = false := hx2.1.free 1; have HX2 : Hid (XM w q B w1 t 0) := ⟨⟨A2, c2, hx2⟩, ht2⟩; have HX3 := Lib.hid (hx2.fault 3 3 rfl); clear hx2 ht2)
          go_ret
          rw [HE.out, if_neg (by omega), if_neg hm, if_pos hl]
          exact XPost.ok rfl (by rw [← HTT.out]; exact HX2.out.trans HX3.out)
        · go_enter Try.func54, Try.ntmps54
          go_wp2_with (go_at_call 53; refine HN2.out.mono ?_; rintro e w1 ⟨rfl, ⟨⟨A2, c2, hx2⟩, ht2⟩⟩; have cf : w1.cell? ⟨q, 1, none⟩ = some (.int .i64 0) := hx2.1.cell 1; have cg : w1.cell? ⟨q, 0, none⟩ = some (.slice A2 t.length c2) := hx2.1.cell 0; have fg : w1.frozen? ⟨q, 0, none⟩ = false := hx2.1.free 0; have hc2 : t.length ≤ c2 := hx2.2.2.2.1; have hst := (hx2.front n (by omega)).string; have HX2 : Hid (XM w q B w1 t 0) := ⟨⟨A2, c2, hx2⟩, ht2⟩; have HX3 := Lib.hid (hx2.cut n (by omega) _ rfl); clear hx2 ht2)
          all_goals
            go_ret
            rw [HE.out, if_neg (by omega), if_neg hm, if_neg hl]
            refine XPost.ok rfl ?_
            have h3 := HX2.out.trans HX3.out
            have e : m.drop (k + n) = t.drop n := by rw [HTT.out, List.drop_drop]
            rw [e]
            first | simpa [‹c2 = n›] using h3 | simpa [‹¬ c2 = n›] using h3
    · have hf2 : (((g : Int) == 0) = false) := by rw [beq_eq_false_iff_ne]; omega
      have hf3 : (((g : Int) != 0) = true) := by rw [bne_iff_ne]; omega
      have HG := Lib.hid hg; clear hg
      go_enter Try.func54, Try.ntmps54
      go_wp2_with (go_at_call 53; refine HN2.out.mono ?_; rintro e w1 ⟨rfl, ⟨⟨A2, c2, hx2⟩, ht2⟩⟩; have cf : w1.cell? ⟨q, 1, none⟩ = some (.int .i64 g) := hx2.1.cell 1; have HX2 : Hid (XM w q B w1 t g) := ⟨⟨A2, c2, hx2⟩, ht2⟩; clear hx2 ht2)
      go_ret
      rw [HE.out, if_pos HG.out]
      exact XPost.ok rfl (by rw [← HTT.out]; exact HX2.out)
  · have hf2 : (((f : Int) == 0) = false) := by rw [beq_eq_false_iff_ne]; omega
    have hf3 : (((f : Int) != 0) = true) := by rw [bne_iff_ne]; omega
    have HN := Lib.hid (xnum_bad q B A c m f hf w h)
    have cf : w.cell? ⟨q, 1, none⟩ = some (.int .i64 f) := h.1.cell 1
    have HR := Lib.hid (XM.refl h)
    have HF := Lib.hid hf; clear hf h
    go_enter Try.func54, Try.ntmps54
    go_wp2_with (go_at_call 53; refine HN.out.mono ?_; rintro e w1 ⟨rfl, rfl⟩)
    go_ret
    exact XPost.bad HF.out rfl HR.out

end Go.Proofs.Ytejilonhdgfkbaa

/-
  Stage 9: the document's reader, by its state; its Count.
-/
namespace Go.Proofs.Ytejilonhdgfkbaa
open Go.RowKit

set_option maxRecDepth 100000

theorem rdF_bad : ∀ (k i acc : Nat) (l : List UInt8), (rdF k i acc l).2.1 ≠ 0 → (rdF k i acc l).1 = 0
  | 0, _, _, _, _ => rfl
  | _ + 1, _, _, [], _ => rfl
  | k + 1, i, acc, b :: l, h => by
    unfold rdF at h ⊢
    split
    · rename_i hb
      rw [if_pos hb] at h
      exact rdF_bad k _ _ l h
    · rename_i hb
      rw [if_neg hb] at h
      split
      · rfl
      · rename_i hc
        rw [if_neg hc] at h
        exact absurd rfl h
theorem rdNum_bad {l : List UInt8} (h : (rdNum l).2.1 ≠ 0) : (rdNum l).1 = 0 := rdF_bad 10 0 0 l h

set_option maxHeartbeats 2000000 in
theorem xcount (q B : Nat) (A : Option Addr) (c : Nat) (m : List UInt8) (f : Nat) (most : Nat) (hmost : most ≤ 1000000) (w : World) (h : XRd w q B A c m f) :
    Calls Try.prog 52 #[.pointer (some ⟨q, 0, none⟩), .int .i64 most] w (XPost q B m f w (.int .i64 0) (.int .i64 (rdCount most m).1) (m.drop (rdCount most m).2.2) (rdCount most m).2.1) := by
  have h0m : (0 : Int) ≤ most := by omega
  by_cases hf : f = 0
  · subst hf
    have HN := Lib.hid (xnum_any q B A c m w h)
    unfold XNum at HN
    by_cases hm : most < (rdNum m).1
    · have hg : (rdNum m).2.1 = 0 := by
        by_cases hg : (rdNum m).2.1 = 0
        · exact hg
        · have := rdNum_bad hg; omega
      have he : rdCount most m = (0, 4, (rdNum m).2.2) := by unfold rdCount; rw [if_neg (by omega), if_pos hm]
      have HE := Lib.hid he
      clear he
      rw [hg] at HN
      generalize (rdNum m).1 = n at *
      generalize (rdNum m).2.2 = k at *
      clear h hg
      go_enter Try.func52, Try.ntmps52
      go_wp2_with fail
      refine HN.out.mono ?_
      rintro e w1 ⟨rfl, ⟨⟨A2, c2, hx2⟩, ht2⟩⟩
      have HX2 := Lib.hid hx2
      have HT2 := Lib.hid ht2
      clear hx2 ht2
      go_wp2_with fail
      refine (xbad_any q B A2 c2 _ w1 HX2.out).mono ?_
      rintro e w2 ⟨rfl, hb⟩
      have HB := Lib.hid hb
      clear hb
      go_wp2
      go_ret
      rw [HE.out]
      exact XPost.ok rfl ⟨HB.out.1, HT2.out.trans HB.out.2 (fun _ _ t => t)⟩
    · have he : rdCount most m = ((rdNum m).1, (rdNum m).2.1, (rdNum m).2.2) := by
        unfold rdCount
        by_cases hg : (rdNum m).2.1 = 0
        · rw [if_neg (by omega), if_neg hm, hg]
        · rw [if_pos hg, rdNum_bad hg]
      have HE := Lib.hid he
      clear he
      have hn1 : (rdNum m).1 ≤ most := by omega
      generalize (rdNum m).1 = n at *
      generalize (rdNum m).2.2 = k at *
      generalize (rdNum m).2.1 = g at *
      clear h hm
      go_enter Try.func52, Try.ntmps52
      go_wp2_with fail
      refine HN.out.mono ?_
      rintro e w1 ⟨rfl, hx⟩
      have HX := Lib.hid hx
      clear hx
      go_wp2
      go_ret
      rw [HE.out]
      exact XPost.ok rfl HX.out
  · have HN := Lib.hid (xnum_bad q B A c m f hf w h)
    have HX := Lib.hid h
    clear h
    go_enter Try.func52, Try.ntmps52
    go_wp2_with fail
    refine HN.out.mono ?_
    rintro e w1 ⟨rfl, rfl⟩
    go_wp2
    go_ret
    exact XPost.bad hf rfl (XM.refl HX.out)

/-- A reader's state: the bytes that are left, the fault. -/
abbrev RS9 := List UInt8 × Nat
/-- The document's reader in that state. -/
def XS (w : World) (q B : Nat) (s : RS9) : Prop := ∃ A c, XRd w q B A c s.1 s.2
def sNum (s : RS9) : Nat := if s.2 = 0 then (rdNum s.1).1 else 0
def sNum' (s : RS9) : RS9 := if s.2 = 0 then (s.1.drop (rdNum s.1).2.2, (rdNum s.1).2.1) else s
def sInt (s : RS9) : Int := if s.2 = 0 then zag (rdNum s.1).1 else 0
def sText (s : RS9) : List UInt8 := if s.2 = 0 then (rdText 16 s.1).1 else []
def sText' (s : RS9) : RS9 := if s.2 = 0 then (s.1.drop (rdText 16 s.1).2.2, (rdText 16 s.1).2.1) else s
def sCount (s : RS9) : Nat := if s.2 = 0 then (rdCount 50 s.1).1 else 0
def sCount' (s : RS9) : RS9 := if s.2 = 0 then (s.1.drop (rdCount 50 s.1).2.2, (rdCount 50 s.1).2.1) else s
theorem xs_of {q B : Nat} {s : RS9} {w w' : World} {none val : Value} {t : List UInt8} {f1 : Nat} {e : Ending} (h : XPost q B s.1 s.2 w none val t f1 e w') :
    e = .returned (if s.2 = 0 then val else none) ∧ XS w' q B (if s.2 = 0 then (t, f1) else s) ∧ Turn (fun g => g = q) w w' := by
  by_cases hf : s.2 = 0
  · obtain ⟨h1, h2⟩ := h.1 hf
    rw [if_pos hf, if_pos hf]
    exact ⟨h1, h2.1, h2.2⟩
  · obtain ⟨h1, h2⟩ := h.2 hf
    rw [if_neg hf, if_neg hf]
    exact ⟨h1, h2.1, h2.2⟩
section
variable {q B : Nat} {s : RS9} {w : World}
theorem XS.turn {S : Nat → Prop} {w' : World} (h : XS w q B s) (ht : Turn S w w') (h1 : ¬ S q) (h2 : ¬ S B) : XS w' q B s := by
  obtain ⟨A, c, g1, g2, g3, g4, g5⟩ := h
  exact ⟨A, c, g1.turn ht h1, g2.turn ht (fun b hb e => h2 (g3.1 b hb ▸ e)), g3, g4, g5⟩
theorem XS.later {w' : World} (h : XS w q B s) (ht : Turn (fun _ => False) w w') : XS w' q B s := h.turn ht (fun f => f) (fun f => f)
theorem xs_num (h : XS w q B s) : Calls Try.prog 53 #[.pointer (some ⟨q, 0, none⟩)] w fun e w' => e = .returned (.int .u64 (sNum s : Int)) ∧ XS w' q B (sNum' s) ∧ Turn (fun g => g = q) w w' := by
  obtain ⟨A, c, h⟩ := h
  refine (xnum q B A c s.1 s.2 w h).mono fun e w' hx => ?_
  obtain ⟨h1, h2, h3⟩ := xs_of hx
  refine ⟨?_, h2, h3⟩
  rw [h1]
  unfold sNum
  split <;> rfl
theorem xs_int (h : XS w q B s) : Calls Try.prog 55 #[.pointer (some ⟨q, 0, none⟩)] w fun e w' => e = .returned (.int .i64 (sInt s)) ∧ XS w' q B (sNum' s) ∧ Turn (fun g => g = q) w w' := by
  obtain ⟨A, c, h⟩ := h
  refine (xint q B A c s.1 s.2 w h).mono fun e w' hx => ?_
  obtain ⟨h1, h2, h3⟩ := xs_of hx
  refine ⟨?_, h2, h3⟩
  rw [h1]
  unfold sInt
  split <;> rfl
theorem xs_text (h : XS w q B s) : Calls Try.prog 54 #[.pointer (some ⟨q, 0, none⟩), .int .i64 16] w fun e w' => e = .returned (.string ⟨(sText s).toArray⟩) ∧ XS w' q B (sText' s) ∧ Turn (fun g => g = q) w w' := by
  obtain ⟨A, c, h⟩ := h
  refine (xtext q B A c s.1 s.2 16 (by omega) w h).mono fun e w' hx => ?_
  obtain ⟨h1, h2, h3⟩ := xs_of hx
  refine ⟨?_, h2, h3⟩
  rw [h1]
  unfold sText
  split <;> rfl
theorem xs_count (h : XS w q B s) : Calls Try.prog 52 #[.pointer (some ⟨q, 0, none⟩), .int .i64 50] w fun e w' => e = .returned (.int .i64 (sCount s : Int)) ∧ XS w' q B (sCount' s) ∧ Turn (fun g => g = q) w w' := by
  obtain ⟨A, c, h⟩ := h
  refine (xcount q B A c s.1 s.2 50 (by omega) w h).mono fun e w' hx => ?_
  obtain ⟨h1, h2, h3⟩ := xs_of hx
  refine ⟨?_, h2, h3⟩
  rw [h1]
  unfold sCount
  split <;> rfl
theorem XS.fault (h : XS w q B s) : w.cell? ⟨q, 1, none⟩ = some (.int .i64 (s.2 : Int)) := by
  obtain ⟨A, c, h⟩ := h
  exact h.1.cell 1
theorem XS.left (h : XS w q B s) : ∃ A c, w.cell? ⟨q, 0, none⟩ = some (.slice A s.1.length c) := by
  obtain ⟨A, c, h⟩ := h
  exact ⟨A, c, h.1.cell 0⟩
theorem XS.new {A : Option Addr} {n c : Nat} {l : List UInt8} (h : Rd w (.slice A n c) l) (hB : ∀ g, (Value.slice A n c).ownBlock = some g → g < w.heap.size) :
    ∃ B, (l ≠ [] → B < w.heap.size) ∧ XS (w.alloc (.cells #[.slice A n c, .int .i64 0] 80)) w.heap.size B (l, 0) := by
  obtain ⟨e1, h2, h3⟩ := h.fits
  subst e1
  refine ⟨((Value.slice A l.length c).ownBlock).getD (w.heap.size + 1), fun hl => ?_, A, c, Box.new w _ _, h.later ((Turn.refl _ w).alloc _), ⟨fun g hg => by rw [hg]; rfl, ?_⟩, h2, h3⟩
  · cases hA : (Value.slice A l.length c).ownBlock with
    | none =>
      have hA' : A = none := by
        cases A with
        | none => rfl
        | some a => simp [Value.ownBlock] at hA
      subst hA'
      obtain ⟨ad, e⟩ := h.some_at (List.length_pos_iff.2 hl)
      cases e
    | some g => exact hB g hA
  · cases hA : (Value.slice A l.length c).ownBlock with
    | none => show w.heap.size + 1 ≠ w.heap.size; omega
    | some g => have := hB g hA; show g ≠ _; omega
end

end Go.Proofs.Ytejilonhdgfkbaa

/-
  Stage 9: the document's Read.
-/
namespace Go.Proofs.Ytejilonhdgfkbaa
open Go.RowKit

set_option maxRecDepth 100000

/-- The texts that are read into a key; a fact; all facts. -/
def textsK (k0 : K9) (s : RS9) : Nat → K9 × RS9
  | 0 => (k0, s)
  | i + 1 => ((textsK k0 s i).1.put i (sText (textsK k0 s i).2), sText' (textsK k0 s i).2)
def oneF (n h : Nat) (s : RS9) : F9 × RS9 := (⟨(textsK ⟨h, [], [], [], []⟩ s n).1, sInt (textsK ⟨h, [], [], [], []⟩ s n).2⟩, sNum' (textsK ⟨h, [], [], [], []⟩ s n).2)
def readR (n : Nat) : Nat → RS9 → List F9 → Int × List F9
  | 0, s, out => if s.2 ≠ 0 then ((s.2 : Int), []) else if 0 < s.1.length then (4, []) else if (allB out n).1 ≠ 0 then ((allB out n).1, []) else (0, out)
  | i + 1, s, out => if 16777216 < sNum s then (2, []) else if (oneF n (sNum s) (sNum' s)).2.2 ≠ 0 then (((oneF n (sNum s) (sNum' s)).2.2 : Int), []) else readR n i (oneF n (sNum s) (sNum' s)).2 (out ++ [(oneF n (sNum s) (sNum' s)).1])
def readB (m : List UInt8) (n : Int) : Int × List F9 := if okDims n then readR n.toNat (sCount (m, 0)) (sCount' (m, 0)) [] else (1, [])
/-- Behind Read: the facts, or none. -/
def Readed (w : World) (m : List UInt8) (n : Int) (e : Ending) (w' : World) : Prop := ∃ v, e = .returned (.tuple #[v, .int .i64 (readB m n).1]) ∧ RdE EF w' v (readB m n).2 ∧ Turn (fun _ => False) w w'

/-- A fact's cells, in the block that a round has made. -/
abbrev cells9 (k : K9) (v : Int) : Array Value := #[.int .i64 k.h, sv9 k.a, sv9 k.b, sv9 k.c, sv9 k.d, .int .i64 v]
structure In9 (w : World) (q B b : Nat) (x8 : Value) (out : List F9) (k : K9) (v : Int) (s : RS9) (W : World) : Prop where
  box : Box W b 33 (cells9 k v)
  xs : XS W q B s
  new : NewE EF 33 w W x8 out
  ob : ∀ k, x8.ownBlock = some k → k ≠ b ∧ k ≠ q
  lo : w.heap.size ≤ q ∧ w.heap.size ≤ b ∧ b ≠ q
  hB : B < w.heap.size
section
variable {w W W2 : World} {q B b : Nat} {x8 : Value} {out : List F9} {k : K9} {v : Int} {s s2 : RS9}
theorem new_over {S : Nat → Prop} (h : NewE EF 33 w W x8 out) (ht : Turn S W W2) (h1 : ∀ k, x8.ownBlock = some k → ¬ S k) (h2 : ∀ k, S k → w.heap.size ≤ k) : NewE EF 33 w W2 x8 out :=
  ⟨h.own.turn ht h1, h.new, h.turn.trans ht (fun k hk e => by have := h2 k e; omega)⟩
theorem In9.read (h : In9 w q B b x8 out k v s W) (hx : XS W2 q B s2) (ht : Turn (fun g => g = q) W W2) : In9 w q B b x8 out k v s2 W2 :=
  ⟨h.box.turn ht h.lo.2.2, hx, new_over h.new ht (fun k hk e => (h.ob k hk).2 e) (fun k e => by have := h.lo.1; omega), h.ob, h.lo, h.hB⟩
theorem In9.set (h : In9 w q B b x8 out k v s W) (i : Nat) (u : Value) {k2 : K9} {v2 : Int} (hc : (cells9 k v).setIfInBounds i u = cells9 k2 v2) : In9 w q B b x8 out k2 v2 s (W.setCell ⟨b, i, none⟩ u) := by
  have ht : Turn (fun g => g = b) W (W.setCell ⟨b, i, none⟩ u) := Turn.setCell (S := fun g => g = b) (p := ⟨b, i, none⟩) (Turn.refl _ W) (fun _ => rfl) u
  refine ⟨?_, h.xs.turn ht (fun e => h.lo.2.2 e.symm) (fun e => by have := h.lo.2.1; have := h.hB; omega), new_over h.new ht (fun k hk e => (h.ob k hk).1 e) (fun k e => by have := h.lo.2.1; omega), h.ob, h.lo, h.hB⟩
  rw [← hc]
  exact h.box.set i u
theorem put_cells9 (k : K9) (v : Int) {i : Nat} (hi : i < 4) (t : List UInt8) : (cells9 k v).setIfInBounds (1 + i) (sv9 t) = cells9 (k.put i t) v := by
  match i, hi with
  | 0, _ => rfl
  | 1, _ => rfl
  | 2, _ => rfl
  | 3, _ => rfl
end

theorem wpList_facts9 (w : World) {ops : Array Oper} {rest : List Oper} {o : Oper} {a : Act} {Q : Exit → Act → World → Prop} (hgd : o.guard = none) (s x : Operand)
    (ho : o.op = .call { callee := .builtin .append, args := #[s, x], argTypes := #[28, 28] }) (v : Value) (l : List F9) (hs : a.eval s = v) (hown : OwE EF 33 w v l)
    (y : Value) (hx : a.eval x = y) (m : List F9) (hy : RdE EF w y m) (hl : l.length + m.length ≤ 1000000)
    (h : ∀ A n c w', OwE EF 33 w' (.slice A n c) (l ++ m) → Turn (fun k => v.ownBlock = some k) w w' → ((Value.slice A n c).ownBlock = v.ownBlock ∨ (Value.slice A n c).ownBlock = some w.heap.size) → wpList Try.prog ops Q rest (a.put o.dst (.slice A n c)) w') :
    wpList Try.prog ops Q (o :: rest) a w :=
  wpList_appE Try.underlying28 fact_info fact_zero w hgd s x _ ho v l hs hown y hx m (hy.src Try.underlying28) (by simp only [maxLen]; omega) (by omega) h

set_option maxHeartbeats 8000000 in
theorem ref_read9 (u : Value) (m : List UInt8) (n : Int) (w : World) (hv : Rd w u m) (hB : ∀ g, u.ownBlock = some g → g < w.heap.size) : Calls Try.prog 27 #[u, .int .i64 n] w fun e w' => Readed w m n e w' := by
  obtain ⟨A, c, rfl⟩ := hv.shape
  by_cases hn : 1 ≤ n ∧ n ≤ 4
  · obtain ⟨n1, n4⟩ := hn
    obtain ⟨N, rfl⟩ := Int.eq_ofNat_of_zero_le (show 0 ≤ n by omega)
    obtain ⟨B, hBl, hx⟩ := XS.new hv hB
    have HX := Lib.hid hx
    have HBL := Lib.hid hBl
    have HSPEC : Hid (readB m (N : Int) = readR N (sCount (m, 0)) (sCount' (m, 0)) []) := by
      have e : okDims (N : Int) = true := by unfold okDims; simp [n1, n4]
      show readB m (N : Int) = _
      unfold readB
      rw [e, Int.toNat_natCast]
      rfl
    have hC50 : sCount (m, 0) ≤ 50 := by
      unfold sCount rdCount
      simp only [if_true]
      split
      · exact Nat.zero_le _
      · split
        · exact Nat.zero_le _
        · omega
    have HCM : Hid (0 < sCount (m, 0) → m ≠ []) := fun h e => by rw [e] at h; exact absurd h (by decide)
    have hN4 : N ≤ 4 := by omega
    clear hx hBl hB hv
    go_enter Try.func27, Try.ntmps27
    go_wp2_with fail
    refine (xs_count HX.out).mono ?_
    rintro e w2 ⟨rfl, h2, t2⟩
    generalize sCount (m, 0) = C at *
    generalize sCount' (m, 0) = s0 at *
    have H2 := Lib.hid h2
    have HN0 : Hid (NewE EF 33 w w2 (.slice none 0 0) []) := ⟨OwE.nil _, (fun k e => by simp [Value.ownBlock] at e), ((Turn.refl _ w).alloc _).trans t2 (fun k hk e => by omega)⟩
    clear h2 t2
    go_wp2_with fail
    generalize hq : w.heap.size = q at *
    go_loopw [8, 9] (fun x8 x9 wr => ∃ i s out, x9 = .int .i64 ((i : Nat) : Int) ∧ i ≤ C ∧ out.length = i ∧ NewE EF 33 w wr x8 out ∧ XS wr q B s ∧ readB m (N : Int) = readR N (C - i) s out) (fun _ x9 _ => C - (intOf x9).toNat)
    case atStart => exact ⟨0, s0, [], rfl, Nat.zero_le _, rfl, HN0.out, H2.out, HSPEC.out⟩
    case round =>
      obtain ⟨i, s, out, rfl, hi, ho, hnew, hxs, hsp⟩ := hrel
      have HNW := Lib.hid hnew
      have HXS := Lib.hid hxs
      have HSP := Lib.hid hsp
      obtain ⟨A8, c8, hv8⟩ := hnew.own.shape
      rw [ho] at hv8
      subst hv8
      have HO := Lib.hid ho
      clear hnew hxs hsp ho
      by_cases hlt : i < C
      · have hil : (i : Int) < C := by omega
        have HBW : Hid (B < q) := HBL.out (HCM.out (by omega))
        go_wp2_with fail
        refine (xs_num HXS.out).mono ?_
        rintro e w3 ⟨rfl, h3, t3⟩
        have H3 := Lib.hid h3
        have HT3 := Lib.hid t3
        clear h3 t3
        by_cases hbig : 16777216 < sNum s
        · have HE : Hid (readB m (N : Int) = (2, [])) := by
            rw [HSP.out, show C - i = (C - (i + 1)) + 1 by omega]
            show readR _ _ _ _ = _
            unfold readR
            rw [if_pos hbig]
          go_wp2
          go_ret2
          exact ⟨.slice none 0 0, by rw [HE.out]; rfl, by rw [HE.out]; exact RdE.nil _, HNW.out.turn.trans HT3.out (fun k hk e => by omega)⟩
        · have hbig' : ((sNum s : Nat) : Int) ≤ 16777216 := by omega
          have HNB := Lib.hid hbig
          go_wp2_with fail
          have hin : In9 w q B w3.heap.size (.slice A8 i c8) out ⟨(sNum s : Int), [], [], [], []⟩ 0 (sNum' s) (w3.alloc (.cells #[.int .i64 (sNum s : Int), .string ⟨#[]⟩, .string ⟨#[]⟩, .string ⟨#[]⟩, .string ⟨#[]⟩, .int .i64 0] 33)) := by
            have ht3a := (Turn.refl (fun _ => False) w3).alloc (.cells #[.int .i64 (sNum s : Int), .string ⟨#[]⟩, .string ⟨#[]⟩, .string ⟨#[]⟩, .string ⟨#[]⟩, .int .i64 0] 33)
            obtain ⟨AX, cX, hX⟩ := HXS.out
            have hnq : ∀ k, (Value.slice A8 i c8).ownBlock = some k → k ≠ q := fun k hk e => HNW.out.own.not_box hX.1 (by decide) (e ▸ hk)
            have hq3 : q < w3.heap.size := Nat.lt_of_lt_of_le hX.1.lt HT3.out.size
            refine ⟨Box.new w3 _ _, H3.out.later ht3a, (new_over HNW.out HT3.out hnq (fun k e => by omega)).later ht3a, fun k hk => ⟨?_, hnq k hk⟩, ⟨by omega, ?_, by omega⟩, by rw [hq]; exact HBW.out⟩
            · have := HNW.out.own.lt hk
              have := HT3.out.size
              omega
            · have := HNW.out.turn.size
              have := HT3.out.size
              omega
          generalize hb : w3.heap.size = b at *
          generalize w3.alloc (.cells #[.int .i64 (sNum s : Int), .string ⟨#[]⟩, .string ⟨#[]⟩, .string ⟨#[]⟩, .string ⟨#[]⟩, .int .i64 0] 33) = w4 at *
          have HIN := Lib.hid hin
          clear hin hb H3 HT3
          go_loopw [12] (fun x12 wk => ∃ k : Nat, x12 = .int .i64 (k : Int) ∧ k ≤ N ∧ In9 w q B b (.slice A8 i c8) out (textsK ⟨(sNum s : Int), [], [], [], []⟩ (sNum' s) k).1 0 (textsK ⟨(sNum s : Int), [], [], [], []⟩ (sNum' s) k).2 wk) (fun x12 _ => N - (intOf x12).toNat)
          case atStart => exact ⟨0, rfl, Nat.zero_le _, HIN.out⟩
          case round =>
            clear HIN
            obtain ⟨k, rfl, hk, hm⟩ := hrel
            have HM := Lib.hid hm
            clear hm
            by_cases hkN : k < N
            · have hki : (k : Int) < N := by omega
              have hk4 : (k : Int) < 4 := by omega
              have HST : Hid (textsK ⟨(sNum s : Int), [], [], [], []⟩ (sNum' s) (k + 1) = ((textsK ⟨(sNum s : Int), [], [], [], []⟩ (sNum' s) k).1.put k (sText (textsK ⟨(sNum s : Int), [], [], [], []⟩ (sNum' s) k).2), sText' (textsK ⟨(sNum s : Int), [], [], [], []⟩ (sNum' s) k).2)) := rfl
              generalize textsK ⟨(sNum s : Int), [], [], [], []⟩ (sNum' s) k = kk at *
              go_wp2_with fail
              refine (xs_text HM.out.xs).mono ?_
              rintro e w5 ⟨rfl, h5, t5⟩
              have hm5 := HM.out.read h5 t5
              have HM5 := Lib.hid hm5
              have e1 := dim_cell (o := 1) (k := kk.1) hm5.box (fact_cells (f := ⟨kk.1, 0⟩)) k (by omega)
              have f1 := hm5.box.free (1 + k)
              unfold sv9 at e1
              clear h5 t5 hm5
              have hm6 := HM5.out.set (1 + k) (sv9 (sText kk.2)) (put_cells9 kk.1 0 (by omega) (sText kk.2))
              have HM6 := Lib.hid hm6
              clear hm6
              generalize sText kk.2 = T at *
              go_wp2_with fail
              go_roundw
              case rel => exact ⟨k + 1, by go_num, hkN, by rw [HST.out]; exact HM6.out⟩
              case measure => simp [intOf]; omega
            · obtain rfl : k = N := by omega
              have HONE : Hid (oneF k (sNum s) (sNum' s) = (⟨(textsK ⟨(sNum s : Int), [], [], [], []⟩ (sNum' s) k).1, sInt (textsK ⟨(sNum s : Int), [], [], [], []⟩ (sNum' s) k).2⟩, sNum' (textsK ⟨(sNum s : Int), [], [], [], []⟩ (sNum' s) k).2)) := rfl
              have HNX : Hid (readB m (k : Int) = if (oneF k (sNum s) (sNum' s)).2.2 ≠ 0 then (((oneF k (sNum s) (sNum' s)).2.2 : Int), []) else readR k (C - (i + 1)) (oneF k (sNum s) (sNum' s)).2 (out ++ [(oneF k (sNum s) (sNum' s)).1])) := by
                rw [HSP.out, show C - i = (C - (i + 1)) + 1 by omega]
                show readR _ _ _ _ = _
                conv => lhs; unfold readR
                rw [if_neg HNB.out]
              rw [HONE.out] at HNX
              clear HONE HSP
              generalize textsK ⟨(sNum s : Int), [], [], [], []⟩ (sNum' s) k = kk at *
              go_wp2_with fail
              refine (xs_int HM.out.xs).mono ?_
              rintro e w5 ⟨rfl, h5, t5⟩
              have hm5 := HM.out.read h5 t5
              have f1 := hm5.box.free 5
              have e1 := hm5.box.cell 5
              have HM5 := Lib.hid hm5
              clear h5 t5 hm5
              generalize sInt kk.2 = V at *
              have hm6 := HM5.out.set 5 (.int .i64 V) (k2 := kk.1) (v2 := V) rfl
              have HM6 := Lib.hid hm6
              have e6 := hm6.xs.fault
              have b0 := hm6.box.cell 0
              have b1 := hm6.box.cell 1
              have b2 := hm6.box.cell 2
              have b3 := hm6.box.cell 3
              have b4 := hm6.box.cell 4
              have b5 := hm6.box.cell 5
              clear hm6
              by_cases hf : (sNum' kk.2).2 = 0
              · have HNX2 : Hid (readB m (k : Int) = readR k (C - (i + 1)) (sNum' kk.2) (out ++ [⟨kk.1, V⟩])) := HNX.out.trans (if_neg (by simp [hf]))
                rw [hf] at e6
                have hn7 := HM6.out.new.alloc (.cells #[.int .i64 kk.1.h, sv9 kk.1.a, sv9 kk.1.b, sv9 kk.1.c, sv9 kk.1.d, .int .i64 V] 33)
                have HN7 := Lib.hid hn7
                have hxs7 := HM6.out.xs.later ((Turn.refl (fun _ => False) (w5.setCell ⟨b, 5, none⟩ (.int .i64 V))).alloc (.cells #[.int .i64 kk.1.h, sv9 kk.1.a, sv9 kk.1.b, sv9 kk.1.c, sv9 kk.1.d, .int .i64 V] 33))
                have HXS7 := Lib.hid hxs7
                have hsr := one_row EF 33 (w5.setCell ⟨b, 5, none⟩ (.int .i64 V)) ⟨kk.1, V⟩
                rw [show (w5.setCell ⟨b, 5, none⟩ (.int .i64 V)).heap.size = w5.heap.size by simp [World.setCell]] at hsr
                have HSR := Lib.hid hsr
                clear hsr
                have HLO : Hid (∀ g, (Value.slice A8 i c8).ownBlock = some g → g ≠ q ∧ g ≠ B) := fun g hg => ⟨(HM6.out.ob g hg).2, fun e => by have := HM6.out.new.new g hg; have := HBW.out; omega⟩
                have ho := HO.out
                clear hn7 hxs7
                go_wp2_with (at_builtin; refine wpList_facts9 _ rfl _ _ rfl _ _ rfl HN7.out.own _ rfl [⟨kk.1, V⟩] HSR.out (by simp only [List.length_cons, List.length_nil]; omega) ?_; intro A3 n3 c3 w7 ho7 ht7 hn7; have HN8 := Lib.hid (HN7.out.step ho7 ht7 hn7); have HX8 := Lib.hid (HXS7.out.turn ht7 (fun e => (HLO.out _ e).1 rfl) (fun e => (HLO.out _ e).2 rfl)); clear ho7 ht7 hn7)
                go_roundw
                case rel => exact ⟨i + 1, _, _, by go_num, hlt, by rw [List.length_append, HO.out]; rfl, HN8.out, HX8.out, HNX2.out⟩
                case measure => simp [intOf]; omega
              · have HNX2 : Hid (readB m (k : Int) = (((sNum' kk.2).2 : Int), [])) := HNX.out.trans (if_pos hf)
                have hf2 : (((sNum' kk.2).2 : Int) == 0) = false := by rw [beq_eq_false_iff_ne]; omega
                have HTF : Hid (Turn (fun _ => False) w (w5.setCell ⟨b, 5, none⟩ (.int .i64 V))) := HM6.out.new.turn
                go_wp2_with fail
                go_quiet (fail)
                go_wp2
                go_ret2
                exact ⟨.slice none 0 0, by rw [HNX2.out]; rfl, by rw [HNX2.out]; exact RdE.nil _, HTF.out.drewN _⟩
      · obtain rfl : i = C := by omega
        have hnd : readB m (N : Int) = if s.2 ≠ 0 then ((s.2 : Int), []) else if 0 < s.1.length then (4, []) else if (allB out N).1 ≠ 0 then ((allB out N).1, []) else (0, out) := by
          rw [HSP.out, Nat.sub_self]
          rfl
        have HALL := Lib.hid (ref_all9 (.slice A8 i c8) out (N : Int) wr HNW.out.own.rd (by rw [HO.out]; omega))
        have e1 := HXS.out.fault
        obtain ⟨AL, cL, e0⟩ := HXS.out.left
        clear HSP
        by_cases hf : s.2 = 0
        · rw [if_neg (by simp [hf])] at hnd
          rw [hf] at e1
          by_cases hlen : 0 < s.1.length
          · rw [if_pos hlen] at hnd
            have HND := Lib.hid hnd
            have hli : (0 : Int) < s.1.length := by omega
            clear hnd
            go_wp2
            go_ret2
            exact ⟨.slice none 0 0, by rw [HND.out]; rfl, by rw [HND.out]; exact RdE.nil _, HNW.out.turn⟩
          · rw [if_neg hlen] at hnd
            have hl0 : s.1.length = 0 := by omega
            have HND := Lib.hid hnd
            rw [hl0] at e0
            clear hnd hlen
            by_cases ha : (allB out N).1 = 0
            · have hag := (all_good ha).2.2.2
              unfold allV at HALL
              rw [hag] at HALL HND
              clear ha hag
              go_wp2_with fail
              refine HALL.out.mono ?_
              rintro e w9 ⟨rfl, t9⟩
              have HT9 := Lib.hid t9
              clear t9
              have HFIN : Hid (readB m (N : Int) = (0, out)) := HND.out
              have HRD : Hid (RdE EF w9 (.slice A8 i c8) out) := HNW.out.own.rd.later HT9.out
              have HTF : Hid (Turn (fun _ => False) w w9) := HNW.out.turn.trans HT9.out (fun _ _ f => f)
              go_wp2
              go_ret2
              exact ⟨.slice A8 i c8, by rw [HFIN.out]; rfl, by rw [HFIN.out]; exact HRD.out, HTF.out⟩
            · have HFIN : Hid (readB m (N : Int) = ((allB out N).1, [])) := HND.out.trans (if_pos ha)
              have hne : ((allB out N).1 == 0) = false := by simpa using ha
              unfold allV at HALL
              clear ha HND
              generalize (allB out N).1 = a at *
              generalize (allB out N).2 = b at *
              go_wp2_with fail
              refine HALL.out.mono ?_
              rintro e w9 ⟨rfl, t9⟩
              have HTF : Hid (Turn (fun _ => False) w w9) := HNW.out.turn.trans t9 (fun _ _ f => f)
              clear t9
              go_wp2
              go_ret2
              exact ⟨.slice none 0 0, by rw [HFIN.out]; rfl, by rw [HFIN.out]; exact RdE.nil _, HTF.out⟩
        · rw [if_pos hf] at hnd
          have HND := Lib.hid hnd
          have hf2 : ((s.2 : Int) == 0) = false := by rw [beq_eq_false_iff_ne]; omega
          clear hnd
          go_wp2_with fail
          go_quiet (fail)
          go_wp2
          go_ret2
          exact ⟨.slice none 0 0, by rw [HND.out]; rfl, by rw [HND.out]; exact RdE.nil _, HNW.out.turn.drewN _⟩
  · have e : readB m n = (1, []) := by
      unfold readB
      rw [if_neg (by unfold okDims; simpa using hn)]
    have HE := Lib.hid e
    clear e hv hB
    by_cases n1 : n < 1
    · clear hn
      go_enter Try.func27, Try.ntmps27
      go_wp2_with fail
      go_ret2
      exact ⟨.slice none 0 0, by rw [HE.out]; rfl, by rw [HE.out]; exact RdE.nil _, Turn.refl _ w⟩
    · have n2 : 4 < n := by omega
      clear hn
      go_enter Try.func27, Try.ntmps27
      go_wp2_with fail
      go_ret2
      exact ⟨.slice none 0 0, by rw [HE.out]; rfl, by rw [HE.out]; exact RdE.nil _, Turn.refl _ w⟩

end Go.Proofs.Ytejilonhdgfkbaa
