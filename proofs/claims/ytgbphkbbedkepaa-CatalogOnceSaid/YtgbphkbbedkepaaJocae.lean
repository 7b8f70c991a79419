/-
  Texts laid one behind the other: Ra Rb Rc Zl R2a R2b Ka Kb.
-/
import Derived.Test.YtgbphkbbedkepaaJocad
import Derived.Test.YtgbphkbbedkepaaJocaa
import Derived.Test.YtgbphkbbedkepaaJocab
import Derived.Lib.MinMax
import Derived.BigQuiet

/-
  The document's own reader: its next byte, and that it is no such thing.
-/
namespace Go.Proofs.Ytgbphkbbedkepaa
open Go.RowKit

end Go.Proofs.Ytgbphkbbedkepaa

/-
  A number read by the document's own reader.
-/
namespace Go.Proofs.Ytgbphkbbedkepaa
open Go.RowKit

theorem rdF_cons (k acc : Nat) (hk : k < 10) (b : UInt8) (t : List UInt8) (x : Nat) (hx : x = b.toNat) :
    rdF (10 - k) k acc (b :: t) = if 128 ≤ x then rdF (10 - (k + 1)) (k + 1) (acc + (x - 128) * 128 ^ k) t
      else if (0 < k ∧ x = 0) ∨ (k = 9 ∧ 1 < x) then (0, 4, k + 1) else (acc + x * 128 ^ k, 0, k + 1) := by
  have e : 10 - k = (10 - (k + 1)) + 1 := by omega
  rw [e]
  subst hx
  rfl

/-- What the product and the sum come to. -/
theorem xmul (x y k : Nat) (hk : k ≤ 9) (hy : y = 128 ^ k) (hd : k < 9 ∨ x % 128 ≤ 1) : IntKind.u64.wrap ((x : Int) % 128 * (y : Int)) = ((x % 128 * y : Nat) : Int) ∧ x % 128 * y ≤ 9223372036854775808 ∧ (k < 9 → x % 128 * y ≤ 127 * y) := by
  have hp := pow_le k hk
  have h1 : x % 128 * y ≤ 9223372036854775808 := by
    subst hy
    rcases hd with h | h
    · have h2 := pow_le (k + 1) (by omega)
      rw [Nat.pow_succ] at h2
      have h3 : x % 128 * 128 ^ k ≤ 127 * 128 ^ k := Nat.mul_le_mul_right _ (by omega)
      omega
    · have h3 : x % 128 * 128 ^ k ≤ 1 * 128 ^ k := Nat.mul_le_mul_right _ h
      omega
  refine ⟨?_, h1, fun _ => Nat.mul_le_mul_right _ (by omega)⟩
  have e : ((x : Int) % 128 * (y : Int)) = ((x % 128 * y : Nat) : Int) := by
    rw [Int.natCast_mul]
    rfl
  rw [e, IntKind.wrap_u64]
  omega

theorem xadd (acc z : Nat) (h1 : acc < 9223372036854775808) (h2 : z ≤ 9223372036854775808) : IntKind.u64.wrap ((acc : Int) + (z : Int)) = ((acc + z : Nat) : Int) := by
  rw [IntKind.wrap_u64]
  omega

theorem xacc (acc k : Nat) (hk : k ≤ 9) (h : acc < 128 ^ k) : acc < 9223372036854775808 := by
  have := pow_le k hk
  omega

end Go.Proofs.Ytgbphkbbedkepaa

/-
  What else the document's own reader reads.
-/
namespace Go.Proofs.Ytgbphkbbedkepaa
open Go.RowKit

theorem zag_even (n : Nat) (h : n % 2 < 1) (hn : Hid (n < 18446744073709551616)) : wrap64 (IntKind.u64.wrap ((n : Int) / 2)) = zag n := by
  have a : n < 18446744073709551616 := hn
  rw [IntKind.wrap_u64]
  unfold zag wrap64
  rw [if_pos (by omega)]
  omega
theorem zag_odd (n : Nat) (h : 1 ≤ n % 2) (hn : Hid (n < 18446744073709551616)) : wrap64 (wrap64 (-wrap64 (IntKind.u64.wrap ((n : Int) / 2))) - 1) = zag n := by
  have a : n < 18446744073709551616 := hn
  have e1 : wrap64 (IntKind.u64.wrap ((n : Int) / 2)) = (n : Int) / 2 := by rw [IntKind.wrap_u64]; unfold wrap64; omega
  have e2 : wrap64 (-((n : Int) / 2)) = -((n : Int) / 2) := by unfold wrap64; omega
  rw [e1, e2]
  unfold zag wrap64
  rw [if_neg (by omega)]
  omega

end Go.Proofs.Ytgbphkbbedkepaa

/-
  Stage 9: the document's reader, by its state; its Count.
-/
namespace Go.Proofs.Ytgbphkbbedkepaa
open Go.RowKit

set_option maxRecDepth 100000

theorem rdF_bad : ∀ (k i acc : Nat) (l : List UInt8), (rdF k i acc l).2.1 ≠ 0 → (rdF k i acc l).1 = 0
  | 0, _, _, _, _ => rfl
  | _ + 1, _, _, [], _ => rfl
  | k + 1, i, acc, b :: l, h => by
    unfold rdF at h ⊢
    split
    · rename_i hb
      rw [if_pos hb] at h
      exact rdF_bad k _ _ l h
    · rename_i hb
      rw [if_neg hb] at h
      split
      · rfl
      · rename_i hc
        rw [if_neg hc] at h
        exact absurd rfl h
theorem rdNum_bad {l : List UInt8} (h : (rdNum l).2.1 ≠ 0) : (rdNum l).1 = 0 := rdF_bad 10 0 0 l h

/-- A reader's state: the bytes that are left, the fault. -/
abbrev RS9 := List UInt8 × Nat
def sNum (s : RS9) : Nat := if s.2 = 0 then (rdNum s.1).1 else 0
def sNum' (s : RS9) : RS9 := if s.2 = 0 then (s.1.drop (rdNum s.1).2.2, (rdNum s.1).2.1) else s
def sInt (s : RS9) : Int := if s.2 = 0 then zag (rdNum s.1).1 else 0
def sText (s : RS9) : List UInt8 := if s.2 = 0 then (rdText 16 s.1).1 else []
def sText' (s : RS9) : RS9 := if s.2 = 0 then (s.1.drop (rdText 16 s.1).2.2, (rdText 16 s.1).2.1) else s
def sCount (s : RS9) : Nat := if s.2 = 0 then (rdCount 50 s.1).1 else 0
def sCount' (s : RS9) : RS9 := if s.2 = 0 then (s.1.drop (rdCount 50 s.1).2.2, (rdCount 50 s.1).2.1) else s
section
variable {q B : Nat} {s : RS9} {w : World}
end

end Go.Proofs.Ytgbphkbbedkepaa

/-
  Stage 18: policies, plain; the document's Plain, in, Check, Lag, Cutoff, Delay.
-/
namespace Go.Proofs.Ytgbphkbbedkepaa
open Go.RowKit

set_option maxRecDepth 100000

/-- A policy. -/
structure Y18 where
  rt : Int
  sl : Int
  dl : Int
  ml : Int
  cl : Int
  ba : Int
  ca : Int
  qu : Int
  wa : Int
abbrev ycells18 (p : Y18) : Array Value := #[.int .i64 p.rt, .int .i64 p.sl, .int .i64 p.dl, .int .i64 p.ml, .int .i64 p.cl, .int .i64 p.ba, .int .i64 p.ca, .int .i64 p.qu, .int .i64 p.wa]
abbrev yv18 (p : Y18) : Value := .agg (ycells18 p)
def zeroY : Y18 := ⟨0, 0, 0, 0, 0, 0, 0, 0, 0⟩
def plainY : Y18 := ⟨2000, 1, 2, 24, 48, 2, 60, 16, 4000⟩
def in18 (n a b : Int) : Bool := decide (a ≤ n) && decide (n ≤ b)
def okY (p : Y18) : Bool := in18 p.rt 1 1048576 && (in18 p.sl 0 1048576 && (in18 p.dl 0 1048576 && (in18 p.ml 0 1048576 && (in18 p.cl 0 1048576 && (in18 p.ba 1 1048576 && (in18 p.ca 1 1048576 && (in18 p.qu 1 64 && in18 p.wa 100 1048576)))))))
def chkY (p : Y18) : Int := if okY p then 0 else 2
def numsY (p : Y18) : List Int := [p.rt, p.sl, p.dl, p.ml, p.cl, p.ba, p.ca, p.qu, p.wa]
def formY (p : Y18) : List UInt8 := (numsY p).flatMap fun n => enc n.toNat
def encY (p : Y18) : List UInt8 × Int := if okY p then (formY p, 0) else ([], 2)
def lagY (p : Y18) (t : Int) : Int × Bool := if t = 1 then (p.sl, true) else if t = 2 then (p.dl, true) else if t = 3 then (p.ml, true) else (0, false)
def cutY (p : Y18) (h : Int) : Int := max (h - p.rt) 0
def dbl18 (c : Int) : Int → Nat → Int
  | n, 0 => n
  | n, k + 1 => if n < c then dbl18 c (2 * n) k else n
def delayY (p : Y18) (t : Int) : Int := min (dbl18 p.ca p.ba t.toNat) p.ca
theorem in_iff18 {n a b : Int} : in18 n a b = true ↔ a ≤ n ∧ n ≤ b := by
  unfold in18
  rw [Bool.and_eq_true, decide_eq_true_iff, decide_eq_true_iff]
/-- What a policy that is right holds. -/
structure OkY (p : Y18) : Prop where
  rt : 1 ≤ p.rt ∧ p.rt ≤ 1048576
  sl : 0 ≤ p.sl ∧ p.sl ≤ 1048576
  dl : 0 ≤ p.dl ∧ p.dl ≤ 1048576
  ml : 0 ≤ p.ml ∧ p.ml ≤ 1048576
  cl : 0 ≤ p.cl ∧ p.cl ≤ 1048576
  ba : 1 ≤ p.ba ∧ p.ba ≤ 1048576
  ca : 1 ≤ p.ca ∧ p.ca ≤ 1048576
  qu : 1 ≤ p.qu ∧ p.qu ≤ 64
  wa : 100 ≤ p.wa ∧ p.wa ≤ 1048576
theorem ok_iff18 {p : Y18} : okY p = true ↔ OkY p := by
  unfold okY
  simp only [Bool.and_eq_true, in_iff18]
  exact ⟨fun ⟨a, b, c, d, e, f, g, h, i⟩ => ⟨a, b, c, d, e, f, g, h, i⟩, fun h => ⟨h.rt, h.sl, h.dl, h.ml, h.cl, h.ba, h.ca, h.qu, h.wa⟩⟩
theorem box_y18 {W : World} {g : Nat} {t : TypeId} {p : Y18} (h : Box W g t (ycells18 p)) :
    W.cell? ⟨g, 0, none⟩ = some (.int .i64 p.rt) ∧ W.cell? ⟨g, 1, none⟩ = some (.int .i64 p.sl) ∧ W.cell? ⟨g, 2, none⟩ = some (.int .i64 p.dl) ∧ W.cell? ⟨g, 3, none⟩ = some (.int .i64 p.ml) ∧ W.cell? ⟨g, 4, none⟩ = some (.int .i64 p.cl) ∧
      W.cell? ⟨g, 5, none⟩ = some (.int .i64 p.ba) ∧ W.cell? ⟨g, 6, none⟩ = some (.int .i64 p.ca) ∧ W.cell? ⟨g, 7, none⟩ = some (.int .i64 p.qu) ∧ W.cell? ⟨g, 8, none⟩ = some (.int .i64 p.wa) :=
  ⟨h.cell 0, h.cell 1, h.cell 2, h.cell 3, h.cell 4, h.cell 5, h.cell 6, h.cell 7, h.cell 8⟩
/-- A double doubled. -/
theorem dbl_done18 {c n : Int} (h : ¬ n < c) : ∀ k, dbl18 c n k = n
  | 0 => rfl
  | k + 1 => by unfold dbl18; rw [if_neg h]
theorem dbl_step18 {c n : Int} {k : Nat} (h : n < c) : dbl18 c n (k + 1) = dbl18 c (2 * n) k := by
  conv => lhs; unfold dbl18
  rw [if_pos h]
theorem dbl_ge18 {c : Int} : ∀ (k : Nat) {n : Int}, 1 ≤ n → n ≤ dbl18 c n k
  | 0, _, _ => Int.le_refl _
  | k + 1, n, h => by
    unfold dbl18
    split
    · have := dbl_ge18 (c := c) k (n := 2 * n) (by omega)
      omega
    · exact Int.le_refl _
theorem dbl_mono18 {c : Int} : ∀ {a b : Nat} {n : Int}, 1 ≤ n → a ≤ b → dbl18 c n a ≤ dbl18 c n b
  | 0, b, n, h, _ => dbl_ge18 b h
  | a + 1, 0, _, _, hab => by omega
  | a + 1, b + 1, n, h, hab => by
    unfold dbl18
    split
    · exact dbl_mono18 (by omega) (by omega)
    · exact Int.le_refl _
theorem delay_laws18 {p : Y18} (h : OkY p) {a b : Int} (hab : a ≤ b) : 1 ≤ delayY p a ∧ delayY p a ≤ delayY p b ∧ delayY p b ≤ p.ca := by
  have h1 := dbl_ge18 (c := p.ca) a.toNat h.ba.1
  have h2 := dbl_mono18 (c := p.ca) h.ba.1 (show a.toNat ≤ b.toNat by omega)
  have h3 := h.ba.1
  have h4 := h.ca.1
  unfold delayY
  omega

end Go.Proofs.Ytgbphkbbedkepaa

/-
  Stage 18: the document's Check, Lag, Delay, Form, Encode.
-/
namespace Go.Proofs.Ytgbphkbbedkepaa
open Go.RowKit

set_option maxRecDepth 100000

end Go.Proofs.Ytgbphkbbedkepaa

/-
  The calendar, plain: leap years, months' lengths, the number of a date, and that a number has one date.
-/
namespace Go.Proofs.Ytgbphkbbedkepaa

def leap (y : Nat) : Bool := y % 4 == 0 && (y % 100 != 0 || y % 400 == 0)
theorem leap_iff (y : Nat) : leap y = true ↔ y % 4 = 0 ∧ (y % 100 ≠ 0 ∨ y % 400 = 0) := by
  simp [leap]
def ylen (y : Nat) : Nat := if leap y then 366 else 365
def mlen (y m : Nat) : Nat :=
  if m = 2 then (if leap y then 29 else 28) else if m = 4 ∨ m = 6 ∨ m = 9 ∨ m = 11 then 30 else if 1 ≤ m ∧ m ≤ 12 then 31 else 0

/-- The days of k years from 1970 on; of a year's first k months. -/
def ydays : Nat → Nat
  | 0 => 0
  | k + 1 => ydays k + ylen (1970 + k)
def mdays (y : Nat) : Nat → Nat
  | 0 => 0
  | k + 1 => mdays y k + mlen y (k + 1)
def num (y m d : Nat) : Nat := ydays (y - 1970) + mdays y (m - 1) + (d - 1)
def Valid (y m d : Nat) : Prop := 1970 ≤ y ∧ 1 ≤ m ∧ m ≤ 12 ∧ 1 ≤ d ∧ d ≤ mlen y m

theorem ylen_two (y : Nat) : ylen y = 365 ∨ ylen y = 366 := by
  unfold ylen
  split
  · exact .inr rfl
  · exact .inl rfl
/-- The years' days, by division. -/
theorem ydays_eq : ∀ k, ydays k + 477 + (1969 + k) / 100 = 365 * k + (1969 + k) / 4 + (1969 + k) / 400
  | 0 => rfl
  | k + 1 => by
    have h := ydays_eq k
    show ydays k + ylen (1970 + k) + 477 + _ = _
    unfold ylen
    by_cases hl : leap (1970 + k) = true
    · rw [if_pos hl]
      rw [leap_iff] at hl
      omega
    · rw [if_neg hl]
      rw [leap_iff] at hl
      omega

/-- The months' days, one by one. -/
theorem mdays_at (y : Nat) : mdays y 0 = 0 ∧ mdays y 1 = 31 ∧ mdays y 2 = (if leap y then 60 else 59) ∧ mdays y 3 = (if leap y then 91 else 90) ∧ mdays y 4 = (if leap y then 121 else 120) ∧ mdays y 5 = (if leap y then 152 else 151) ∧
    mdays y 6 = (if leap y then 182 else 181) ∧ mdays y 7 = (if leap y then 213 else 212) ∧ mdays y 8 = (if leap y then 244 else 243) ∧ mdays y 9 = (if leap y then 274 else 273) ∧ mdays y 10 = (if leap y then 305 else 304) ∧
    mdays y 11 = (if leap y then 335 else 334) ∧ mdays y 12 = ylen y := by
  cases h : leap y <;> simp [mdays, mlen, ylen, h]

theorem mlen_pos {y m : Nat} (h1 : 1 ≤ m) (h2 : m ≤ 12) : 28 ≤ mlen y m ∧ mlen y m ≤ 31 := by
  unfold mlen
  repeat' split
  all_goals omega
theorem mdays_mono (y : Nat) : ∀ (k j : Nat), k ≤ j → mdays y k ≤ mdays y j
  | k, 0, h => by
    obtain rfl : k = 0 := by omega
    exact Nat.le_refl _
  | k, j + 1, h => by
    rcases Nat.lt_or_ge k (j + 1) with h1 | h1
    · have := mdays_mono y k j (by omega)
      show _ ≤ mdays y j + mlen y (j + 1)
      omega
    · obtain rfl : k = j + 1 := by omega
      exact Nat.le_refl _
theorem ydays_mono : ∀ (k j : Nat), k ≤ j → ydays k ≤ ydays j
  | k, 0, h => by
    obtain rfl : k = 0 := by omega
    exact Nat.le_refl _
  | k, j + 1, h => by
    rcases Nat.lt_or_ge k (j + 1) with h1 | h1
    · have := ydays_mono k j (by omega)
      show _ ≤ ydays j + ylen (1970 + j)
      omega
    · obtain rfl : k = j + 1 := by omega
      exact Nat.le_refl _
theorem mdays_year (y : Nat) : mdays y 12 = ylen y := (mdays_at y).2.2.2.2.2.2.2.2.2.2.2.2

/-- A date lies in its month, and that in its year. -/
theorem in_month {y m d : Nat} (h : Valid y m d) : mdays y (m - 1) + (d - 1) < mdays y m := by
  obtain ⟨_, h1, h2, h3, h4⟩ := h
  obtain ⟨k, rfl⟩ : ∃ k, m = k + 1 := ⟨m - 1, by omega⟩
  show mdays y (k + 1 - 1) + (d - 1) < mdays y k + mlen y (k + 1)
  rw [Nat.add_sub_cancel]
  omega
theorem in_year {y m d : Nat} (h : Valid y m d) : mdays y (m - 1) + (d - 1) < ylen y := by
  have h1 := in_month h
  have h2 := mdays_mono y m 12 h.2.2.1
  rw [mdays_year] at h2
  omega
theorem num_lt {y m d : Nat} (h : Valid y m d) : ydays (y - 1970) ≤ num y m d ∧ num y m d < ydays (y - 1970 + 1) := by
  have h1 := in_year h
  have h2 := h.1
  have e : ydays (y - 1970 + 1) = ydays (y - 1970) + ylen y := by
    show ydays (y - 1970) + ylen (1970 + (y - 1970)) = _
    rw [show 1970 + (y - 1970) = y by omega]
  unfold num
  rw [e]
  omega

/-- A number has one date. -/
theorem num_inj {y m d y' m' d' : Nat} (h : Valid y m d) (h' : Valid y' m' d') (e : num y m d = num y' m' d') : y = y' ∧ m = m' ∧ d = d' := by
  have a := num_lt h
  have b := num_lt h'
  have hy : y = y' := by
    rcases Nat.lt_trichotomy y y' with c | c | c
    · have := ydays_mono (y - 1970 + 1) (y' - 1970) (by have := h.1; have := h'.1; omega)
      omega
    · exact c
    · have := ydays_mono (y' - 1970 + 1) (y - 1970) (by have := h.1; have := h'.1; omega)
      omega
  subst hy
  have e1 : mdays y (m - 1) + (d - 1) = mdays y (m' - 1) + (d' - 1) := by unfold num at e; omega
  have a1 := in_month h
  have b1 := in_month h'
  have hm : m = m' := by
    rcases Nat.lt_trichotomy m m' with c | c | c
    · have := mdays_mono y m (m' - 1) (by omega)
      omega
    · exact c
    · have := mdays_mono y m' (m - 1) (by omega)
      omega
  subst hm
  refine ⟨rfl, rfl, ?_⟩
  have := h.2.2.2.1
  have := h'.2.2.2.1
  omega

/-- The date of a number: year and month by what is left. -/
def yearOf : Nat → Nat → Nat → Nat × Nat
  | 0, y, n => (y, n)
  | f + 1, y, n => if ylen y ≤ n then yearOf f (y + 1) (n - ylen y) else (y, n)
def monthOf : Nat → Nat → Nat → Nat → Nat × Nat
  | 0, _, m, n => (m, n)
  | f + 1, y, m, n => if mlen y m ≤ n then monthOf f y (m + 1) (n - mlen y m) else (m, n)
def dateOf (n : Nat) : Nat × Nat × Nat :=
  ((yearOf n 1970 n).1, (monthOf 11 (yearOf n 1970 n).1 1 (yearOf n 1970 n).2).1, (monthOf 11 (yearOf n 1970 n).1 1 (yearOf n 1970 n).2).2 + 1)

theorem yearOf_spec : ∀ (f y n : Nat), n ≤ f → 1970 ≤ y → y ≤ (yearOf f y n).1 ∧ (yearOf f y n).2 < ylen (yearOf f y n).1 ∧ ydays ((yearOf f y n).1 - 1970) + (yearOf f y n).2 = ydays (y - 1970) + n
  | 0, y, n, h, _ => by
    have h1 := ylen_two y
    exact ⟨Nat.le_refl _, by show n < ylen y; omega, rfl⟩
  | f + 1, y, n, h, hy => by
    have h1 := ylen_two y
    show y ≤ (if ylen y ≤ n then yearOf f (y + 1) (n - ylen y) else (y, n)).1 ∧ _
    by_cases c : ylen y ≤ n
    · have ih := yearOf_spec f (y + 1) (n - ylen y) (by omega) (by omega)
      have e : yearOf (f + 1) y n = yearOf f (y + 1) (n - ylen y) := by show (if _ then _ else _) = _; rw [if_pos c]
      have e2 : ydays (y + 1 - 1970) = ydays (y - 1970) + ylen y := by
        rw [show y + 1 - 1970 = (y - 1970) + 1 by omega]
        show ydays (y - 1970) + ylen (1970 + (y - 1970)) = _
        rw [show 1970 + (y - 1970) = y by omega]
      rw [if_pos c, e]
      rw [e2] at ih
      exact ⟨by omega, ih.2.1, by omega⟩
    · have e : yearOf (f + 1) y n = (y, n) := by show (if _ then _ else _) = _; rw [if_neg c]
      rw [if_neg c, e]
      exact ⟨Nat.le_refl _, by show n < ylen y; omega, rfl⟩

theorem monthOf_spec : ∀ (f y m n : Nat), f + m = 12 → 1 ≤ m → n < mdays y 12 - mdays y (m - 1) →
    m ≤ (monthOf f y m n).1 ∧ (monthOf f y m n).1 ≤ 12 ∧ (monthOf f y m n).2 < mlen y (monthOf f y m n).1 ∧ mdays y ((monthOf f y m n).1 - 1) + (monthOf f y m n).2 = mdays y (m - 1) + n
  | 0, y, m, n, h, h1, h2 => by
    obtain rfl : m = 12 := by omega
    have e : mdays y 12 = mdays y 11 + mlen y 12 := rfl
    exact ⟨Nat.le_refl _, Nat.le_refl _, by show n < mlen y 12; rw [e] at h2; show n < _; have : (12 : Nat) - 1 = 11 := rfl; rw [this] at h2; omega, rfl⟩
  | f + 1, y, m, n, h, h1, h2 => by
    have e0 : mdays y m = mdays y (m - 1) + mlen y m := by
      obtain ⟨k, rfl⟩ : ∃ k, m = k + 1 := ⟨m - 1, by omega⟩
      rfl
    by_cases c : mlen y m ≤ n
    · have e : monthOf (f + 1) y m n = monthOf f y (m + 1) (n - mlen y m) := by show (if _ then _ else _) = _; rw [if_pos c]
      have ih := monthOf_spec f y (m + 1) (n - mlen y m) (by omega) (by omega) (by rw [Nat.add_sub_cancel, e0]; omega)
      rw [Nat.add_sub_cancel, e0] at ih
      rw [e]
      exact ⟨by omega, ih.2.1, ih.2.2.1, by omega⟩
    · have e : monthOf (f + 1) y m n = (m, n) := by show (if _ then _ else _) = _; rw [if_neg c]
      rw [e]
      exact ⟨Nat.le_refl _, by show m ≤ 12; omega, by show n < mlen y m; omega, rfl⟩

theorem dateOf_spec (n : Nat) : Valid (dateOf n).1 (dateOf n).2.1 (dateOf n).2.2 ∧ num (dateOf n).1 (dateOf n).2.1 (dateOf n).2.2 = n := by
  obtain ⟨h1, h2, h3⟩ := yearOf_spec n 1970 n (Nat.le_refl _) (Nat.le_refl _)
  obtain ⟨a1, a2, a3, a4⟩ := monthOf_spec 11 (yearOf n 1970 n).1 1 (yearOf n 1970 n).2 rfl (Nat.le_refl _) (by rw [mdays_year]; exact h2)
  refine ⟨⟨h1, a1, a2, Nat.le_add_left _ _, a3⟩, ?_⟩
  unfold num
  show ydays ((yearOf n 1970 n).1 - 1970) + mdays (yearOf n 1970 n).1 ((monthOf 11 (yearOf n 1970 n).1 1 (yearOf n 1970 n).2).1 - 1) + ((monthOf 11 (yearOf n 1970 n).1 1 (yearOf n 1970 n).2).2 + 1 - 1) = n
  have e1 : mdays (yearOf n 1970 n).1 (1 - 1) = 0 := rfl
  have e2 : ydays (1970 - 1970) = 0 := rfl
  rw [e1] at a4
  rw [e2] at h3
  omega
/-- Whatever date has that number is that date. -/
theorem date_is {y m d n : Nat} (h : Valid y m d) (e : num y m d = n) : dateOf n = (y, m, d) := by
  obtain ⟨h1, h2⟩ := dateOf_spec n
  obtain ⟨a, b, c⟩ := num_inj h1 h (h2.trans e.symm)
  exact Prod.ext a (Prod.ext b c)

/-- A step function between its steps: where f does not fall, and each step begins and ends where s says. For a year, or a month, that is reckoned by a division. -/
theorem bracket (f s : Nat → Nat) (K N : Nat) (hmono : ∀ a b, a ≤ b → b < N → f a ≤ f b) (h0 : s 0 = 0) (hK : s K = N) (hs : ∀ y, y < K → f (s y) = y ∧ f (s (y + 1) - 1) = y ∧ s y < s (y + 1)) :
    ∀ n, n < N → s (f n) ≤ n ∧ n < s (f n + 1) ∧ f n < K := by
  have rise : ∀ k j, j ≤ K → k ≤ j → s k ≤ s j := by
    intro k j
    induction j with
    | zero =>
      intro _ h
      obtain rfl : k = 0 := by omega
      exact Nat.le_refl _
    | succ j ih =>
      intro h1 h2
      rcases Nat.lt_or_ge k (j + 1) with h | h
      · have := ih (by omega) (by omega)
        have := (hs j (by omega)).2.2
        omega
      · obtain rfl : k = j + 1 := by omega
        exact Nat.le_refl _
  intro n hn
  have hK0 : 0 < K := by
    rcases Nat.eq_zero_or_pos K with h | h
    · subst h
      omega
    · exact h
  have hlt : f n < K := by
    obtain ⟨k, rfl⟩ : ∃ k, K = k + 1 := ⟨K - 1, by omega⟩
    have h1 := hs k (by omega)
    have h2 := hmono n (s (k + 1) - 1) (by omega) (by omega)
    omega
  refine ⟨?_, ?_, hlt⟩
  · rcases Nat.lt_or_ge n (s (f n)) with h | h
    · obtain ⟨y, hy⟩ : ∃ y, f n = y + 1 := by
        refine ⟨f n - 1, ?_⟩
        rcases Nat.eq_zero_or_pos (f n) with c | c
        · rw [c] at h
          omega
        · omega
      rw [hy] at h
      have h1 := hs y (by omega)
      have h2 := rise (y + 1) K (Nat.le_refl _) (by omega)
      have h3 := hmono n (s (y + 1) - 1) (by omega) (by omega)
      omega
    · exact h
  · rcases Nat.lt_or_ge n (s (f n + 1)) with h | h
    · exact h
    · rcases Nat.lt_or_ge (f n + 1) K with c | c
      · have h1 := hs (f n + 1) c
        have h3 := hmono (s (f n + 1)) n h hn
        omega
      · have : f n + 1 = K := by omega
        rw [this, hK] at h
        omega

end Go.Proofs.Ytgbphkbbedkepaa

/-
  Years and months, by the program and by the document.
-/
namespace Go.Proofs.Ytgbphkbbedkepaa
open Go.RowKit

theorem leap_a {y : Nat} (h4 : (y : Int) % 4 = 0) (h : (y : Int) % 100 = 0) : ((y : Int) % 400 == 0) = leap y := by
  rw [Bool.eq_iff_iff, leap_iff, beq_iff_eq]
  omega
theorem leap_b {y : Nat} (h4 : (y : Int) % 4 = 0) (h : ¬ (y : Int) % 100 = 0) : true = leap y := by
  rw [Bool.eq_iff_iff, leap_iff]
  simp
  omega
theorem leap_c {y : Nat} (h4 : ¬ (y : Int) % 4 = 0) : false = leap y := by
  rw [Bool.eq_iff_iff, leap_iff]
  simp
  omega

set_option maxRecDepth 100000 in
set_option maxHeartbeats 400000 in
theorem leap_any (y : Nat) (w : World) (h : y ≤ 1000000) :
    Calls Try.prog 93 #[.int .i64 y] w fun e w' => e = .returned (.bool (leap y)) ∧ w = w' := by
  go_enter Try.func93, Try.ntmps93
  go_wp2
  · go_ret
    exact ⟨ret_bool (leap_a (by assumption) (by assumption)), rfl⟩
  · go_ret
    exact ⟨ret_bool (leap_b (by assumption) (by assumption)), rfl⟩
  · go_ret
    exact ⟨ret_bool (leap_c (by assumption)), rfl⟩
set_option maxRecDepth 100000 in
set_option maxHeartbeats 400000 in
theorem ref_leap (y : Nat) (w : World) (h : y ≤ 1000000) :
    Calls Try.prog 96 #[.int .i64 y] w fun e w' => e = .returned (.bool (leap y)) ∧ w = w' := by
  go_enter Try.func96, Try.ntmps96
  go_wp2
  · go_ret
    exact ⟨ret_bool (leap_a (by assumption) (by assumption)), rfl⟩
  · go_ret
    exact ⟨ret_bool (leap_b (by assumption) (by assumption)), rfl⟩
  · go_ret
    exact ⟨ret_bool (leap_c (by assumption)), rfl⟩

/-- How long a month is, of any number. -/
def mlenZ (y : Nat) (m : Int) : Nat := if 0 ≤ m then mlen y m.toNat else 0
theorem mlenZ_nat (y m : Nat) : mlenZ y (m : Int) = mlen y m := by unfold mlenZ; rw [if_pos (by omega), Int.toNat_natCast]

set_option maxRecDepth 100000 in
set_option maxHeartbeats 1000000 in
theorem length_any (y : Nat) (m : Int) (w : World) (h : y ≤ 1000000) :
    Calls Try.prog 67 #[.int .i64 y, .int .i64 m] w fun e w' => e = .returned (.int .i64 (mlenZ y m)) ∧ w = w' := by
  cases hl : leap y <;> go_enter Try.func67, Try.ntmps67
  all_goals go_wp2_with (go_at_call 93; refine (leap_any y w h).mono ?_; rintro e w' ⟨rfl, rfl⟩; rw [hl])
  all_goals go_ret
  all_goals exact ⟨ret_int (by simp only [beq_iff_eq, beq_eq_false_iff_ne, ne_eq] at *; unfold mlenZ mlen; rw [hl]; (repeat' split) <;> first | omega | contradiction), rfl⟩

set_option maxRecDepth 100000 in
set_option maxHeartbeats 1000000 in
theorem ref_length (y : Nat) (m : Int) (w : World) (h : y ≤ 1000000) :
    Calls Try.prog 72 #[.int .i64 y, .int .i64 m] w fun e w' => e = .returned (.int .i64 (mlenZ y m)) ∧ w = w' := by
  cases hl : leap y <;> go_enter Try.func72, Try.ntmps72
  all_goals go_wp2_with (go_at_call 96; refine (ref_leap y w h).mono ?_; rintro e w' ⟨rfl, rfl⟩; rw [hl])
  all_goals go_ret
  all_goals exact ⟨ret_int (by simp only [beq_iff_eq, beq_eq_false_iff_ne, ne_eq] at *; unfold mlenZ mlen; rw [hl]; (repeat' split) <;> first | omega | contradiction), rfl⟩

set_option maxRecDepth 100000 in
set_option maxHeartbeats 400000 in
theorem ref_days (y : Nat) (w : World) (h : y ≤ 1000000) :
    Calls Try.prog 95 #[.int .i64 y] w fun e w' => e = .returned (.int .i64 (ylen y)) ∧ w = w' := by
  cases hl : leap y <;> go_enter Try.func95, Try.ntmps95
  all_goals go_wp2_with (go_at_call 96; refine (ref_leap y w h).mono ?_; rintro e w' ⟨rfl, rfl⟩; rw [hl])
  all_goals go_ret
  all_goals exact ⟨ret_int (by unfold ylen; rw [hl]; rfl), rfl⟩

/-- How many days the first n years behind one that 400 divides have. -/
def ahd (n : Nat) : Nat := 365 * n + n / 4 - n / 100 + n / 400

set_option maxRecDepth 100000 in
set_option maxHeartbeats 400000 in
theorem ahead_any (n : Nat) (w : World) (h : n ≤ 1000000) :
    Calls Try.prog 92 #[.int .i64 n] w fun e w' => e = .returned (.int .i64 (ahd n)) ∧ w = w' := by
  go_enter Try.func92, Try.ntmps92
  go_wp2
  go_ret
  exact ⟨ret_int (by unfold ahd; omega), rfl⟩

set_option maxRecDepth 100000 in
set_option maxHeartbeats 400000 in
theorem split_any (n b : Nat) (w : World) (h : n ≤ 1000000000) (h1 : 1 ≤ b) (h2 : b ≤ 1000000) :
    Calls Try.prog 65 #[.int .i64 n, .int .i64 b] w fun e w' => e = .returned (.tuple #[.int .i64 (n / b : Nat), .int .i64 (n % b : Nat)]) ∧ ∃ k, w' = w.drewN k := by
  have e1 : (n : Int) / (b : Int) = ((n / b : Nat) : Int) := (Int.natCast_ediv n b).symm
  have e2 : (n : Int) % (b : Int) = ((n % b : Nat) : Int) := (Int.natCast_emod n b).symm
  have l1 : n / b ≤ n := Nat.div_le_self n b
  generalize n / b = q at *
  generalize n % b = r at *
  go_enter Try.func65, Try.ntmps65
  go_wp2
  go_quiet (fail)
  go_wp2
  all_goals go_ret2
  all_goals exact ⟨by rw [← e2]; rfl, _, rfl⟩

end Go.Proofs.Ytgbphkbbedkepaa
