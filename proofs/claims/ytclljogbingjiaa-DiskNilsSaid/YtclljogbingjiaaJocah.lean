/-
  Texts laid one behind the other: Kh Kd Ke Kf Km Kn Q3q Q3r.
-/
import Derived.Test.YtclljogbingjiaaJocag
import Derived.Test.YtclljogbingjiaaJocac
import Derived.Laws.OwnMore

/-
  Digits and texts of hours, plain.
-/
namespace Go.Proofs.Ytclljogbingjiaa
open Go.RowKit

/-- The last digit; the last k digits. -/
def dgt (n : Nat) : UInt8 := UInt8.ofNat (48 + n % 10)
def dg : Nat → Nat → List UInt8
  | _, 0 => []
  | n, k + 1 => dg (n / 10) k ++ [dgt n]
theorem dg_len : ∀ (k n : Nat), (dg n k).length = k
  | 0, _ => rfl
  | k + 1, n => by
    show (dg (n / 10) k ++ [dgt n]).length = _
    rw [List.length_append, dg_len k]
    rfl
theorem dgt_nat (n : Nat) : (dgt n).toNat = 48 + n % 10 := by
  unfold dgt
  rw [UInt8.toNat_ofNat']
  omega

/-- A number of digits; what is none counts as 0. -/
def isd (c : UInt8) : Bool := decide (48 ≤ c.toNat) && decide (c.toNat ≤ 57)
def eatd (n : Nat) (c : UInt8) : Nat := if isd c then 10 * n + (c.toNat - 48) else n
def numr (l : List UInt8) : Nat := l.foldl eatd 0
theorem numr_snoc (l : List UInt8) (c : UInt8) : numr (l ++ [c]) = eatd (numr l) c := by
  unfold numr
  rw [List.foldl_append]
  rfl
theorem isd_dgt (n : Nat) : isd (dgt n) = true := by
  unfold isd
  rw [dgt_nat]
  simp
  omega
theorem numr_dg : ∀ (k n : Nat), numr (dg n k) = n % 10 ^ k
  | 0, n => by
    show 0 = n % 1
    omega
  | k + 1, n => by
    show numr (dg (n / 10) k ++ [dgt n]) = _
    rw [numr_snoc, numr_dg k]
    unfold eatd
    rw [if_pos (isd_dgt n), dgt_nat, Nat.pow_succ, Nat.mul_comm (10 ^ k) 10, Nat.mod_mul]
    omega
theorem dg_all (k n : Nat) : (dg n k).all isd = true := by
  induction k generalizing n with
  | zero => rfl
  | succ k ih =>
    show (dg (n / 10) k ++ [dgt n]).all isd = true
    rw [List.all_append, ih]
    simp [isd_dgt]
theorem numr_lt (l : List UInt8) : numr l < 10 ^ l.length := by
  suffices h : ∀ (l : List UInt8) (n B : Nat), n < B → l.foldl eatd n < B * 10 ^ l.length by
    have := h l 0 1 (by omega)
    rw [Nat.one_mul] at this
    exact this
  intro l
  induction l with
  | nil =>
    intro n B h
    simpa using h
  | cons c l ih =>
    intro n B h
    have h1 : eatd n c < B * 10 := by
      unfold eatd
      split
      · rename_i hd
        unfold isd at hd
        simp at hd
        omega
      · omega
    have := ih (eatd n c) (B * 10) h1
    rw [List.length_cons, Nat.pow_succ, Nat.mul_comm (10 ^ l.length) 10, ← Nat.mul_assoc]
    exact this
theorem numr_take {l : List UInt8} {k : Nat} {c : UInt8} (h : l[k]? = some c) : numr (l.take (k + 1)) = eatd (numr (l.take k)) c := by
  obtain ⟨hk, e⟩ := List.getElem?_eq_some_iff.1 h
  rw [List.take_succ_eq_append_getElem hk, e, numr_snoc]
theorem dg_numr : ∀ (k : Nat) (l : List UInt8), l.length = k → l.all isd = true → dg (numr l) k = l
  | 0, l, h, _ => by
    rw [List.eq_nil_of_length_eq_zero h]
    rfl
  | k + 1, l, h, ha => by
    obtain ⟨l', c, rfl⟩ : ∃ l' c, l = l' ++ [c] := by
      have hne : l ≠ [] := by
        intro e
        subst e
        simp at h
      exact ⟨l.dropLast, l.getLast hne, (List.dropLast_concat_getLast hne).symm⟩
    rw [List.length_append, List.length_singleton] at h
    rw [List.all_append] at ha
    simp at ha
    have ih := dg_numr k l' (by omega) (by simpa using ha.1)
    rw [numr_snoc]
    unfold eatd
    rw [if_pos ha.2]
    have hc := ha.2
    unfold isd at hc
    simp at hc
    show dg ((10 * numr l' + (c.toNat - 48)) / 10) k ++ [dgt (10 * numr l' + (c.toNat - 48))] = _
    have e1 : (10 * numr l' + (c.toNat - 48)) / 10 = numr l' := by omega
    have e2 : dgt (10 * numr l' + (c.toNat - 48)) = c := by
      apply UInt8.toNat_inj.1
      rw [dgt_nat]
      omega
    rw [e1, e2, ih]

/-- The text of a date's hour; of an hour. -/
def laidT (y m d h : Nat) : List UInt8 := dg y 4 ++ (45 :: dg m 2 ++ (45 :: dg d 2 ++ (84 :: dg h 2)))
def textL (h : Nat) : List UInt8 := laidT (dateOf (h / 24)).1 (dateOf (h / 24)).2.1 (dateOf (h / 24)).2.2 (h % 24)
theorem laidT_len (y m d h : Nat) : (laidT y m d h).length = 13 := by simp [laidT, dg_len]
theorem textL_len (h : Nat) : (textL h).length = 13 := laidT_len _ _ _ _

/-- A text's marks: its four numbers, if it has the form. -/
def formL : List UInt8 := [48, 48, 48, 48, 45, 48, 48, 45, 48, 48, 84, 48, 48]
def okc (c f : UInt8) : Bool := if f = 48 then isd c else c == f
def fits (l : List UInt8) (k : Nat) : Bool := ((l.take k).zip formL).all fun x => okc x.1 x.2
def fld (k : Nat) : Nat := (formL.take k).countP (fun f => f != 48)
def vals (l : List UInt8) : Nat → List Nat
  | 0 => [0, 0, 0, 0]
  | k + 1 => if formL.getD k 0 = 48 then (vals l k).set (fld k) (10 * (vals l k).getD (fld k) 0 + ((l.getD k 0).toNat - 48)) else vals l k

theorem thirteen {l : List UInt8} (h : l.length = 13) : ∃ a b c d e f g i j k m n o, l = [a, b, c, d, e, f, g, i, j, k, m, n, o] := by
  match l, h with
  | [a, b, c, d, e, f, g, i, j, k, m, n, o], _ => exact ⟨a, b, c, d, e, f, g, i, j, k, m, n, o, rfl⟩

theorem fits_form {l : List UInt8} (h : l.length = 13) (hf : fits l 13 = true) :
    ∃ A B C D, l = A ++ (45 :: B ++ (45 :: C ++ (84 :: D))) ∧ A.length = 4 ∧ B.length = 2 ∧ C.length = 2 ∧ D.length = 2 ∧ A.all isd = true ∧ B.all isd = true ∧ C.all isd = true ∧ D.all isd = true ∧
      vals l 13 = [numr A, numr B, numr C, numr D] := by
  obtain ⟨a, b, c, d, e, f, g, i, j, k, m, n, o, rfl⟩ := thirteen h
  have h1 : (isd a && (isd b && (isd c && (isd d && ((e == 45) && (isd f && (isd g && ((i == 45) && (isd j && (isd k && ((m == 84) && (isd n && (isd o && true))))))))))))) = true := hf
  simp only [Bool.and_true, Bool.and_eq_true, beq_iff_eq] at h1
  obtain ⟨ha, hb, hc, hd, rfl, hf1, hg, rfl, hj, hk, rfl, hn, ho⟩ := h1
  refine ⟨[a, b, c, d], [f, g], [j, k], [n, o], rfl, rfl, rfl, rfl, rfl, ?_, ?_, ?_, ?_, ?_⟩
  · simp [ha, hb, hc, hd]
  · simp [hf1, hg]
  · simp [hj, hk]
  · simp [hn, ho]
  · show [10 * (10 * (10 * (10 * 0 + (a.toNat - 48)) + (b.toNat - 48)) + (c.toNat - 48)) + (d.toNat - 48), 10 * (10 * 0 + (f.toNat - 48)) + (g.toNat - 48), 10 * (10 * 0 + (j.toNat - 48)) + (k.toNat - 48), 10 * (10 * 0 + (n.toNat - 48)) + (o.toNat - 48)] = _
    simp [numr, eatd, ha, hb, hc, hd, hf1, hg, hj, hk, hn, ho]

theorem form_fits {A B C D : List UInt8} (a : A.length = 4) (b : B.length = 2) (c : C.length = 2) (d : D.length = 2) (ha : A.all isd = true) (hb : B.all isd = true) (hc : C.all isd = true) (hd : D.all isd = true) :
    fits (A ++ (45 :: B ++ (45 :: C ++ (84 :: D)))) 13 = true := by
  match A, a, B, b, C, c, D, d with
  | [a, b, c, d], _, [f, g], _, [j, k], _, [n, o], _ =>
    simp only [List.all_cons, List.all_nil, Bool.and_true, Bool.and_eq_true] at ha hb hc hd
    show (isd a && (isd b && (isd c && (isd d && (((45 : UInt8) == 45) && (isd f && (isd g && (((45 : UInt8) == 45) && (isd j && (isd k && (((84 : UInt8) == 84) && (isd n && (isd o && true))))))))))))) = true
    simp [ha, hb, hc, hd]

theorem laidT_fits (y m d h : Nat) : fits (laidT y m d h) 13 = true :=
  form_fits (dg_len _ _) (dg_len _ _) (dg_len _ _) (dg_len _ _) (dg_all _ _) (dg_all _ _) (dg_all _ _) (dg_all _ _)
theorem parts_eq {A B C D A' B' C' D' : List UInt8} (e : A ++ (45 :: B ++ (45 :: C ++ (84 :: D))) = A' ++ (45 :: B' ++ (45 :: C' ++ (84 :: D')))) (a : A.length = A'.length) (b : B.length = B'.length) (c : C.length = C'.length) :
    A = A' ∧ B = B' ∧ C = C' ∧ D = D' := by
  simp only [List.cons_append] at e
  obtain ⟨e1, e2⟩ := List.append_inj e a
  obtain ⟨e3, e4⟩ := List.append_inj (List.cons.inj e2).2 b
  obtain ⟨e5, e6⟩ := List.append_inj (List.cons.inj e4).2 c
  exact ⟨e1, e3, e5, (List.cons.inj e6).2⟩
theorem laidT_vals {y m d h : Nat} (hy : y < 10000) (hm : m < 100) (hd : d < 100) (hh : h < 100) : vals (laidT y m d h) 13 = [y, m, d, h] := by
  obtain ⟨A, B, C, D, e, a, b, c, d', _, _, _, _, hv⟩ := fits_form (laidT_len y m d h) (laidT_fits y m d h)
  obtain ⟨rfl, rfl, rfl, rfl⟩ := parts_eq e (by rw [dg_len, a]) (by rw [dg_len, b]) (by rw [dg_len, c])
  rw [hv, numr_dg, numr_dg, numr_dg, numr_dg, Nat.mod_eq_of_lt hy, Nat.mod_eq_of_lt hm, Nat.mod_eq_of_lt hd, Nat.mod_eq_of_lt hh]

/-- An hour's date. -/
theorem hour_date {h : Nat} (hh : h ≤ 16777216) : Valid (dateOf (h / 24)).1 (dateOf (h / 24)).2.1 (dateOf (h / 24)).2.2 ∧ num (dateOf (h / 24)).1 (dateOf (h / 24)).2.1 (dateOf (h / 24)).2.2 = h / 24 ∧ (dateOf (h / 24)).1 ≤ 4900 ∧
    (dateOf (h / 24)).2.1 ≤ 12 ∧ (dateOf (h / 24)).2.2 ≤ 31 := by
  obtain ⟨v, e⟩ := dateOf_spec (h / 24)
  have l1 := num_lt v
  have l2 := ydays_ahd v.1
  have l3 := mlen_le (dateOf (h / 24)).1 (dateOf (h / 24)).2.1
  refine ⟨v, e, ?_, v.2.2.1, by have := v.2.2.2.2; omega⟩
  unfold ahd at l2
  omega
theorem textL_vals {h : Nat} (hh : h ≤ 16777216) : vals (textL h) 13 = [(dateOf (h / 24)).1, (dateOf (h / 24)).2.1, (dateOf (h / 24)).2.2, h % 24] := by
  obtain ⟨_, _, a, b, c⟩ := hour_date hh
  exact laidT_vals (by omega) (by omega) (by omega) (by omega)
theorem textL_inj {h g : Nat} (hh : h ≤ 16777216) (hg : g ≤ 16777216) (e : textL h = textL g) : h = g := by
  obtain ⟨v, n, _⟩ := hour_date hh
  obtain ⟨v', n', _⟩ := hour_date hg
  have h1 := textL_vals hh
  rw [e, textL_vals hg] at h1
  simp only [List.cons.injEq, and_true] at h1
  obtain ⟨e1, e2, e3, e4⟩ := h1
  rw [e1, e2, e3] at n'
  omega

/-- What Parse answers. -/
def Parsed (l : List UInt8) (n : Nat) (b : Bool) : Prop := (b = true ∧ n ≤ 16777216 ∧ l = textL n) ∨ (b = false ∧ n = 0 ∧ ∀ h, h ≤ 16777216 → l ≠ textL h)
theorem parsed_one {l : List UInt8} {n n' : Nat} {b b' : Bool} (h : Parsed l n b) (h' : Parsed l n' b') : n = n' ∧ b = b' := by
  rcases h with ⟨rfl, h1, h2⟩ | ⟨rfl, rfl, h2⟩
  · rcases h' with ⟨rfl, g1, g2⟩ | ⟨rfl, rfl, g2⟩
    · exact ⟨textL_inj h1 g1 (h2.symm.trans g2), rfl⟩
    · exact absurd h2 (g2 n h1)
  · rcases h' with ⟨rfl, g1, g2⟩ | ⟨rfl, rfl, g2⟩
    · exact absurd g2 (h2 n' g1)
    · exact ⟨rfl, rfl⟩
theorem parsed_text {h : Nat} (hh : h ≤ 16777216) : Parsed (textL h) h true := .inl ⟨rfl, hh, rfl⟩
/-- What has the form, and is a date's hour, is that hour's text. -/
theorem parsed_yes {l : List UInt8} {y m d h n : Nat} (hl : l.length = 13) (hf : fits l 13 = true) (hv : vals l 13 = [y, m, d, h]) (v : Valid y m d) (hh : h < 24) (hn : n = 24 * num y m d + h) (hm : n ≤ 16777216) : Parsed l n true := by
  refine .inl ⟨rfl, hm, ?_⟩
  obtain ⟨A, B, C, D, rfl, a, b, c, d', ha, hb, hc, hd, hv'⟩ := fits_form hl hf
  rw [hv] at hv'
  simp only [List.cons.injEq, and_true] at hv'
  obtain ⟨rfl, rfl, rfl, rfl⟩ := hv'
  have e1 : n / 24 = num (numr A) (numr B) (numr C) := by omega
  have e2 : n % 24 = numr D := by omega
  unfold textL
  rw [e1, e2, date_is v rfl]
  unfold laidT
  rw [dg_numr 4 A a ha, dg_numr 2 B b hb, dg_numr 2 C c hc, dg_numr 2 D d' hd]
theorem parsed_no {l : List UInt8} (h : ∀ h, h ≤ 16777216 → l ≠ textL h) : Parsed l 0 false := .inr ⟨rfl, rfl, h⟩

end Go.Proofs.Ytclljogbingjiaa

/-
  The program's dates, numbers, months and spans.
-/
namespace Go.Proofs.Ytclljogbingjiaa
open Go.RowKit

/-- What Date answers. -/
def dateV (n : Nat) : Value := .tuple #[.int .i64 (dateOf n).1, .int .i64 (dateOf n).2.1, .int .i64 (dateOf n).2.2]
theorem dateV_eq {n y m d : Nat} (h : dateOf n = (y, m, d)) (a b c : Int) (ha : a = y) (hb : b = m) (hc : c = d) : Value.tuple #[.int .i64 a, .int .i64 b, .int .i64 c] = dateV n := by
  subst ha hb hc
  unfold dateV
  rw [h]
theorem ret_eq {u v : Value} (h : u = v) : Ending.returned u = .returned v := by rw [h]

end Go.Proofs.Ytclljogbingjiaa

/-
  The program's numbers, months, spans and days of hours.
-/
namespace Go.Proofs.Ytclljogbingjiaa
open Go.RowKit

/-- A date from 1970 to 4900, by any numbers. -/
def IsDate (y m d : Int) : Prop := 1970 ≤ y ∧ y ≤ 4900 ∧ 1 ≤ d ∧ d ≤ mlenZ y.toNat m
instance (y m d : Int) : Decidable (IsDate y m d) := by unfold IsDate; exact inferInstance
/-- What Number answers. -/
def numV (y m d : Int) : Value := if IsDate y m d then .tuple #[.int .i64 (num y.toNat m.toNat d.toNat : Nat), .bool true] else .tuple #[.int .i64 0, .bool false]
theorem numV_no {y m d : Int} (h : ¬ IsDate y m d) : numV y m d = .tuple #[.int .i64 0, .bool false] := by unfold numV; rw [if_neg h]
theorem numV_yes {Y M D : Nat} (h1 : 1970 ≤ Y) (h2 : Y ≤ 4900) (h3 : 1 ≤ D) (h4 : D ≤ mlen Y M) (a : Int) (ha : a = (num Y M D : Nat)) : Value.tuple #[.int .i64 a, .bool true] = numV Y M D := by
  subst ha
  unfold numV
  rw [if_pos ⟨by omega, by omega, by omega, by rw [Int.toNat_natCast, mlenZ_nat]; omega⟩, Int.toNat_natCast, Int.toNat_natCast, Int.toNat_natCast]
theorem mlenZ_month {y : Nat} {m : Int} (h : 0 < mlenZ y m) : ∃ k : Nat, m = k ∧ 1 ≤ k ∧ k ≤ 12 := by
  unfold mlenZ mlen at h
  refine ⟨m.toNat, ?_⟩
  revert h
  repeat' split
  all_goals omega
theorem mlenZ_le (y : Nat) (m : Int) : mlenZ y m ≤ 31 := by
  unfold mlenZ
  split
  · exact mlen_le _ _
  · omega
theorem num_day (y m d : Nat) : num y m d = num y m 1 + (d - 1) := by unfold num; omega
theorem num_le {y m : Nat} (hy : 1970 ≤ y) (hy2 : y ≤ 100000) (h1 : 1 ≤ m) (h2 : m ≤ 12) : num y m 1 ≤ 40000000 := by
  have h := ydays_ahd hy
  have h3 := mdays_le (y := y) (m := m - 1) (by omega)
  unfold num
  unfold ahd at h
  omega

theorem wide : Hid ((288230376151711744 : Int) = 288230376151711744) := rfl

end Go.Proofs.Ytclljogbingjiaa

/-
  Dates, numbers, months and spans by the document.
-/
namespace Go.Proofs.Ytclljogbingjiaa
open Go.RowKit

theorem ydays_ge : ∀ k, 365 * k ≤ ydays k
  | 0 => Nat.le_refl _
  | k + 1 => by
    have h := ydays_ge k
    have h1 := ylen_two (1970 + k)
    show 365 * (k + 1) ≤ ydays k + ylen (1970 + k)
    omega
theorem ydays_succ (k : Nat) : ydays (k + 1) = ydays k + ylen (1970 + k) := rfl

end Go.Proofs.Ytclljogbingjiaa

/-
  Digits and texts by the document.
-/
namespace Go.Proofs.Ytclljogbingjiaa
open Go.RowKit

/-- One byte as a string. -/
theorem one_string (w : World) (x : Int) (n : Nat) (h : x = 48 + n % 10) :
    (convert 32 9 (.slice (some ⟨w.heap.size, 0, none⟩) 1 1)).run Try.prog (w.alloc (.cells #[.int .u8 x] 5)) = .ok (.string ⟨#[dgt n]⟩) (w.alloc (.cells #[.int .u8 x] 5)) := by
  have e : x = ((dgt n).toNat : Int) := by rw [dgt_nat, h]; omega
  subst e
  exact (By.made w [dgt n] (by show 1 ≤ maxLen; decide)).rd.string
theorem str_app (a b : List UInt8) : (⟨a.toArray⟩ ++ ⟨b.toArray⟩ : ByteArray) = ⟨(a ++ b).toArray⟩ := by
  apply ByteArray.ext
  rw [ByteArray.data_append]
  simp
theorem string_eq {a b : ByteArray} (h : a = b) : Value.string a = .string b := by rw [h]

theorem str_len (a : List UInt8) : ByteArray.size ⟨a.toArray⟩ = a.length := by
  show a.toArray.size = _
  rw [List.size_toArray]
theorem joinT (y m d h : Nat) : ((((((⟨(dg y 4).toArray⟩ ++ ⟨#[45]⟩) ++ ⟨(dg m 2).toArray⟩) ++ ⟨#[45]⟩) ++ ⟨(dg d 2).toArray⟩) ++ ⟨#[84]⟩) ++ ⟨(dg h 2).toArray⟩ : ByteArray) = ⟨(laidT y m d h).toArray⟩ := by
  rw [show (⟨#[45]⟩ : ByteArray) = ⟨[45].toArray⟩ from rfl, show (⟨#[84]⟩ : ByteArray) = ⟨[84].toArray⟩ from rfl]
  simp only [str_app]
  have e : dg y 4 ++ [45] ++ dg m 2 ++ [45] ++ dg d 2 ++ [84] ++ dg h 2 = laidT y m d h := by simp [laidT]
  rw [e]

end Go.Proofs.Ytclljogbingjiaa

/-
  Numbers of digits, and hours of texts, by the document.
-/
namespace Go.Proofs.Ytclljogbingjiaa
open Go.RowKit

theorem str_at {l : List UInt8} {k : Nat} {c : UInt8} (hc : l[k]? = some c) (h : k < ByteArray.size ⟨l.toArray⟩) : (⟨l.toArray⟩ : ByteArray)[k] = c := by
  obtain ⟨hk, e⟩ := List.getElem?_eq_some_iff.1 hc
  show (l.toArray)[k] = c
  rw [List.getElem_toArray]
  exact e

theorem eatd_yes {x : Nat} {c : UInt8} (h1 : 48 ≤ (c.toNat : Int)) (h2 : (c.toNat : Int) ≤ 57) : (x : Int) * 10 + ((c.toNat : Int) - 48) = (eatd x c : Nat) := by
  have : isd c = true := by unfold isd; simp; omega
  unfold eatd
  rw [if_pos this]
  omega
theorem eatd_hi {x : Nat} {c : UInt8} (h : 57 < (c.toNat : Int)) : (x : Int) = (eatd x c : Nat) := by
  have : ¬ isd c = true := by unfold isd; simp; omega
  unfold eatd
  rw [if_neg this]
theorem eatd_lo {x : Nat} {c : UInt8} (h : ¬ 48 ≤ (c.toNat : Int)) : (x : Int) = (eatd x c : Nat) := by
  have : ¬ isd c = true := by unfold isd; simp; omega
  unfold eatd
  rw [if_neg this]

/-- A part of a text. -/
def part (l : List UInt8) (i n : Nat) : List UInt8 := (l.drop i).take n
theorem str_part (l : List UInt8) (i j : Nat) : (⟨l.toArray⟩ : ByteArray).extract i j = ⟨(part l i (j - i)).toArray⟩ := by
  apply ByteArray.ext
  rw [ByteArray.data_extract]
  simp [part, List.take_drop]
theorem part_len (l : List UInt8) (i n : Nat) : (part l i n).length ≤ n := by unfold part; rw [List.length_take]; omega
theorem parts_of {A B C D : List UInt8} (a : A.length = 4) (b : B.length = 2) (c : C.length = 2) (d : D.length = 2) :
    part (A ++ (45 :: B ++ (45 :: C ++ (84 :: D)))) 0 4 = A ∧ part (A ++ (45 :: B ++ (45 :: C ++ (84 :: D)))) 5 2 = B ∧ part (A ++ (45 :: B ++ (45 :: C ++ (84 :: D)))) 8 2 = C ∧ part (A ++ (45 :: B ++ (45 :: C ++ (84 :: D)))) 11 2 = D := by
  match A, a, B, b, C, c, D, d with
  | [a, b, c, d], _, [f, g], _, [j, k], _, [n, o], _ => exact ⟨rfl, rfl, rfl, rfl⟩
theorem text_parts {h : Nat} (hh : h ≤ 16777216) : numr (part (textL h) 0 4) = (dateOf (h / 24)).1 ∧ numr (part (textL h) 5 2) = (dateOf (h / 24)).2.1 ∧ numr (part (textL h) 8 2) = (dateOf (h / 24)).2.2 ∧ numr (part (textL h) 11 2) = h % 24 := by
  obtain ⟨_, _, l1, l2, l3⟩ := hour_date hh
  obtain ⟨e1, e2, e3, e4⟩ := parts_of (dg_len 4 (dateOf (h / 24)).1) (dg_len 2 (dateOf (h / 24)).2.1) (dg_len 2 (dateOf (h / 24)).2.2) (dg_len 2 (h % 24))
  unfold textL laidT
  rw [e1, e2, e3, e4, numr_dg, numr_dg, numr_dg, numr_dg]
  exact ⟨Nat.mod_eq_of_lt (by omega), Nat.mod_eq_of_lt (by omega), Nat.mod_eq_of_lt (by omega), Nat.mod_eq_of_lt (by omega)⟩
theorem is_date {y m d : Nat} (v : Valid y m d) (h : y ≤ 4900) : IsDate y m d :=
  ⟨by have := v.1; omega, by omega, by have := v.2.2.2.1; omega, by rw [Int.toNat_natCast, mlenZ_nat]; have := v.2.2.2.2; omega⟩
/-- What a text is read as, by its parts. -/
theorem reads_no {l : List UInt8} {Y M D H : Nat} (e1 : Y = numr (part l 0 4)) (e2 : M = numr (part l 5 2)) (e3 : D = numr (part l 8 2)) (e4 : H = numr (part l 11 2))
    (h : ¬ (IsDate Y M D ∧ H ≤ 23 ∧ 24 * num Y M D + H ≤ 16777216 ∧ l = textL (24 * num Y M D + H))) : Parsed l 0 false := by
  refine parsed_no fun g hg e => h ?_
  obtain ⟨v, n, b, _, _⟩ := hour_date hg
  obtain ⟨t1, t2, t3, t4⟩ := text_parts hg
  rw [e, t1] at e1
  rw [e, t2] at e2
  rw [e, t3] at e3
  rw [e, t4] at e4
  subst e1 e2 e3 e4
  have k : 24 * num (dateOf (g / 24)).1 (dateOf (g / 24)).2.1 (dateOf (g / 24)).2.2 + g % 24 = g := by rw [n]; omega
  rw [k]
  exact ⟨is_date v b, by omega, hg, e⟩
theorem isDate_num {Y M D : Nat} (h : IsDate Y M D) : num Y M D ≤ 40000000 ∧ numV Y M D = .tuple #[.int .i64 (num Y M D), .bool true] := by
  have h2 := h
  obtain ⟨h1, h3, h4, h5⟩ := h2
  rw [Int.toNat_natCast, mlenZ_nat] at h5
  have h6 := mlen_le Y M
  obtain ⟨k, hk, m1, m2⟩ := mlenZ_month (y := Y) (m := M) (by rw [mlenZ_nat]; omega)
  have := num_le (y := Y) (m := M) (by omega) (by omega) (by omega) (by omega)
  have := num_day Y M D
  refine ⟨?_, (numV_yes (by omega) (by omega) (by omega) (by omega) _ rfl).symm⟩
  unfold num at *
  have := ydays_ahd (y := Y) (by omega)
  have := mdays_le (y := Y) (m := M - 1) (by omega)
  have : ydays (Y - 1970) ≤ 3000000 := by unfold ahd at *; omega
  omega

/-- Behind a call that parses. -/
def PParse (l : List UInt8) (w : World) (e : Ending) (w' : World) : Prop := ∃ (n : Nat) (b : Bool), e = .returned (.tuple #[.int .i64 (n : Int), .bool b]) ∧ Parsed l n b ∧ Turn (fun _ => False) w w'

end Go.Proofs.Ytclljogbingjiaa

/-
  Stage 15: DiskCrashes, of any disk of the program (Prog15).
-/
namespace Go.Proofs.Ytclljogbingjiaa
open Go.RowKit

set_option maxRecDepth 100000

def EB15 : El Bool where
  sz := 1
  enc b := [.bool b]
  len _ := rfl
  one b u hu := by
    simp only [List.mem_cons, List.not_mem_nil, or_false] at hu
    subst hu
    rfl
theorem flag_at15 {w : World} {A : Option Addr} {n c : Nat} {L : List Bool} (h : RdE EB15 w (.slice A n c) L) {j : Nat} {x : Bool} (hj : L[j]? = some x) :
    ∃ ad, A = some ad ∧ ∀ W, Turn (fun _ => False) w W → W.cell? (ad.add j) = some (.bool x) := by
  obtain ⟨ad, hA, _⟩ := h.cells hj
  refine ⟨ad, hA, fun W ht => ?_⟩
  obtain ⟨ad', hA', hc⟩ := (h.later ht).cells hj
  rw [hA] at hA'
  cases hA'
  have := hc 0 _ rfl
  rw [show j * EB15.sz + 0 = j from by show j * 1 + 0 = j; omega] at this
  exact this
abbrev log15 : List UInt8 := [108, 111, 103]

/-- Ahead of call number i. -/
structure Log15 (M : World → (Nat → Prop) → Nat → D15 → Prop) (w0 w : World) (g i : Nat) (all saf : List UInt8) (F : Nat → Prop) (d : D15) : Prop where
  mem : M w F g d
  ok : OkD15 d
  one : One15 log15 d i all saf.length
  len : all.length ≤ 100 * i
  turn : Turn (fun _ => False) w0 w
  foot : ∀ k, F k → w0.heap.size ≤ k
def Logs15 (M : World → (Nat → Prop) → Nat → D15 → Prop) (w0 w : World) (g i : Nat) (all saf : List UInt8) : Prop := ∃ F d, Log15 M w0 w g i all saf F d
section
variable {M : World → (Nat → Prop) → Nat → D15 → Prop} {w0 w : World} {g i : Nat} {all saf : List UInt8} {F : Nat → Prop} {d : D15}
theorem Log15.bd (h : Log15 M w0 w g i all saf F d) : BdP15 d := ⟨h.ok, by
  have h1 := h.one.1
  by_cases e : i = 0
  · rw [if_pos e] at h1; rw [h1.1]; exact Nat.zero_le _
  · rw [if_neg e] at h1; rw [h1]; show 1 ≤ 9000; decide⟩
theorem Log15.later (hP : Prog15 M) (h : Log15 M w0 w g i all saf F d) {W : World} (ht : Turn (fun _ => False) w W) : Log15 M w0 W g i all saf F d :=
  ⟨hP.turn h.mem ht (fun _ _ f => f), h.ok, h.one, h.len, h.turn.trans ht (fun _ _ f => f), h.foot⟩
theorem Log15.does (h : Log15 M w0 w g i all saf F d) {d2 : D15} {v : Value} {e : Ending} {w' : World} (ha : DoesP15 M w F g d2 v e w') : e = .returned v ∧ ∃ F', M w' F' g d2 ∧ Turn (fun _ => False) w0 w' ∧ ∀ k, F' k → w0.heap.size ≤ k := by
  obtain ⟨h1, F', hm, ht, hf⟩ := ha
  exact ⟨h1, F', hm, app_turn15 h.turn h.foot ht, foot15 h.foot h.turn hf⟩
theorem Log15.app (h : Log15 M w0 w g i all saf F d) {b : List UInt8} (hb : b.length ≤ 100) (hi : i ≤ 100) {e : Ending} {w' : World} (ha : DoesP15 M w F g (app15 d log15 b).1 (.int .i64 (app15 d log15 b).2) e w') :
    e = .returned (.int .i64 (app15 d log15 b).2) ∧ ∃ F', Log15 M w0 w' g (i + 1) (if d.down then all else all ++ b) saf F' (app15 d log15 b).1 := by
  obtain ⟨h1, F', hm, ht, hf⟩ := h.does ha
  have hl := h.len
  refine ⟨h1, F', hm, h.ok.app _ _, h.one.app rfl b (by omega), ?_, ht, hf⟩
  split
  · omega
  · rw [List.length_append]; omega
theorem Log15.sync (h : Log15 M w0 w g (i + 1) all saf F d) {e : Ending} {w' : World} (ha : DoesP15 M w F g (sync15 d log15).1 (.int .i64 (sync15 d log15).2) e w') :
    e = .returned (.int .i64 (sync15 d log15).2) ∧ ∃ F', Log15 M w0 w' g (i + 1) all (if (sync15 d log15).2 = 0 then all else saf) F' (sync15 d log15).1 := by
  obtain ⟨h1, F', hm, ht, hf⟩ := h.does ha
  refine ⟨h1, F', hm, h.ok.sync _, ?_, h.len, ht, hf⟩
  have h2 := h.one.sync
  split
  · rename_i e
    rw [if_pos e] at h2
    exact h2
  · rename_i e
    rw [if_neg e] at h2
    exact h2
end

set_option maxHeartbeats 40000000 in
theorem crashes_any15 (M : World → (Nat → Prop) → Nat → D15 → Prop) (hP : Prog15 M) (v u : Value) (L : List (List UInt8)) (fl : List Bool) (at' keep : Int) (w : World) (hv : Rds w v L) (hl : L.length ≤ maxLen) (hll : ∀ b ∈ L, b.length ≤ maxLen) (hu : RdE EB15 w u fl) (_hfl : fl.length ≤ maxLen) (wa : (Lit.int .i64 at').wf = true) (wk : (Lit.int .i64 keep).wf = true) :
    Calls Try.prog 5 #[v, u, .int .i64 at', .int .i64 keep] w fun e w' => e = .returned (.bool true) ∧ Turn (fun _ => False) w w' := by
  have HP := Lib.hid hP; have HV := Lib.hid hv; have HU := Lib.hid hu; have HLL := Lib.hid hll; have HWA := Lib.hid wa; have HWK := Lib.hid wk
  have HAL : Hid (∀ W, Calls Try.prog 8 #[] W fun e w' => e = .returned (.bool true) ∧ Turn (fun _ => False) W w') := fun W => alive_any15 M hP W
  obtain ⟨A, c, rfl⟩ := hv.shape
  obtain ⟨B, c2, rfl⟩ := hu.shape
  have hfl := _hfl
  unfold maxLen at hl hfl
  clear hP hv hu hll wa wk
  by_cases h30 : L.length ≤ 30
  · have h30' : ¬ ((30 : Int) < L.length) := by omega
    go_enter Try.func5, Try.ntmps5
    go_wp2_with fail
    refine (HP.out.new _).mono ?_
    rintro e w2 ⟨g, F, rfl, m2, t2, f2⟩
    have HL0 : Hid (Log15 M w w2 g 0 [] [] F D15.new) := ⟨m2, OkD15.new, One15.new _, Nat.zero_le _, t2, f2⟩
    clear m2 t2 f2
    by_cases hat : 0 < at'
    · have HAR : Hid (Calls Try.prog 22 #[.pointer (some ⟨g, 0, none⟩), .int .i64 at'] w2 fun e w' => DoesP15 M w2 F g (arm15 D15.new at').1 (.int .i64 (arm15 D15.new at').2) e w') := HP.out.arm at' HL0.out.mem bd_new15 HWA.out
      go_wp2_with fail
      refine HAR.out.mono ?_
      intro e w3 hp
      obtain ⟨rfl, F3, m3, t3, f3⟩ := HL0.out.does hp
      have HLS : Hid (Logs15 M w w3 g 0 [] []) := ⟨F3, _, m3, OkD15.new.arm (n_le15 HWA.out), HL0.out.one.armed at', Nat.zero_le _, t3, f3⟩
      clear hp m3 t3 f3 HAR HL0
      go_wp2_with fail
      go_loopw [10, 11, 12] (fun x10 x11 x12 wr => ∃ (i : Nat) (all saf : List UInt8), x10 = sv15 all ∧ x11 = sv15 saf ∧ x12 = .int .i64 (i : Int) ∧ i ≤ L.length ∧ Logs15 M w wr g i all saf) (fun _ _ x12 _ => L.length - (intOf x12).toNat)
      case atStart => exact ⟨0, [], [], rfl, rfl, rfl, Nat.zero_le _, HLS.out⟩
      case round =>
        obtain ⟨i, all, saf, rfl, rfl, rfl, hi, hlg⟩ := hrel
        obtain ⟨F, d, hlg⟩ := hlg
        have HLG := Lib.hid hlg
        have hlen := hlg.len
        clear hlg HLS
        by_cases hlt : i < L.length
        · obtain ⟨b, hb⟩ : ∃ b, L[i]? = some b := ⟨_, List.getElem?_eq_getElem hlt⟩
          have HBL := Lib.hid (HLL.out b (List.mem_of_getElem? hb))
          obtain ⟨ad, A1, c1, rfl, hc, hrd⟩ := (HV.out.later HLG.out.turn).at hb
          have HC : Hid (∀ W, Turn (fun _ => False) wr W → W.cell? (ad.add i) = some (.slice A1 b.length c1)) := by
            intro W ht
            obtain ⟨ad', A1', c1', e1, h1, -⟩ := ((HV.out.later HLG.out.turn).later ht).at hb
            have e2 := World.block_lt_of_cell? wr _ hc
            rw [ht.cell e2 (fun f => f)]
            exact hc
          have HRD := Lib.hid hrd
          have HRW : Hid (Rd w (.slice A1 b.length c1) b) := by
            obtain ⟨ad', A1', c1', e1, h1, h2⟩ := HV.out.at hb
            cases e1
            have h3 := h1
            have e2 := World.block_lt_of_cell? w _ h1
            rw [← HLG.out.turn.cell e2 (fun f => f), hc] at h3
            cases h3
            exact h2
          have hil : (i : Int) < L.length := by omega
          clear hrd hb
          by_cases hb100 : b.length ≤ 100
          · have hb100' : ¬ ((100 : Int) < b.length) := by omega
            have HDN : Hid (Calls Try.prog 11 #[.pointer (some ⟨g, 0, none⟩)] wr fun e w' => SaysP15 wr (.bool d.down) e w') := HP.out.down HLG.out.mem HLG.out.bd
            go_wp2_with fail
            refine HDN.out.mono ?_
            rintro e w3 ⟨rfl, t3⟩
            have HLG3 := Lib.hid (HLG.out.later HP.out t3)
            have hx := HC.out w3 t3
            have hcv := (HRD.out.later t3).string
            have happ := str_app15 all b
            have HAP : Hid (Calls Try.prog 21 #[.pointer (some ⟨g, 0, none⟩), sv15 log15, .slice A1 b.length c1] w3 fun e w' => e = .returned (.int .i64 (app15 d log15 b).2) ∧ ∃ F', Log15 M w w' g (i + 1) (if d.down then all else all ++ b) saf F' (app15 d log15 b).1) :=
              (HP.out.app _ _ _ HLG3.out.mem HLG3.out.bd (HRD.out.later t3) (far_of15 HRW.out HLG3.out.foot) HBL.out).mono fun _ _ h => HLG3.out.app hb100 (by omega) h
            have HNOT : Hid (d.down = true → (app15 d log15 b).2 ≠ 0) := fun h => by unfold app15; rw [if_pos h]; show (13 : Int) ≠ 0; decide
            clear t3 HDN HLG hc HRD
            have HT3 := Lib.hid HLG3.out.turn
            clear HLG3
            generalize d.down = dn at *
            generalize app15 d log15 b = p at *
            obtain ⟨all2, hall2⟩ : ∃ all2, all2 = if dn = true then all else all ++ b := ⟨_, rfl⟩
            rw [← hall2] at HAP
            obtain ⟨d4, cd⟩ := p
            dsimp only at HAP HNOT
            have hsz := str_len all
            have hsz2 := str_len b
            cases dn with
            | true =>
              obtain rfl : all2 = all := hall2
              clear hcv happ
              by_cases hcd : cd = 0
              · subst hcd
                by_cases hif : i < fl.length
                · obtain ⟨x, hxf⟩ : ∃ x, fl[i]? = some x := ⟨_, List.getElem?_eq_getElem hif⟩
                  obtain ⟨af, rfl, hcf⟩ := flag_at15 HU.out hxf
                  have HCF := Lib.hid hcf
                  have hif' : (i : Int) < fl.length := by omega
                  clear hcf hxf
                  go_wp2_with fail
                  refine HAP.out.mono ?_
                  rintro e w4 ⟨rfl, F4, hl4⟩
                  have hcx := HCF.out w4 hl4.turn
                  have HL4 := Lib.hid hl4
                  clear hl4 HAP hx
                  cases x with
                  | false =>
                    have HN := HL4
                    go_wp2
                    go_roundw
                    case rel => exact ⟨i + 1, _, _, rfl, rfl, by go_num, hlt, _, _, HN.out⟩
                    case measure => simp [intOf]; omega
                  | true =>
                    have HSY := Lib.hid ((HP.out.sync log15 HL4.out.mem HL4.out.bd).mono fun _ _ h => HL4.out.sync h)
                    generalize sync15 d4 log15 = q at *
                    obtain ⟨d5, cd5⟩ := q
                    dsimp only at HSY
                    clear HL4
                    by_cases hc5 : cd5 = 0
                    · subst hc5
                      go_wp2_with fail
                      refine HSY.out.mono ?_
                      rintro e w5 ⟨rfl, F5, hl5⟩
                      rw [if_pos trivial] at hl5
                      have HN := Lib.hid hl5
                      clear hl5 HSY hcx
                      go_wp2
                      go_roundw
                      case rel => exact ⟨i + 1, _, _, rfl, rfl, by go_num, hlt, _, _, HN.out⟩
                      case measure => simp [intOf]; omega
                    · have e5 : (cd5 == 0) = false := by simp [hc5]
                      rw [if_neg hc5] at HSY
                      clear hc5
                      go_wp2_with fail
                      refine HSY.out.mono ?_
                      rintro e w5 ⟨rfl, F5, hl5⟩
                      have HN := Lib.hid hl5
                      clear hl5 HSY hcx
                      go_wp2
                      go_roundw
                      case rel => exact ⟨i + 1, _, _, rfl, rfl, by go_num, hlt, _, _, HN.out⟩
                      case measure => simp [intOf]; omega
                · have hif' : ¬ ((i : Int) < fl.length) := by omega
                  go_wp2_with fail
                  refine HAP.out.mono ?_
                  rintro e w4 ⟨rfl, F4, hl4⟩
                  have HN := Lib.hid hl4
                  clear hl4 HAP hx
                  go_wp2
                  go_roundw
                  case rel => exact ⟨i + 1, _, _, rfl, rfl, by go_num, hlt, _, _, HN.out⟩
                  case measure => simp [intOf]; omega
              · have e0 : (cd == 0) = false := by simp [hcd]
                clear hcd
                go_wp2_with fail
                refine HAP.out.mono ?_
                rintro e w4 ⟨rfl, F4, hl4⟩
                have HN := Lib.hid hl4
                clear hl4 HAP hx
                go_wp2
                go_roundw
                case rel => exact ⟨i + 1, _, _, rfl, rfl, by go_num, hlt, _, _, HN.out⟩
                case measure => simp [intOf]; omega
            | false =>
              obtain rfl : all2 = all ++ b := hall2
              by_cases hcd : cd = 0
              · subst hcd
                by_cases hif : i < fl.length
                · obtain ⟨x, hxf⟩ : ∃ x, fl[i]? = some x := ⟨_, List.getElem?_eq_getElem hif⟩
                  obtain ⟨af, rfl, hcf⟩ := flag_at15 HU.out hxf
                  have HCF := Lib.hid hcf
                  have hif' : (i : Int) < fl.length := by omega
                  clear hcf hxf
                  go_wp2_with fail
                  refine HAP.out.mono ?_
                  rintro e w4 ⟨rfl, F4, hl4⟩
                  have hcx := HCF.out w4 hl4.turn
                  have HL4 := Lib.hid hl4
                  clear hl4 HAP hx
                  cases x with
                  | false =>
                    have HN := HL4
                    go_wp2
                    go_roundw
                    case rel => exact ⟨i + 1, _, _, rfl, rfl, by go_num, hlt, _, _, HN.out⟩
                    case measure => simp [intOf]; omega
                  | true =>
                    have HSY := Lib.hid ((HP.out.sync log15 HL4.out.mem HL4.out.bd).mono fun _ _ h => HL4.out.sync h)
                    generalize sync15 d4 log15 = q at *
                    obtain ⟨d5, cd5⟩ := q
                    dsimp only at HSY
                    clear HL4
                    by_cases hc5 : cd5 = 0
                    · subst hc5
                      go_wp2_with fail
                      refine HSY.out.mono ?_
                      rintro e w5 ⟨rfl, F5, hl5⟩
                      rw [if_pos trivial] at hl5
                      have HN := Lib.hid hl5
                      clear hl5 HSY hcx
                      go_wp2
                      go_roundw
                      case rel => exact ⟨i + 1, _, _, rfl, rfl, by go_num, hlt, _, _, HN.out⟩
                      case measure => simp [intOf]; omega
                    · have e5 : (cd5 == 0) = false := by simp [hc5]
                      rw [if_neg hc5] at HSY
                      clear hc5
                      go_wp2_with fail
                      refine HSY.out.mono ?_
                      rintro e w5 ⟨rfl, F5, hl5⟩
                      have HN := Lib.hid hl5
                      clear hl5 HSY hcx
                      go_wp2
                      go_roundw
                      case rel => exact ⟨i + 1, _, _, rfl, rfl, by go_num, hlt, _, _, HN.out⟩
                      case measure => simp [intOf]; omega
                · have hif' : ¬ ((i : Int) < fl.length) := by omega
                  go_wp2_with fail
                  refine HAP.out.mono ?_
                  rintro e w4 ⟨rfl, F4, hl4⟩
                  have HN := Lib.hid hl4
                  clear hl4 HAP hx
                  go_wp2
                  go_roundw
                  case rel => exact ⟨i + 1, _, _, rfl, rfl, by go_num, hlt, _, _, HN.out⟩
                  case measure => simp [intOf]; omega
              · have e0 : (cd == 0) = false := by simp [hcd]
                clear hcd
                go_wp2_with fail
                refine HAP.out.mono ?_
                rintro e w4 ⟨rfl, F4, hl4⟩
                have HN := Lib.hid hl4
                clear hl4 HAP hx
                go_wp2
                go_roundw
                case rel => exact ⟨i + 1, _, _, rfl, rfl, by go_num, hlt, _, _, HN.out⟩
                case measure => simp [intOf]; omega
          · have hb100' : (100 : Int) < b.length := by omega
            have HTX : Hid (Turn (fun _ => False) w wr) := HLG.out.turn
            go_wp2_with fail
            refine (HAL.out _).mono ?_
            rintro e wz ⟨rfl, tz⟩
            have HTZ := Lib.hid (HTX.out.trans tz (fun _ _ f => f))
            clear tz
            go_wp2
            go_ret
            exact ⟨rfl, HTZ.out⟩
        · obtain rfl : i = L.length := by omega
          have HCR := Lib.hid ((HP.out.crash keep HLG.out.mem HLG.out.bd HWK.out).mono fun _ _ h => HLG.out.does h)
          by_cases h0 : L.length = 0
          · have e0 : ((L.length : Int) == 0) = true := by simp [h0]
            have HON : Hid (crash15 d keep = D15.new) := by
              have h1 := HLG.out.one
              rw [h0] at h1
              exact h1.none keep
            rw [HON.out] at HCR
            clear hlen hlt hi HLG HON
            go_wp2_with fail
            refine HCR.out.mono ?_
            rintro e w6 ⟨rfl, F6, m6, t6, f6⟩
            have HRE := Lib.hid (HP.out.read log15 m6 bd_new15)
            rw [show read15 D15.new log15 = ([], 11) from rfl] at HRE
            have HT6 := Lib.hid t6
            clear m6 t6 f6 HCR
            go_wp2_with fail
            refine HRE.out.mono ?_
            rintro e w7 ⟨v7, rfl, hv7, t7⟩
            have HTX : Hid (Turn (fun _ => False) w w7) := HT6.out.trans t7 (fun _ _ f => f)
            clear hv7 t7 HRE HT6
            go_wp2_with fail
            refine (HAL.out _).mono ?_
            rintro e wz ⟨rfl, tz⟩
            have HTZ := Lib.hid (HTX.out.trans tz (fun _ _ f => f))
            clear tz
            go_wp2
            go_ret
            exact ⟨rfl, HTZ.out⟩
          · have e0 : ((L.length : Int) == 0) = false := by simp [h0]
            obtain ⟨n, hn1, hn2, HON⟩ : ∃ n, saf.length ≤ n ∧ n ≤ all.length ∧ Hid (crash15 d keep = ⟨[(log15, all.take n, n)], 0, false⟩) := by
              obtain ⟨j, hj⟩ : ∃ j, L.length = j + 1 := ⟨L.length - 1, by omega⟩
              have h1 := HLG.out.one
              rw [hj] at h1
              obtain ⟨n, x1, x2, x3⟩ := h1.crash keep
              exact ⟨n, x1, x2, x3⟩
            rw [HON.out] at HCR
            obtain ⟨T, hT⟩ : ∃ T, T = all.take n := ⟨_, rfl⟩
            have hTl : T.length = n := by rw [hT, List.length_take]; exact Nat.min_eq_left hn2
            have hpart : (⟨all.toArray⟩ : ByteArray).extract 0 T.length = ⟨T.toArray⟩ := by
              rw [str_part, hTl, hT]
              unfold part
              simp
            rw [← hT] at HCR
            have HBD : Hid (BdP15 ⟨[(log15, (T, n))], 0, false⟩) := bd_one15 _ _ _ _ _ (by omega) (by omega) (by decide)
            have HRE0 : Hid (read15 ⟨[(log15, (T, n))], 0, false⟩ log15 = (T, 0)) := by show _ = _; unfold read15; rw [if_neg Bool.false_ne_true, one_get15]
            have HLO0 : Hid (loose15 ⟨[(log15, (T, n))], 0, false⟩ log15 = 0) := by
              show _ = _
              unfold loose15 file15
              rw [one_get15]
              show (T.length : Int) - (n : Int) = 0
              omega
            have HAP0 : Hid ((app15 ⟨[(log15, (T, n))], 0, false⟩ log15 []).2 = 0) := by
              show _ = _
              have h1 : file15 ⟨[(log15, (T, n))], 0, false⟩ log15 = (T, n) := by unfold file15; rw [one_get15]; rfl
              unfold app15
              rw [if_neg Bool.false_ne_true, if_neg (by decide), h1, if_neg (by show ¬ (4194304 < T.length + 0); omega)]
              rfl
            have hsz := str_len T
            have hsz2 := str_len all
            have hsz3 := str_len saf
            have hle : (T.length : Int) ≤ all.length := by omega
            have hle3 : (saf.length : Int) ≤ T.length := by omega
            clear hlen hlt hi HLG HON hn1 hn2 hT hTl h0
            go_wp2_with fail
            refine HCR.out.mono ?_
            rintro e w6 ⟨rfl, F6, m6, t6, f6⟩
            have HRE := Lib.hid (HP.out.read log15 m6 HBD.out)
            rw [HRE0.out] at HRE
            have HT6 := Lib.hid t6
            have HM6 := Lib.hid m6
            have HF6 := Lib.hid f6
            clear m6 t6 f6 HCR
            go_wp2_with fail
            refine HRE.out.mono ?_
            rintro e w7 ⟨v7, rfl, hv7, t7⟩
            obtain ⟨A7, c7, rfl⟩ := hv7.shape
            have hcv := hv7.string
            have HT7 := Lib.hid (HT6.out.trans t7 (fun _ _ f => f))
            have HM7 := Lib.hid (HP.out.turn HM6.out t7 (fun _ _ f => f))
            have HDN := Lib.hid (HP.out.down HM7.out HBD.out)
            clear hv7 t7 HRE HT6 HM6
            dsimp only at HDN hcv
            go_wp2_with fail
            refine HDN.out.mono ?_
            rintro e w8 ⟨rfl, t8⟩
            have HT8 := Lib.hid (HT7.out.trans t8 (fun _ _ f => f))
            have HM8 := Lib.hid (HP.out.turn HM7.out t8 (fun _ _ f => f))
            have HLO := Lib.hid (HP.out.loose log15 HM8.out HBD.out)
            rw [HLO0.out] at HLO
            clear t8 HDN HT7 HM7 hcv
            go_wp2_with fail
            refine HLO.out.mono ?_
            rintro e w9 ⟨rfl, t9⟩
            have HT9 := Lib.hid (HT8.out.trans t9 (fun _ _ f => f))
            have HM9 := Lib.hid (HP.out.turn HM8.out t9 (fun _ _ f => f))
            have HAP := Lib.hid (HP.out.app log15 (.slice none 0 0) [] HM9.out HBD.out (Rd.none w9) (.inl rfl) (Nat.zero_le _))
            rw [HAP0.out] at HAP
            clear t9 HLO HT8 HM8
            go_wp2_with fail
            refine HAP.out.mono ?_
            rintro e w10 ⟨rfl, F10, m10, t10, f10⟩
            have HTX := Lib.hid (app_turn15 HT9.out HF6.out t10)
            clear m10 t10 f10 HAP HT9 HM9
            go_wp2_with fail
            refine (HAL.out _).mono ?_
            rintro e wz ⟨rfl, tz⟩
            have HTZ := Lib.hid (HTX.out.trans tz (fun _ _ f => f))
            clear tz
            go_wp2
            go_ret
            exact ⟨rfl, HTZ.out⟩
    · have HLS : Hid (Logs15 M w w2 g 0 [] []) := ⟨F, _, HL0.out⟩
      clear HL0
      go_wp2_with fail
      go_loopw [10, 11, 12] (fun x10 x11 x12 wr => ∃ (i : Nat) (all saf : List UInt8), x10 = sv15 all ∧ x11 = sv15 saf ∧ x12 = .int .i64 (i : Int) ∧ i ≤ L.length ∧ Logs15 M w wr g i all saf) (fun _ _ x12 _ => L.length - (intOf x12).toNat)
      case atStart => exact ⟨0, [], [], rfl, rfl, rfl, Nat.zero_le _, HLS.out⟩
      case round =>
        obtain ⟨i, all, saf, rfl, rfl, rfl, hi, hlg⟩ := hrel
        obtain ⟨F, d, hlg⟩ := hlg
        have HLG := Lib.hid hlg
        have hlen := hlg.len
        clear hlg HLS
        by_cases hlt : i < L.length
        · obtain ⟨b, hb⟩ : ∃ b, L[i]? = some b := ⟨_, List.getElem?_eq_getElem hlt⟩
          have HBL := Lib.hid (HLL.out b (List.mem_of_getElem? hb))
          obtain ⟨ad, A1, c1, rfl, hc, hrd⟩ := (HV.out.later HLG.out.turn).at hb
          have HC : Hid (∀ W, Turn (fun _ => False) wr W → W.cell? (ad.add i) = some (.slice A1 b.length c1)) := by
            intro W ht
            obtain ⟨ad', A1', c1', e1, h1, -⟩ := ((HV.out.later HLG.out.turn).later ht).at hb
            have e2 := World.block_lt_of_cell? wr _ hc
            rw [ht.cell e2 (fun f => f)]
            exact hc
          have HRD := Lib.hid hrd
          have HRW : Hid (Rd w (.slice A1 b.length c1) b) := by
            obtain ⟨ad', A1', c1', e1, h1, h2⟩ := HV.out.at hb
            cases e1
            have h3 := h1
            have e2 := World.block_lt_of_cell? w _ h1
            rw [← HLG.out.turn.cell e2 (fun f => f), hc] at h3
            cases h3
            exact h2
          have hil : (i : Int) < L.length := by omega
          clear hrd hb
          by_cases hb100 : b.length ≤ 100
          · have hb100' : ¬ ((100 : Int) < b.length) := by omega
            have HDN : Hid (Calls Try.prog 11 #[.pointer (some ⟨g, 0, none⟩)] wr fun e w' => SaysP15 wr (.bool d.down) e w') := HP.out.down HLG.out.mem HLG.out.bd
            go_wp2_with fail
            refine HDN.out.mono ?_
            rintro e w3 ⟨rfl, t3⟩
            have HLG3 := Lib.hid (HLG.out.later HP.out t3)
            have hx := HC.out w3 t3
            have hcv := (HRD.out.later t3).string
            have happ := str_app15 all b
            have HAP : Hid (Calls Try.prog 21 #[.pointer (some ⟨g, 0, none⟩), sv15 log15, .slice A1 b.length c1] w3 fun e w' => e = .returned (.int .i64 (app15 d log15 b).2) ∧ ∃ F', Log15 M w w' g (i + 1) (if d.down then all else all ++ b) saf F' (app15 d log15 b).1) :=
              (HP.out.app _ _ _ HLG3.out.mem HLG3.out.bd (HRD.out.later t3) (far_of15 HRW.out HLG3.out.foot) HBL.out).mono fun _ _ h => HLG3.out.app hb100 (by omega) h
            have HNOT : Hid (d.down = true → (app15 d log15 b).2 ≠ 0) := fun h => by unfold app15; rw [if_pos h]; show (13 : Int) ≠ 0; decide
            clear t3 HDN HLG hc HRD
            have HT3 := Lib.hid HLG3.out.turn
            clear HLG3
            generalize d.down = dn at *
            generalize app15 d log15 b = p at *
            obtain ⟨all2, hall2⟩ : ∃ all2, all2 = if dn = true then all else all ++ b := ⟨_, rfl⟩
            rw [← hall2] at HAP
            obtain ⟨d4, cd⟩ := p
            dsimp only at HAP HNOT
            have hsz := str_len all
            have hsz2 := str_len b
            cases dn with
            | true =>
              obtain rfl : all2 = all := hall2
              clear hcv happ
              by_cases hcd : cd = 0
              · subst hcd
                by_cases hif : i < fl.length
                · obtain ⟨x, hxf⟩ : ∃ x, fl[i]? = some x := ⟨_, List.getElem?_eq_getElem hif⟩
                  obtain ⟨af, rfl, hcf⟩ := flag_at15 HU.out hxf
                  have HCF := Lib.hid hcf
                  have hif' : (i : Int) < fl.length := by omega
                  clear hcf hxf
                  go_wp2_with fail
                  refine HAP.out.mono ?_
                  rintro e w4 ⟨rfl, F4, hl4⟩
                  have hcx := HCF.out w4 hl4.turn
                  have HL4 := Lib.hid hl4
                  clear hl4 HAP hx
                  cases x with
                  | false =>
                    have HN := HL4
                    go_wp2
                    go_roundw
                    case rel => exact ⟨i + 1, _, _, rfl, rfl, by go_num, hlt, _, _, HN.out⟩
                    case measure => simp [intOf]; omega
                  | true =>
                    have HSY := Lib.hid ((HP.out.sync log15 HL4.out.mem HL4.out.bd).mono fun _ _ h => HL4.out.sync h)
                    generalize sync15 d4 log15 = q at *
                    obtain ⟨d5, cd5⟩ := q
                    dsimp only at HSY
                    clear HL4
                    by_cases hc5 : cd5 = 0
                    · subst hc5
                      go_wp2_with fail
                      refine HSY.out.mono ?_
                      rintro e w5 ⟨rfl, F5, hl5⟩
                      rw [if_pos trivial] at hl5
                      have HN := Lib.hid hl5
                      clear hl5 HSY hcx
                      go_wp2
                      go_roundw
                      case rel => exact ⟨i + 1, _, _, rfl, rfl, by go_num, hlt, _, _, HN.out⟩
                      case measure => simp [intOf]; omega
                    · have e5 : (cd5 == 0) = false := by simp [hc5]
                      rw [if_neg hc5] at HSY
                      clear hc5
                      go_wp2_with fail
                      refine HSY.out.mono ?_
                      rintro e w5 ⟨rfl, F5, hl5⟩
                      have HN := Lib.hid hl5
                      clear hl5 HSY hcx
                      go_wp2
                      go_roundw
                      case rel => exact ⟨i + 1, _, _, rfl, rfl, by go_num, hlt, _, _, HN.out⟩
                      case measure => simp [intOf]; omega
                · have hif' : ¬ ((i : Int) < fl.length) := by omega
                  go_wp2_with fail
                  refine HAP.out.mono ?_
                  rintro e w4 ⟨rfl, F4, hl4⟩
                  have HN := Lib.hid hl4
                  clear hl4 HAP hx
                  go_wp2
                  go_roundw
                  case rel => exact ⟨i + 1, _, _, rfl, rfl, by go_num, hlt, _, _, HN.out⟩
                  case measure => simp [intOf]; omega
              · have e0 : (cd == 0) = false := by simp [hcd]
                clear hcd
                go_wp2_with fail
                refine HAP.out.mono ?_
                rintro e w4 ⟨rfl, F4, hl4⟩
                have HN := Lib.hid hl4
                clear hl4 HAP hx
                go_wp2
                go_roundw
                case rel => exact ⟨i + 1, _, _, rfl, rfl, by go_num, hlt, _, _, HN.out⟩
                case measure => simp [intOf]; omega
            | false =>
              obtain rfl : all2 = all ++ b := hall2
              by_cases hcd : cd = 0
              · subst hcd
                by_cases hif : i < fl.length
                · obtain ⟨x, hxf⟩ : ∃ x, fl[i]? = some x := ⟨_, List.getElem?_eq_getElem hif⟩
                  obtain ⟨af, rfl, hcf⟩ := flag_at15 HU.out hxf
                  have HCF := Lib.hid hcf
                  have hif' : (i : Int) < fl.length := by omega
                  clear hcf hxf
                  go_wp2_with fail
                  refine HAP.out.mono ?_
                  rintro e w4 ⟨rfl, F4, hl4⟩
                  have hcx := HCF.out w4 hl4.turn
                  have HL4 := Lib.hid hl4
                  clear hl4 HAP hx
                  cases x with
                  | false =>
                    have HN := HL4
                    go_wp2
                    go_roundw
                    case rel => exact ⟨i + 1, _, _, rfl, rfl, by go_num, hlt, _, _, HN.out⟩
                    case measure => simp [intOf]; omega
                  | true =>
                    have HSY := Lib.hid ((HP.out.sync log15 HL4.out.mem HL4.out.bd).mono fun _ _ h => HL4.out.sync h)
                    generalize sync15 d4 log15 = q at *
                    obtain ⟨d5, cd5⟩ := q
                    dsimp only at HSY
                    clear HL4
                    by_cases hc5 : cd5 = 0
                    · subst hc5
                      go_wp2_with fail
                      refine HSY.out.mono ?_
                      rintro e w5 ⟨rfl, F5, hl5⟩
                      rw [if_pos trivial] at hl5
                      have HN := Lib.hid hl5
                      clear hl5 HSY hcx
                      go_wp2
                      go_roundw
                      case rel => exact ⟨i + 1, _, _, rfl, rfl, by go_num, hlt, _, _, HN.out⟩
                      case measure => simp [intOf]; omega
                    · have e5 : (cd5 == 0) = false := by simp [hc5]
                      rw [if_neg hc5] at HSY
                      clear hc5
                      go_wp2_with fail
                      refine HSY.out.mono ?_
                      rintro e w5 ⟨rfl, F5, hl5⟩
                      have HN := Lib.hid hl5
                      clear hl5 HSY hcx
                      go_wp2
                      go_roundw
                      case rel => exact ⟨i + 1, _, _, rfl, rfl, by go_num, hlt, _, _, HN.out⟩
                      case measure => simp [intOf]; omega
                · have hif' : ¬ ((i : Int) < fl.length) := by omega
                  go_wp2_with fail
                  refine HAP.out.mono ?_
                  rintro e w4 ⟨rfl, F4, hl4⟩
                  have HN := Lib.hid hl4
                  clear hl4 HAP hx
                  go_wp2
                  go_roundw
                  case rel => exact ⟨i + 1, _, _, rfl, rfl, by go_num, hlt, _, _, HN.out⟩
                  case measure => simp [intOf]; omega
              · have e0 : (cd == 0) = false := by simp [hcd]
                clear hcd
                go_wp2_with fail
                refine HAP.out.mono ?_
                rintro e w4 ⟨rfl, F4, hl4⟩
                have HN := Lib.hid hl4
                clear hl4 HAP hx
                go_wp2
                go_roundw
                case rel => exact ⟨i + 1, _, _, rfl, rfl, by go_num, hlt, _, _, HN.out⟩
                case measure => simp [intOf]; omega
          · have hb100' : (100 : Int) < b.length := by omega
            have HTX : Hid (Turn (fun _ => False) w wr) := HLG.out.turn
            go_wp2_with fail
            refine (HAL.out _).mono ?_
            rintro e wz ⟨rfl, tz⟩
            have HTZ := Lib.hid (HTX.out.trans tz (fun _ _ f => f))
            clear tz
            go_wp2
            go_ret
            exact ⟨rfl, HTZ.out⟩
        · obtain rfl : i = L.length := by omega
          have HCR := Lib.hid ((HP.out.crash keep HLG.out.mem HLG.out.bd HWK.out).mono fun _ _ h => HLG.out.does h)
          by_cases h0 : L.length = 0
          · have e0 : ((L.length : Int) == 0) = true := by simp [h0]
            have HON : Hid (crash15 d keep = D15.new) := by
              have h1 := HLG.out.one
              rw [h0] at h1
              exact h1.none keep
            rw [HON.out] at HCR
            clear hlen hlt hi HLG HON
            go_wp2_with fail
            refine HCR.out.mono ?_
            rintro e w6 ⟨rfl, F6, m6, t6, f6⟩
            have HRE := Lib.hid (HP.out.read log15 m6 bd_new15)
            rw [show read15 D15.new log15 = ([], 11) from rfl] at HRE
            have HT6 := Lib.hid t6
            clear m6 t6 f6 HCR
            go_wp2_with fail
            refine HRE.out.mono ?_
            rintro e w7 ⟨v7, rfl, hv7, t7⟩
            have HTX : Hid (Turn (fun _ => False) w w7) := HT6.out.trans t7 (fun _ _ f => f)
            clear hv7 t7 HRE HT6
            go_wp2_with fail
            refine (HAL.out _).mono ?_
            rintro e wz ⟨rfl, tz⟩
            have HTZ := Lib.hid (HTX.out.trans tz (fun _ _ f => f))
            clear tz
            go_wp2
            go_ret
            exact ⟨rfl, HTZ.out⟩
          · have e0 : ((L.length : Int) == 0) = false := by simp [h0]
            obtain ⟨n, hn1, hn2, HON⟩ : ∃ n, saf.length ≤ n ∧ n ≤ all.length ∧ Hid (crash15 d keep = ⟨[(log15, all.take n, n)], 0, false⟩) := by
              obtain ⟨j, hj⟩ : ∃ j, L.length = j + 1 := ⟨L.length - 1, by omega⟩
              have h1 := HLG.out.one
              rw [hj] at h1
              obtain ⟨n, x1, x2, x3⟩ := h1.crash keep
              exact ⟨n, x1, x2, x3⟩
            rw [HON.out] at HCR
            obtain ⟨T, hT⟩ : ∃ T, T = all.take n := ⟨_, rfl⟩
            have hTl : T.length = n := by rw [hT, List.length_take]; exact Nat.min_eq_left hn2
            have hpart : (⟨all.toArray⟩ : ByteArray).extract 0 T.length = ⟨T.toArray⟩ := by
              rw [str_part, hTl, hT]
              unfold part
              simp
            rw [← hT] at HCR
            have HBD : Hid (BdP15 ⟨[(log15, (T, n))], 0, false⟩) := bd_one15 _ _ _ _ _ (by omega) (by omega) (by decide)
            have HRE0 : Hid (read15 ⟨[(log15, (T, n))], 0, false⟩ log15 = (T, 0)) := by show _ = _; unfold read15; rw [if_neg Bool.false_ne_true, one_get15]
            have HLO0 : Hid (loose15 ⟨[(log15, (T, n))], 0, false⟩ log15 = 0) := by
              show _ = _
              unfold loose15 file15
              rw [one_get15]
              show (T.length : Int) - (n : Int) = 0
              omega
            have HAP0 : Hid ((app15 ⟨[(log15, (T, n))], 0, false⟩ log15 []).2 = 0) := by
              show _ = _
              have h1 : file15 ⟨[(log15, (T, n))], 0, false⟩ log15 = (T, n) := by unfold file15; rw [one_get15]; rfl
              unfold app15
              rw [if_neg Bool.false_ne_true, if_neg (by decide), h1, if_neg (by show ¬ (4194304 < T.length + 0); omega)]
              rfl
            have hsz := str_len T
            have hsz2 := str_len all
            have hsz3 := str_len saf
            have hle : (T.length : Int) ≤ all.length := by omega
            have hle3 : (saf.length : Int) ≤ T.length := by omega
            clear hlen hlt hi HLG HON hn1 hn2 hT hTl h0
            go_wp2_with fail
            refine HCR.out.mono ?_
            rintro e w6 ⟨rfl, F6, m6, t6, f6⟩
            have HRE := Lib.hid (HP.out.read log15 m6 HBD.out)
            rw [HRE0.out] at HRE
            have HT6 := Lib.hid t6
            have HM6 := Lib.hid m6
            have HF6 := Lib.hid f6
            clear m6 t6 f6 HCR
            go_wp2_with fail
            refine HRE.out.mono ?_
            rintro e w7 ⟨v7, rfl, hv7, t7⟩
            obtain ⟨A7, c7, rfl⟩ := hv7.shape
            have hcv := hv7.string
            have HT7 := Lib.hid (HT6.out.trans t7 (fun _ _ f => f))
            have HM7 := Lib.hid (HP.out.turn HM6.out t7 (fun _ _ f => f))
            have HDN := Lib.hid (HP.out.down HM7.out HBD.out)
            clear hv7 t7 HRE HT6 HM6
            dsimp only at HDN hcv
            go_wp2_with fail
            refine HDN.out.mono ?_
            rintro e w8 ⟨rfl, t8⟩
            have HT8 := Lib.hid (HT7.out.trans t8 (fun _ _ f => f))
            have HM8 := Lib.hid (HP.out.turn HM7.out t8 (fun _ _ f => f))
            have HLO := Lib.hid (HP.out.loose log15 HM8.out HBD.out)
            rw [HLO0.out] at HLO
            clear t8 HDN HT7 HM7 hcv
            go_wp2_with fail
            refine HLO.out.mono ?_
            rintro e w9 ⟨rfl, t9⟩
            have HT9 := Lib.hid (HT8.out.trans t9 (fun _ _ f => f))
            have HM9 := Lib.hid (HP.out.turn HM8.out t9 (fun _ _ f => f))
            have HAP := Lib.hid (HP.out.app log15 (.slice none 0 0) [] HM9.out HBD.out (Rd.none w9) (.inl rfl) (Nat.zero_le _))
            rw [HAP0.out] at HAP
            clear t9 HLO HT8 HM8
            go_wp2_with fail
            refine HAP.out.mono ?_
            rintro e w10 ⟨rfl, F10, m10, t10, f10⟩
            have HTX := Lib.hid (app_turn15 HT9.out HF6.out t10)
            clear m10 t10 f10 HAP HT9 HM9
            go_wp2_with fail
            refine (HAL.out _).mono ?_
            rintro e wz ⟨rfl, tz⟩
            have HTZ := Lib.hid (HTX.out.trans tz (fun _ _ f => f))
            clear tz
            go_wp2
            go_ret
            exact ⟨rfl, HTZ.out⟩
  · have h30' : (30 : Int) < L.length := by omega
    have HTX : Hid (Turn (fun _ => False) w w) := Turn.refl _ _
    go_enter Try.func5, Try.ntmps5
    go_wp2_with fail
    refine (HAL.out _).mono ?_
    rintro e wz ⟨rfl, tz⟩
    have HTZ := Lib.hid (HTX.out.trans tz (fun _ _ f => f))
    clear tz
    go_wp2
    go_ret
    exact ⟨rfl, HTZ.out⟩

end Go.Proofs.Ytclljogbingjiaa

/-
  Stage 15: DiskFills, of any disk of the program (Prog15).
-/
namespace Go.Proofs.Ytclljogbingjiaa
open Go.RowKit

set_option maxRecDepth 100000

theorem byte_info15 : (Try.prog.info? 5).map (fun i => (i.zero, i.size, i.bytes)) = some (some (.int .u8 0), 1, 1) := by kernel_rfl
theorem made_bytes15 (N : Nat) (hN : N ≤ 4194304) (w : World) : (Instr.makeSlice 32 (.int .i64 (N : Int)) (.int .i64 (N : Int))).run Try.prog w = .ok (.slice (some ⟨w.heap.size, 0, none⟩) N N) (w.alloc (.cells (madeCells #[.int .u8 0] N) 5)) := by
  obtain ⟨i, hi, hz, h1, h2⟩ := info_parts byte_info15
  have h := run_make (P := Try.prog) w 32 5 i _ Try.underlying32 hi hz .i64 .i64 (N : Int) (N : Int) (by omega) (by omega) (by rw [h2]; omega) (by omega)
  rw [h1, show ((N : Int)).toNat = N from Int.toNat_natCast N] at h
  rw [show N * 1 = N from Nat.mul_one N] at h
  exact h
theorem rd_made15 (N : Nat) (hN : N ≤ 4194304) (w : World) : Rd (w.alloc (.cells (madeCells #[.int .u8 0] N) 5)) (.slice (some ⟨w.heap.size, 0, none⟩) N N) (List.replicate N 0) := by
  refine ⟨_, _, by rw [List.length_replicate], ⟨by rw [List.length_replicate]; exact Nat.le_refl _, by unfold maxLen; omega⟩, (fun e => by cases e), fun ad e j b hj => ?_⟩
  cases e
  have e1 : (⟨w.heap.size, 0, none⟩ : Addr).add j = ⟨w.heap.size, j, none⟩ := by unfold Addr.add; split <;> simp_all
  have e2 := (Box.new w 5 (madeCells #[.int .u8 0] N)).cell j
  rw [e1, e2]
  rw [List.getElem?_replicate] at hj
  split at hj
  · rename_i h
    cases hj
    rw [← Array.getElem?_toList, toList_madeCells_one, List.getElem?_replicate, if_pos h]
    rfl
  · cases hj

theorem app_new15 {n : List UInt8} (hn : named15 n = true) (b : List UInt8) (hb : b.length ≤ 4194304) : app15 D15.new n b = (⟨[(n, (b, 0))], 0, false⟩, 0) := by
  have h1 : file15 D15.new n = ([], 0) := rfl
  unfold app15
  rw [if_neg (show ¬ D15.new.down = true from Bool.false_ne_true), hn, if_neg Bool.noConfusion, h1, if_neg (by show ¬ (4194304 < 0 + b.length); omega)]
  rfl
theorem app_one15 {n : List UInt8} (hn : named15 n = true) (b c : List UInt8) (s : Nat) : app15 ⟨[(n, (b, s))], 0, false⟩ n c = if 4194304 < b.length + c.length then (⟨[(n, (b, s))], 0, false⟩, 7) else (⟨[(n, (b ++ c, s))], 0, false⟩, 0) := by
  have h1 : file15 ⟨[(n, (b, s))], 0, false⟩ n = (b, s) := by unfold file15; rw [one_get15]; rfl
  unfold app15
  rw [if_neg Bool.false_ne_true, hn, if_neg Bool.noConfusion, h1]
  split
  · rfl
  · show (cnt15 ⟨putK ltN [(n, (b, s))] n _, 0, false⟩, done15 (cnt15 ⟨[(n, (b, s))], 0, false⟩)) = _
    rw [one_put15]
    rfl
theorem bytes_one15 (n b : List UInt8) (s : Nat) : bytes15 [(n, (b, s))] = (b.length : Int) := by unfold bytes15; simp

set_option maxHeartbeats 16000000 in
theorem fills_any15 (M : World → (Nat → Prop) → Nat → D15 → Prop) (hP : Prog15 M) (less more : Int) (w : World) :
    Calls Try.prog 4 #[.int .i64 less, .int .i64 more] w fun e w' => e = .returned (.bool true) ∧ Turn (fun _ => False) w w' := by
  have HP := Lib.hid hP
  have HAL : Hid (∀ W, Calls Try.prog 8 #[] W fun e w' => e = .returned (.bool true) ∧ Turn (fun _ => False) W w') := fun W => alive_any15 M hP W
  clear hP
  by_cases h1 : less < 0
  · skip
    have HTX : Hid (Turn (fun _ => False) w w) := Turn.refl _ _
    go_enter Try.func4, Try.ntmps4
    go_wp2_with fail
    refine (HAL.out _).mono ?_
    rintro e wz ⟨rfl, tz⟩
    have HTZ := Lib.hid (HTX.out.trans tz (fun _ _ f => f))
    clear tz
    go_wp2
    go_ret
    exact ⟨rfl, HTZ.out⟩
  by_cases h2 : 100 < less
  · skip
    have HTX : Hid (Turn (fun _ => False) w w) := Turn.refl _ _
    go_enter Try.func4, Try.ntmps4
    go_wp2_with fail
    refine (HAL.out _).mono ?_
    rintro e wz ⟨rfl, tz⟩
    have HTZ := Lib.hid (HTX.out.trans tz (fun _ _ f => f))
    clear tz
    go_wp2
    go_ret
    exact ⟨rfl, HTZ.out⟩
  by_cases h3 : more < 0
  · skip
    have HTX : Hid (Turn (fun _ => False) w w) := Turn.refl _ _
    go_enter Try.func4, Try.ntmps4
    go_wp2_with fail
    refine (HAL.out _).mono ?_
    rintro e wz ⟨rfl, tz⟩
    have HTZ := Lib.hid (HTX.out.trans tz (fun _ _ f => f))
    clear tz
    go_wp2
    go_ret
    exact ⟨rfl, HTZ.out⟩
  by_cases h4 : 200 < more
  · skip
    have HTX : Hid (Turn (fun _ => False) w w) := Turn.refl _ _
    go_enter Try.func4, Try.ntmps4
    go_wp2_with fail
    refine (HAL.out _).mono ?_
    rintro e wz ⟨rfl, tz⟩
    have HTZ := Lib.hid (HTX.out.trans tz (fun _ _ f => f))
    clear tz
    go_wp2
    go_ret
    exact ⟨rfl, HTZ.out⟩
  obtain ⟨a, rfl⟩ : ∃ a : Nat, less = (a : Int) := ⟨less.toNat, by omega⟩
  obtain ⟨m, rfl⟩ : ∃ m : Nat, more = (m : Int) := ⟨more.toNat, by omega⟩
  obtain ⟨N, hN⟩ : ∃ N : Nat, N = 4194304 - a := ⟨_, rfl⟩
  have hw1 : (4194304 : Int) - (a : Int) = (N : Int) := by omega
  have hw2 : wrap64 (N : Int) = (N : Int) := IntWalk.wrap64_in _ (by omega)
  have hw3 : wrap64 ((N : Int) + (m : Int)) = ((N + m : Nat) : Int) := by rw [IntWalk.wrap64_in _ (by omega)]; omega
  have hmk : ∀ W, (Instr.makeSlice 32 (.int .i64 (N : Int)) (.int .i64 (N : Int))).run Try.prog W = .ok (.slice (some ⟨W.heap.size, 0, none⟩) N N) (W.alloc (.cells (madeCells #[.int .u8 0] N) 5)) := fun W => made_bytes15 N (by omega) W
  have hmk2 : ∀ W, (Instr.makeSlice 32 (.int .i64 (m : Int)) (.int .i64 (m : Int))).run Try.prog W = .ok (.slice (some ⟨W.heap.size, 0, none⟩) m m) (W.alloc (.cells (madeCells #[.int .u8 0] m) 5)) := fun W => made_bytes15 m (by omega) W
  have HR1 : Hid (∀ W : World, Rd (W.alloc (.cells (madeCells #[.int .u8 0] N) 5)) (.slice (some ⟨W.heap.size, 0, none⟩) N N) (List.replicate N 0)) := fun W => rd_made15 N (by omega) W
  have HR2 : Hid (∀ W : World, Rd (W.alloc (.cells (madeCells #[.int .u8 0] m) 5)) (.slice (some ⟨W.heap.size, 0, none⟩) m m) (List.replicate m 0)) := fun W => rd_made15 m (by omega) W
  have HD1 : Hid (app15 D15.new [97] (List.replicate N 0) = (⟨[([97], (List.replicate N 0, 0))], 0, false⟩, 0)) := app_new15 (by decide) _ (by rw [List.length_replicate]; omega)
  have HD2 : Hid (app15 ⟨[([97], (List.replicate N 0, 0))], 0, false⟩ [97] (List.replicate m 0) = if 4194304 < N + m then (⟨[([97], (List.replicate N 0, 0))], 0, false⟩, 7) else (⟨[([97], (List.replicate N 0 ++ List.replicate m 0, 0))], 0, false⟩, 0)) := by
    have h := app_one15 (n := [97]) (by decide) (List.replicate N 0) (List.replicate m 0) 0
    rw [List.length_replicate, List.length_replicate] at h
    exact h
  have HB1 : Hid (BdP15 ⟨[([97], (List.replicate N 0, 0))], 0, false⟩) := bd_one15 _ _ _ _ _ (Nat.zero_le _) (by rw [List.length_replicate]; omega) (by decide)
  have HB2 : Hid (N + m ≤ 4194304 → BdP15 ⟨[([97], (List.replicate N 0 ++ List.replicate m 0, 0))], 0, false⟩) := fun h => bd_one15 _ _ _ _ _ (Nat.zero_le _) (by rw [List.length_append, List.length_replicate, List.length_replicate]; exact h) (by decide)
  have HY1 : Hid (bytes15 [([97], (List.replicate N 0, 0))] = (N : Int)) := by show _ = _; rw [bytes_one15, List.length_replicate]
  have HY2 : Hid (bytes15 [([97], (List.replicate N 0 ++ List.replicate m 0, 0))] = ((N + m : Nat) : Int)) := by show _ = _; rw [bytes_one15, List.length_append, List.length_replicate, List.length_replicate]
  have HZ1 : Hid ((List.replicate N (0 : UInt8)).length ≤ maxLen) := by show _ ≤ _; rw [List.length_replicate]; unfold maxLen; omega
  have HZ2 : Hid ((List.replicate m (0 : UInt8)).length ≤ maxLen) := by show _ ≤ _; rw [List.length_replicate]; unfold maxLen; omega
  have HNM : Hid (m ≤ a ↔ ¬ (4194304 < N + m)) := by constructor <;> intro h <;> omega
  generalize List.replicate N (0 : UInt8) = Z1 at *
  generalize List.replicate m (0 : UInt8) = Z2 at *
  clear hN
  go_enter Try.func4, Try.ntmps4
  go_wp2_with fail
  refine (HP.out.new _).mono ?_
  rintro e w2 ⟨g, F, rfl, m2, t2, f2⟩
  have HM2 := Lib.hid (HP.out.turn m2 ((Turn.refl (fun _ => False) w2).alloc (.cells (madeCells #[.int .u8 0] N) 5)) (fun _ _ f => f))
  have HFR : Hid (Far15 F (.slice (some ⟨w2.heap.size, 0, none⟩) N N) Z1) := .inr fun k hk hf => by cases hk; exact Nat.lt_irrefl _ (HP.out.lt m2 _ hf)
  have HT2 := Lib.hid (t2.alloc (.cells (madeCells #[.int .u8 0] N) 5))
  have HF2 := Lib.hid f2
  clear m2 t2 f2
  go_wp2_with fail
  refine (HP.out.app [97] _ Z1 HM2.out bd_new15 (HR1.out w2) HFR.out HZ1.out).mono ?_
  rw [HD1.out]
  rintro e w3 ⟨rfl, F3, m3, t3, f3⟩
  have HM3 := Lib.hid (HP.out.turn m3 ((Turn.refl (fun _ => False) w3).alloc (.cells (madeCells #[.int .u8 0] m) 5)) (fun _ _ f => f))
  have HFS : Hid (Far15 F3 (.slice (some ⟨w3.heap.size, 0, none⟩) m m) Z2) := .inr fun k hk hf => by cases hk; exact Nat.lt_irrefl _ (HP.out.lt m3 _ hf)
  have HT3 := Lib.hid ((app_turn15 HT2.out HF2.out t3).alloc (.cells (madeCells #[.int .u8 0] m) 5))
  have HF3 := Lib.hid (foot15 HF2.out HT2.out f3)
  clear m3 t3 f3 HM2 HT2 HF2 HFR HD1 hmk
  have HAP := Lib.hid (HP.out.app [97] _ Z2 HM3.out HB1.out (HR2.out w3) HFS.out HZ2.out)
  rw [HD2.out] at HAP
  clear HM3 HFS HD2
  by_cases hma : m ≤ a
  · have hma' : (m : Int) ≤ a := by omega
    have HLT := HNM.out.1 hma
    rw [if_neg HLT] at HAP
    have HB3 := Lib.hid (HB2.out (by omega))
    clear HLT hma HNM HB2
    go_wp2_with fail
    refine HAP.out.mono ?_
    rintro e w4 ⟨rfl, F4, m4, t4, f4⟩
    have HT4 := Lib.hid (app_turn15 HT3.out HF3.out t4)
    have HBY := Lib.hid (HP.out.bytes m4 HB3.out)
    dsimp only at HBY
    rw [HY2.out] at HBY
    clear m4 t4 f4 HAP HT3 HF3 hmk2
    go_wp2_with fail
    refine HBY.out.mono ?_
    rintro e w5 ⟨rfl, t5⟩
    have HTX := Lib.hid (HT4.out.trans t5 (fun _ _ f => f))
    clear t5 HBY HT4
    go_wp2_with fail
    refine (HAL.out _).mono ?_
    rintro e wz ⟨rfl, tz⟩
    have HTZ := Lib.hid (HTX.out.trans tz (fun _ _ f => f))
    clear tz
    go_wp2
    go_ret
    exact ⟨rfl, HTZ.out⟩
  · have hma' : ¬ ((m : Int) ≤ a) := by omega
    have HLT : 4194304 < N + m := by
      by_cases c : 4194304 < N + m
      · exact c
      · exact absurd (HNM.out.2 c) hma
    rw [if_pos HLT] at HAP
    clear HLT hma HNM HB2
    go_wp2_with fail
    refine HAP.out.mono ?_
    rintro e w4 ⟨rfl, F4, m4, t4, f4⟩
    have HT4 := Lib.hid (app_turn15 HT3.out HF3.out t4)
    have HBY := Lib.hid (HP.out.bytes m4 HB1.out)
    dsimp only at HBY
    rw [HY1.out] at HBY
    clear m4 t4 f4 HAP HT3 HF3 hmk2
    go_wp2_with fail
    refine HBY.out.mono ?_
    rintro e w5 ⟨rfl, t5⟩
    have HTX := Lib.hid (HT4.out.trans t5 (fun _ _ f => f))
    clear t5 HBY HT4
    go_wp2_with fail
    refine (HAL.out _).mono ?_
    rintro e wz ⟨rfl, tz⟩
    have HTZ := Lib.hid (HTX.out.trans tz (fun _ _ f => f))
    clear tz
    go_wp2
    go_ret
    exact ⟨rfl, HTZ.out⟩

end Go.Proofs.Ytclljogbingjiaa
