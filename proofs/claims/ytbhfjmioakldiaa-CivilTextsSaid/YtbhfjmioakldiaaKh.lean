
/-
  Digits and texts of hours, plain.
-/
import Derived.Test.YtbhfjmioakldiaaKc
namespace Go.Proofs.Ytbhfjmioakldiaa
open Go.RowKit

/-- The last digit; the last k digits. -/
def dgt (n : Nat) : UInt8 := UInt8.ofNat (48 + n % 10)
def dg : Nat → Nat → List UInt8
  | _, 0 => []
  | n, k + 1 => dg (n / 10) k ++ [dgt n]
theorem dg_len : ∀ (k n : Nat), (dg n k).length = k
  | 0, _ => rfl
  | k + 1, n => by
    show (dg (n / 10) k ++ [dgt n]).length = _
    rw [List.length_append, dg_len k]
    rfl
theorem dgt_nat (n : Nat) : (dgt n).toNat = 48 + n % 10 := by
  unfold dgt
  rw [UInt8.toNat_ofNat']
  omega

/-- A number of digits; what is none counts as 0. -/
def isd (c : UInt8) : Bool := decide (48 ≤ c.toNat) && decide (c.toNat ≤ 57)
def eatd (n : Nat) (c : UInt8) : Nat := if isd c then 10 * n + (c.toNat - 48) else n
def numr (l : List UInt8) : Nat := l.foldl eatd 0
theorem numr_snoc (l : List UInt8) (c : UInt8) : numr (l ++ [c]) = eatd (numr l) c := by
  unfold numr
  rw [List.foldl_append]
  rfl
theorem isd_dgt (n : Nat) : isd (dgt n) = true := by
  unfold isd
  rw [dgt_nat]
  simp
  omega
theorem numr_dg : ∀ (k n : Nat), numr (dg n k) = n % 10 ^ k
  | 0, n => by
    show 0 = n % 1
    omega
  | k + 1, n => by
    show numr (dg (n / 10) k ++ [dgt n]) = _
    rw [numr_snoc, numr_dg k]
    unfold eatd
    rw [if_pos (isd_dgt n), dgt_nat, Nat.pow_succ, Nat.mul_comm (10 ^ k) 10, Nat.mod_mul]
    omega
theorem dg_all (k n : Nat) : (dg n k).all isd = true := by
  induction k generalizing n with
  | zero => rfl
  | succ k ih =>
    show (dg (n / 10) k ++ [dgt n]).all isd = true
    rw [List.all_append, ih]
    simp [isd_dgt]
theorem numr_lt (l : List UInt8) : numr l < 10 ^ l.length := by
  suffices h : ∀ (l : List UInt8) (n B : Nat), n < B → l.foldl eatd n < B * 10 ^ l.length by
    have := h l 0 1 (by omega)
    rw [Nat.one_mul] at this
    exact this
  intro l
  induction l with
  | nil =>
    intro n B h
    simpa using h
  | cons c l ih =>
    intro n B h
    have h1 : eatd n c < B * 10 := by
      unfold eatd
      split
      · rename_i hd
        unfold isd at hd
        simp at hd
        omega
      · omega
    have := ih (eatd n c) (B * 10) h1
    rw [List.length_cons, Nat.pow_succ, Nat.mul_comm (10 ^ l.length) 10, ← Nat.mul_assoc]
    exact this
theorem numr_take {l : List UInt8} {k : Nat} {c : UInt8} (h : l[k]? = some c) : numr (l.take (k + 1)) = eatd (numr (l.take k)) c := by
  obtain ⟨hk, e⟩ := List.getElem?_eq_some_iff.1 h
  rw [List.take_succ_eq_append_getElem hk, e, numr_snoc]
theorem dg_numr : ∀ (k : Nat) (l : List UInt8), l.length = k → l.all isd = true → dg (numr l) k = l
  | 0, l, h, _ => by
    rw [List.eq_nil_of_length_eq_zero h]
    rfl
  | k + 1, l, h, ha => by
    obtain ⟨l', c, rfl⟩ : ∃ l' c, l = l' ++ [c] := by
      have hne : l ≠ [] := by
        intro e
        subst e
        simp at h
      exact ⟨l.dropLast, l.getLast hne, (List.dropLast_concat_getLast hne).symm⟩
    rw [List.length_append, List.length_singleton] at h
    rw [List.all_append] at ha
    simp at ha
    have ih := dg_numr k l' (by omega) (by simpa using ha.1)
    rw [numr_snoc]
    unfold eatd
    rw [if_pos ha.2]
    have hc := ha.2
    unfold isd at hc
    simp at hc
    show dg ((10 * numr l' + (c.toNat - 48)) / 10) k ++ [dgt (10 * numr l' + (c.toNat - 48))] = _
    have e1 : (10 * numr l' + (c.toNat - 48)) / 10 = numr l' := by omega
    have e2 : dgt (10 * numr l' + (c.toNat - 48)) = c := by
      apply UInt8.toNat_inj.1
      rw [dgt_nat]
      omega
    rw [e1, e2, ih]

/-- The text of a date's hour; of an hour. -/
def laidT (y m d h : Nat) : List UInt8 := dg y 4 ++ (45 :: dg m 2 ++ (45 :: dg d 2 ++ (84 :: dg h 2)))
def textL (h : Nat) : List UInt8 := laidT (dateOf (h / 24)).1 (dateOf (h / 24)).2.1 (dateOf (h / 24)).2.2 (h % 24)
theorem laidT_len (y m d h : Nat) : (laidT y m d h).length = 13 := by simp [laidT, dg_len]
theorem textL_len (h : Nat) : (textL h).length = 13 := laidT_len _ _ _ _

/-- A text's marks: its four numbers, if it has the form. -/
def formL : List UInt8 := [48, 48, 48, 48, 45, 48, 48, 45, 48, 48, 84, 48, 48]
def okc (c f : UInt8) : Bool := if f = 48 then isd c else c == f
def fits (l : List UInt8) (k : Nat) : Bool := ((l.take k).zip formL).all fun x => okc x.1 x.2
def fld (k : Nat) : Nat := (formL.take k).countP (fun f => f != 48)
def vals (l : List UInt8) : Nat → List Nat
  | 0 => [0, 0, 0, 0]
  | k + 1 => if formL.getD k 0 = 48 then (vals l k).set (fld k) (10 * (vals l k).getD (fld k) 0 + ((l.getD k 0).toNat - 48)) else vals l k

theorem thirteen {l : List UInt8} (h : l.length = 13) : ∃ a b c d e f g i j k m n o, l = [a, b, c, d, e, f, g, i, j, k, m, n, o] := by
  match l, h with
  | [a, b, c, d, e, f, g, i, j, k, m, n, o], _ => exact ⟨a, b, c, d, e, f, g, i, j, k, m, n, o, rfl⟩

theorem fits_form {l : List UInt8} (h : l.length = 13) (hf : fits l 13 = true) :
    ∃ A B C D, l = A ++ (45 :: B ++ (45 :: C ++ (84 :: D))) ∧ A.length = 4 ∧ B.length = 2 ∧ C.length = 2 ∧ D.length = 2 ∧ A.all isd = true ∧ B.all isd = true ∧ C.all isd = true ∧ D.all isd = true ∧
      vals l 13 = [numr A, numr B, numr C, numr D] := by
  obtain ⟨a, b, c, d, e, f, g, i, j, k, m, n, o, rfl⟩ := thirteen h
  have h1 : (isd a && (isd b && (isd c && (isd d && ((e == 45) && (isd f && (isd g && ((i == 45) && (isd j && (isd k && ((m == 84) && (isd n && (isd o && true))))))))))))) = true := hf
  simp only [Bool.and_true, Bool.and_eq_true, beq_iff_eq] at h1
  obtain ⟨ha, hb, hc, hd, rfl, hf1, hg, rfl, hj, hk, rfl, hn, ho⟩ := h1
  refine ⟨[a, b, c, d], [f, g], [j, k], [n, o], rfl, rfl, rfl, rfl, rfl, ?_, ?_, ?_, ?_, ?_⟩
  · simp [ha, hb, hc, hd]
  · simp [hf1, hg]
  · simp [hj, hk]
  · simp [hn, ho]
  · show [10 * (10 * (10 * (10 * 0 + (a.toNat - 48)) + (b.toNat - 48)) + (c.toNat - 48)) + (d.toNat - 48), 10 * (10 * 0 + (f.toNat - 48)) + (g.toNat - 48), 10 * (10 * 0 + (j.toNat - 48)) + (k.toNat - 48), 10 * (10 * 0 + (n.toNat - 48)) + (o.toNat - 48)] = _
    simp [numr, eatd, ha, hb, hc, hd, hf1, hg, hj, hk, hn, ho]

theorem form_fits {A B C D : List UInt8} (a : A.length = 4) (b : B.length = 2) (c : C.length = 2) (d : D.length = 2) (ha : A.all isd = true) (hb : B.all isd = true) (hc : C.all isd = true) (hd : D.all isd = true) :
    fits (A ++ (45 :: B ++ (45 :: C ++ (84 :: D)))) 13 = true := by
  match A, a, B, b, C, c, D, d with
  | [a, b, c, d], _, [f, g], _, [j, k], _, [n, o], _ =>
    simp only [List.all_cons, List.all_nil, Bool.and_true, Bool.and_eq_true] at ha hb hc hd
    show (isd a && (isd b && (isd c && (isd d && (((45 : UInt8) == 45) && (isd f && (isd g && (((45 : UInt8) == 45) && (isd j && (isd k && (((84 : UInt8) == 84) && (isd n && (isd o && true))))))))))))) = true
    simp [ha, hb, hc, hd]

theorem laidT_fits (y m d h : Nat) : fits (laidT y m d h) 13 = true :=
  form_fits (dg_len _ _) (dg_len _ _) (dg_len _ _) (dg_len _ _) (dg_all _ _) (dg_all _ _) (dg_all _ _) (dg_all _ _)
theorem parts_eq {A B C D A' B' C' D' : List UInt8} (e : A ++ (45 :: B ++ (45 :: C ++ (84 :: D))) = A' ++ (45 :: B' ++ (45 :: C' ++ (84 :: D')))) (a : A.length = A'.length) (b : B.length = B'.length) (c : C.length = C'.length) :
    A = A' ∧ B = B' ∧ C = C' ∧ D = D' := by
  simp only [List.cons_append] at e
  obtain ⟨e1, e2⟩ := List.append_inj e a
  obtain ⟨e3, e4⟩ := List.append_inj (List.cons.inj e2).2 b
  obtain ⟨e5, e6⟩ := List.append_inj (List.cons.inj e4).2 c
  exact ⟨e1, e3, e5, (List.cons.inj e6).2⟩
theorem laidT_vals {y m d h : Nat} (hy : y < 10000) (hm : m < 100) (hd : d < 100) (hh : h < 100) : vals (laidT y m d h) 13 = [y, m, d, h] := by
  obtain ⟨A, B, C, D, e, a, b, c, d', _, _, _, _, hv⟩ := fits_form (laidT_len y m d h) (laidT_fits y m d h)
  obtain ⟨rfl, rfl, rfl, rfl⟩ := parts_eq e (by rw [dg_len, a]) (by rw [dg_len, b]) (by rw [dg_len, c])
  rw [hv, numr_dg, numr_dg, numr_dg, numr_dg, Nat.mod_eq_of_lt hy, Nat.mod_eq_of_lt hm, Nat.mod_eq_of_lt hd, Nat.mod_eq_of_lt hh]

/-- An hour's date. -/
theorem hour_date {h : Nat} (hh : h ≤ 16777216) : Valid (dateOf (h / 24)).1 (dateOf (h / 24)).2.1 (dateOf (h / 24)).2.2 ∧ num (dateOf (h / 24)).1 (dateOf (h / 24)).2.1 (dateOf (h / 24)).2.2 = h / 24 ∧ (dateOf (h / 24)).1 ≤ 4900 ∧
    (dateOf (h / 24)).2.1 ≤ 12 ∧ (dateOf (h / 24)).2.2 ≤ 31 := by
  obtain ⟨v, e⟩ := dateOf_spec (h / 24)
  have l1 := num_lt v
  have l2 := ydays_ahd v.1
  have l3 := mlen_le (dateOf (h / 24)).1 (dateOf (h / 24)).2.1
  refine ⟨v, e, ?_, v.2.2.1, by have := v.2.2.2.2; omega⟩
  unfold ahd at l2
  omega
theorem textL_vals {h : Nat} (hh : h ≤ 16777216) : vals (textL h) 13 = [(dateOf (h / 24)).1, (dateOf (h / 24)).2.1, (dateOf (h / 24)).2.2, h % 24] := by
  obtain ⟨_, _, a, b, c⟩ := hour_date hh
  exact laidT_vals (by omega) (by omega) (by omega) (by omega)
theorem textL_inj {h g : Nat} (hh : h ≤ 16777216) (hg : g ≤ 16777216) (e : textL h = textL g) : h = g := by
  obtain ⟨v, n, _⟩ := hour_date hh
  obtain ⟨v', n', _⟩ := hour_date hg
  have h1 := textL_vals hh
  rw [e, textL_vals hg] at h1
  simp only [List.cons.injEq, and_true] at h1
  obtain ⟨e1, e2, e3, e4⟩ := h1
  rw [e1, e2, e3] at n'
  omega

/-- What Parse answers. -/
def Parsed (l : List UInt8) (n : Nat) (b : Bool) : Prop := (b = true ∧ n ≤ 16777216 ∧ l = textL n) ∨ (b = false ∧ n = 0 ∧ ∀ h, h ≤ 16777216 → l ≠ textL h)
theorem parsed_one {l : List UInt8} {n n' : Nat} {b b' : Bool} (h : Parsed l n b) (h' : Parsed l n' b') : n = n' ∧ b = b' := by
  rcases h with ⟨rfl, h1, h2⟩ | ⟨rfl, rfl, h2⟩
  · rcases h' with ⟨rfl, g1, g2⟩ | ⟨rfl, rfl, g2⟩
    · exact ⟨textL_inj h1 g1 (h2.symm.trans g2), rfl⟩
    · exact absurd h2 (g2 n h1)
  · rcases h' with ⟨rfl, g1, g2⟩ | ⟨rfl, rfl, g2⟩
    · exact absurd g2 (h2 n' g1)
    · exact ⟨rfl, rfl⟩
theorem parsed_text {h : Nat} (hh : h ≤ 16777216) : Parsed (textL h) h true := .inl ⟨rfl, hh, rfl⟩
/-- What has the form, and is a date's hour, is that hour's text. -/
theorem parsed_yes {l : List UInt8} {y m d h n : Nat} (hl : l.length = 13) (hf : fits l 13 = true) (hv : vals l 13 = [y, m, d, h]) (v : Valid y m d) (hh : h < 24) (hn : n = 24 * num y m d + h) (hm : n ≤ 16777216) : Parsed l n true := by
  refine .inl ⟨rfl, hm, ?_⟩
  obtain ⟨A, B, C, D, rfl, a, b, c, d', ha, hb, hc, hd, hv'⟩ := fits_form hl hf
  rw [hv] at hv'
  simp only [List.cons.injEq, and_true] at hv'
  obtain ⟨rfl, rfl, rfl, rfl⟩ := hv'
  have e1 : n / 24 = num (numr A) (numr B) (numr C) := by omega
  have e2 : n % 24 = numr D := by omega
  unfold textL
  rw [e1, e2, date_is v rfl]
  unfold laidT
  rw [dg_numr 4 A a ha, dg_numr 2 B b hb, dg_numr 2 C c hc, dg_numr 2 D d' hd]
theorem parsed_no {l : List UInt8} (h : ∀ h, h ≤ 16777216 → l ≠ textL h) : Parsed l 0 false := .inr ⟨rfl, rfl, h⟩

end Go.Proofs.Ytbhfjmioakldiaa
