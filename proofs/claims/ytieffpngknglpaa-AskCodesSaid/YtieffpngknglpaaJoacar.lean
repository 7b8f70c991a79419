/-
  Texts laid one behind the other: Zp Q1a.
-/
import Derived.Test.YtieffpngknglpaaJoacaq
import Derived.Test.YtieffpngknglpaaJoacan
import Derived.Test.YtieffpngknglpaaJoacam

/-
  Stage 9, plain: there and back.
-/
namespace Go.Proofs.Ytieffpngknglpaa
open Go.RowKit

theorem zig_zag9 (n : Nat) : zig (zag n) = n := by
  unfold zig zag
  by_cases h : n % 2 = 0
  · rw [if_pos h, if_pos (by omega)]
    omega
  · rw [if_neg h, if_neg (by omega)]
    omega
theorem mid_of (b : UInt8) (q : Nat) (hb : 128 ≤ b.toNat) : mid (b.toNat - 128 + q * 128) = b := by
  have hlt : b.toNat < 256 := UInt8.toNat_lt b
  apply UInt8.toNat_inj.1
  unfold mid
  rw [UInt8.toNat_ofNat']
  omega
theorem low_of (b : UInt8) : low b.toNat = b := by
  apply UInt8.toNat_inj.1
  exact low_toNat _ (UInt8.toNat_lt b)
/-- What is read as a number is just what would be put, and what is left. -/
theorem rdF_exact : ∀ (g i acc : Nat) (l : List UInt8), (rdF g i acc l).2.1 = 0 →
    ∃ q, (rdF g i acc l).1 = acc + q * 128 ^ i ∧ i ≤ (rdF g i acc l).2.2 ∧ l = encF (g - 1) q ++ l.drop ((rdF g i acc l).2.2 - i) ∧ (0 < i → 0 < q)
  | 0, _, _, _, h => by cases h
  | _ + 1, _, _, [], h => by cases h
  | g + 1, i, acc, b :: l, h => by
    have e : rdF (g + 1) i acc (b :: l) = if 128 ≤ b.toNat then rdF g (i + 1) (acc + (b.toNat - 128) * 128 ^ i) l
      else if (0 < i ∧ b.toNat = 0) ∨ (i = 9 ∧ 1 < b.toNat) then (0, 4, i + 1) else (acc + b.toNat * 128 ^ i, 0, i + 1) := rfl
    rw [e] at h ⊢
    by_cases hb : 128 ≤ b.toNat
    · rw [if_pos hb] at h ⊢
      obtain ⟨q, h1, h2, h3, h4⟩ := rdF_exact g (i + 1) _ l h
      have hq := h4 (by omega)
      have hlt : b.toNat < 256 := UInt8.toNat_lt b
      cases g with
      | zero => cases h
      | succ g =>
        refine ⟨b.toNat - 128 + q * 128, ?_, by omega, ?_, fun _ => by omega⟩
        · rw [h1, Nat.pow_succ, Nat.add_mul, Nat.mul_assoc q 128, Nat.mul_comm 128 (128 ^ i)]
          omega
        · have e2 : encF (g + 1) (b.toNat - 128 + q * 128) = b :: encF g q := by
            show (if _ < 128 then _ else _) = _
            rw [if_neg (by omega), mid_of b q hb, show (b.toNat - 128 + q * 128) / 128 = q by omega]
          show b :: l = encF (g + 1) _ ++ _
          rw [e2]
          generalize (rdF (g + 1) (i + 1) (acc + (b.toNat - 128) * 128 ^ i) l).2.2 = n at *
          rw [show n - i = (n - (i + 1)) + 1 by omega, List.drop_succ_cons, List.cons_append]
          congr 1
    · rw [if_neg hb] at h ⊢
      by_cases hz : (0 < i ∧ b.toNat = 0) ∨ (i = 9 ∧ 1 < b.toNat)
      · rw [if_pos hz] at h
        cases h
      · rw [if_neg hz]
        refine ⟨b.toNat, rfl, by show i ≤ i + 1; omega, ?_, fun hi => by omega⟩
        have e2 : encF g b.toNat = [b] := by
          cases g with
          | zero => show [low b.toNat] = [b]; rw [low_of]
          | succ g =>
            show (if _ < 128 then _ else _) = _
            rw [if_pos (by omega), low_of]
        show b :: l = encF g b.toNat ++ _
        rw [e2, show i + 1 - i = 1 by omega]
        rfl
theorem rdNum_exact {l : List UInt8} (h : (rdNum l).2.1 = 0) : l = enc (rdNum l).1 ++ l.drop (rdNum l).2.2 := by
  obtain ⟨q, h1, _, h2, _⟩ := rdF_exact 10 0 0 l h
  have e : (rdNum l).1 = q := by
    show (rdF 10 0 0 l).1 = q
    rw [h1]
    simp
  rw [e]
  exact h2
theorem num_there {s : RS9} (h : (sNum' s).2 = 0) : s.2 = 0 ∧ s.1 = enc (sNum s) ++ (sNum' s).1 := by
  unfold sNum sNum' at *
  by_cases hs : s.2 = 0
  · rw [if_pos hs] at h
    rw [if_pos hs, if_pos hs]
    exact ⟨hs, rdNum_exact h⟩
  · rw [if_neg hs] at h
    exact absurd h hs
theorem text_there {s : RS9} (h : (sText' s).2 = 0) : s.2 = 0 ∧ s.1 = textB (sText s) ++ (sText' s).1 ∧ (sText s).length ≤ 16 := by
  unfold sText sText' at *
  by_cases hs : s.2 = 0
  · rw [if_pos hs] at h
    rw [if_pos hs, if_pos hs]
    refine ⟨hs, ?_⟩
    unfold rdText rdCount at h ⊢
    by_cases h1 : (rdNum s.1).2.1 = 0
    · by_cases h2 : 16 < (rdNum s.1).1
      · simp [h1, h2] at h
      · by_cases h3 : (s.1.drop (rdNum s.1).2.2).length < (rdNum s.1).1
        · simp only [h1, h2, ne_eq, not_true_eq_false, if_false, h3, if_true] at h
          cases h
        · simp only [h1, h2, ne_eq, not_true_eq_false, if_false, h3]
          have hl : ((s.1.drop (rdNum s.1).2.2).take (rdNum s.1).1).length = (rdNum s.1).1 := by rw [List.length_take]; omega
          refine ⟨?_, by omega⟩
          unfold textB
          rw [hl]
          have e := rdNum_exact h1
          conv => lhs; rw [e]
          rw [List.append_assoc, ← List.drop_drop, List.take_append_drop]
    · simp only [ne_eq, h1, not_false_eq_true, if_true] at h
  · rw [if_neg hs] at h
    exact absurd h hs
theorem count_there {s : RS9} (h : (sCount' s).2 = 0) : s.2 = 0 ∧ s.1 = enc (sCount s) ++ (sCount' s).1 ∧ sCount s ≤ 50 := by
  unfold sCount sCount' at *
  by_cases hs : s.2 = 0
  · rw [if_pos hs] at h
    rw [if_pos hs, if_pos hs]
    refine ⟨hs, ?_⟩
    unfold rdCount at h ⊢
    by_cases h1 : (rdNum s.1).2.1 = 0
    · by_cases h2 : 50 < (rdNum s.1).1
      · simp [h1, h2] at h
      · simp only [h1, h2, ne_eq, not_true_eq_false, if_false]
        exact ⟨rdNum_exact h1, by omega⟩
    · simp only [ne_eq, h1, not_false_eq_true, if_true] at h
  · rw [if_neg hs] at h
    exact absurd h hs


theorem dim_put {k : K9} {i j : Nat} (hi : i < 4) (hj : j < 4) (t : List UInt8) : (k.put i t).dim j = if i = j then t else k.dim j := by
  match i, hi, j, hj with
  | 0, _, 0, _ => rfl
  | 0, _, 1, _ => rfl
  | 0, _, 2, _ => rfl
  | 0, _, 3, _ => rfl
  | 1, _, 0, _ => rfl
  | 1, _, 1, _ => rfl
  | 1, _, 2, _ => rfl
  | 1, _, 3, _ => rfl
  | 2, _, 0, _ => rfl
  | 2, _, 1, _ => rfl
  | 2, _, 2, _ => rfl
  | 2, _, 3, _ => rfl
  | 3, _, 0, _ => rfl
  | 3, _, 1, _ => rfl
  | 3, _, 2, _ => rfl
  | 3, _, 3, _ => rfl
theorem put_h {k : K9} {i : Nat} (t : List UInt8) : (k.put i t).h = k.h := by
  unfold K9.put
  split <;> rfl
theorem texts_same {k k' : K9} : ∀ n, (∀ j, j < n → k.dim j = k'.dim j) → textsB k n = textsB k' n
  | 0, _ => rfl
  | n + 1, h => by
    show textsB k n ++ textB (k.dim n) = textsB k' n ++ textB (k'.dim n)
    rw [texts_same n (fun j hj => h j (by omega)), h n (by omega)]
theorem textsK_h (k0 : K9) (s : RS9) : ∀ n, (textsK k0 s n).1.h = k0.h
  | 0 => rfl
  | n + 1 => by
    show ((textsK k0 s n).1.put n _).h = k0.h
    rw [put_h, textsK_h k0 s n]
theorem texts_there (k0 : K9) (s : RS9) : ∀ n, n ≤ 4 → (textsK k0 s n).2.2 = 0 → s.2 = 0 ∧ s.1 = textsB (textsK k0 s n).1 n ++ (textsK k0 s n).2.1
  | 0, _, h => ⟨h, rfl⟩
  | n + 1, hn, h => by
    obtain ⟨h1, h2, _⟩ := text_there (s := (textsK k0 s n).2) h
    obtain ⟨g1, g2⟩ := texts_there k0 s n (by omega) h1
    refine ⟨g1, ?_⟩
    have e1 : textsB (textsK k0 s (n + 1)).1 (n + 1) = textsB (textsK k0 s n).1 n ++ textB (sText (textsK k0 s n).2) := by
      show textsB ((textsK k0 s n).1.put n _) n ++ textB (((textsK k0 s n).1.put n _).dim n) = _
      rw [dim_put (by omega) (by omega), if_pos rfl, texts_same n (k' := (textsK k0 s n).1) (fun j hj => by rw [dim_put (by omega) (by omega), if_neg (by omega)])]
    have e2 : (textsK k0 s (n + 1)).2.1 = (sText' (textsK k0 s n).2).1 := rfl
    rw [e1, e2, List.append_assoc, ← h2]
    exact g2
theorem one_there {n h : Nat} {s : RS9} (hn : n ≤ 4) (hf : (oneF n h s).2.2 = 0) : s.2 = 0 ∧ enc h ++ s.1 = factB n (oneF n h s).1 ++ (oneF n h s).2.1 := by
  obtain ⟨h1, h2⟩ := num_there (s := (textsK ⟨h, [], [], [], []⟩ s n).2) hf
  obtain ⟨g1, g2⟩ := texts_there _ s n hn h1
  refine ⟨g1, ?_⟩
  have e1 : (oneF n h s).1.k.h.toNat = h := by
    show (textsK _ s n).1.h.toNat = h
    rw [textsK_h]
    simp
  have e2 : zig (oneF n h s).1.v = sNum (textsK ⟨h, [], [], [], []⟩ s n).2 := by
    show zig (sInt _) = _
    unfold sInt sNum
    rw [if_pos h1, if_pos h1, zig_zag9]
  unfold factB
  rw [e1, e2, g2]
  have e3 : (oneF n h s).2.1 = (sNum' (textsK ⟨h, [], [], [], []⟩ s n).2).1 := rfl
  rw [e3]
  conv => lhs; rw [h2]
  simp only [List.append_assoc]
  rfl
theorem readR_there {n : Nat} (hn : n ≤ 4) : ∀ (i : Nat) (s : RS9) (out res : List F9), readR n i s out = (0, res) → s.2 = 0 ∧ ∃ new, res = out ++ new ∧ new.length = i ∧ s.1 = new.flatMap (factB n) ∧ (allB res n).1 = 0
  | 0, s, out, res, h => by
    unfold readR at h
    split at h
    · rename_i hs
      have := congrArg Prod.fst h
      simp at this
      exact absurd this hs
    · rename_i hs
      split at h
      · cases congrArg Prod.fst h
      · rename_i hl
        split at h
        · rename_i ha
          exact absurd (congrArg Prod.fst h) ha
        · rename_i ha
          have e : out = res := congrArg Prod.snd h
          subst e
          exact ⟨by omega, [], by simp, rfl, List.eq_nil_of_length_eq_zero (by omega), by omega⟩
  | i + 1, s, out, res, h => by
    unfold readR at h
    split at h
    · cases congrArg Prod.fst h
    · rename_i hb
      split at h
      · rename_i hf
        have := congrArg Prod.fst h
        simp at this
        exact absurd this hf
      · rename_i hf
        have hf0 : (oneF n (sNum s) (sNum' s)).2.2 = 0 := by omega
        obtain ⟨h1, new, h2, h3, h4, h5⟩ := readR_there hn i _ _ res h
        obtain ⟨g1, g2⟩ := one_there hn hf0
        obtain ⟨k1, k2⟩ := num_there g1
        refine ⟨k1, (oneF n (sNum s) (sNum' s)).1 :: new, by rw [h2]; simp, by rw [List.length_cons, h3], ?_, h5⟩
        rw [k2, g2, h4]
        rfl
theorem readB_there {m : List UInt8} {n : Int} {res : List F9} (h : readB m n = (0, res)) : m = batchB res n.toNat ∧ (allB res n).1 = 0 := by
  unfold readB at h
  split at h
  · rename_i hd
    unfold okDims at hd
    simp only [Bool.and_eq_true, decide_eq_true_iff] at hd
    obtain ⟨N, rfl⟩ := Int.eq_ofNat_of_zero_le (show 0 ≤ n by omega)
    rw [Int.toNat_natCast] at h ⊢
    obtain ⟨h1, new, h2, h3, h4, h5⟩ := readR_there (by omega) _ _ _ _ h
    rw [List.nil_append] at h2
    subst h2
    obtain ⟨_, g2, _⟩ := count_there h1
    refine ⟨?_, h5⟩
    unfold batchB
    rw [h3, ← h4]
    exact g2
  · cases congrArg Prod.fst h
theorem readB_none {m : List UInt8} {n : Int} (h : (readB m n).1 ≠ 0) : (readB m n).2 = [] := by
  have key : ∀ (N i : Nat) (s : RS9) (out : List F9), (readR N i s out).1 ≠ 0 → (readR N i s out).2 = [] := by
    intro N i
    induction i with
    | zero =>
      intro s out h
      unfold readR at h ⊢
      split
      · rfl
      · rename_i h1
        rw [if_neg h1] at h
        split
        · rfl
        · rename_i h2
          rw [if_neg h2] at h
          split
          · rfl
          · rename_i h3
            rw [if_neg h3] at h
            exact absurd rfl h
    | succ i ih =>
      intro s out h
      unfold readR at h ⊢
      split
      · rfl
      · rename_i h1
        rw [if_neg h1] at h
        split
        · rfl
        · rename_i h2
          rw [if_neg h2] at h
          exact ih _ _ h
  unfold readB at h ⊢
  split
  · rename_i h1
    rw [if_pos h1] at h
    exact key _ _ _ _ h
  · rfl

theorem num_back {n : Nat} (hn : Hid (n < 18446744073709551616)) (r : List UInt8) : sNum (enc n ++ r, 0) = n ∧ sNum' (enc n ++ r, 0) = (r, 0) := by
  unfold sNum sNum'
  simp only [if_true]
  rw [rdNum_enc n r hn]
  exact ⟨rfl, by simp⟩
theorem int_back {v : Int} (h1 : Hid (-9223372036854775808 ≤ v)) (h2 : Hid (v ≤ 9223372036854775807)) (r : List UInt8) : sInt (enc (zig v) ++ r, 0) = v ∧ sNum' (enc (zig v) ++ r, 0) = (r, 0) := by
  have hz := zig_lt v h1 h2
  refine ⟨?_, (num_back hz r).2⟩
  unfold sInt
  simp only [if_true]
  rw [rdNum_enc _ r hz, zag_zig]
theorem text_back {t : List UInt8} (ht : t.length ≤ 16) (r : List UInt8) : sText (textB t ++ r, 0) = t ∧ sText' (textB t ++ r, 0) = (r, 0) := by
  have hn : Hid (t.length < 18446744073709551616) := by show _ < _; omega
  have e : rdNum (textB t ++ r) = (t.length, 0, (enc t.length).length) := by
    unfold textB
    rw [List.append_assoc]
    exact rdNum_enc t.length (t ++ r) hn
  have ed : (textB t ++ r).drop (enc t.length).length = t ++ r := by
    unfold textB
    rw [List.append_assoc, List.drop_left]
  have e2 : rdText 16 (textB t ++ r) = (t, 0, (enc t.length).length + t.length) := by
    unfold rdText rdCount
    rw [e]
    have h16 : ¬ 16 < t.length := by omega
    simp only [ne_eq, not_true_eq_false, if_false, h16, ed]
    rw [if_neg (by rw [List.length_append]; omega), List.take_left]
  unfold sText sText'
  simp only [if_true]
  rw [e2]
  refine ⟨rfl, ?_⟩
  show ((textB t ++ r).drop ((enc t.length).length + t.length), 0) = _
  rw [← List.drop_drop, ed, List.drop_left]
theorem count_back {n : Nat} (hn : n ≤ 50) (r : List UInt8) : sCount (enc n ++ r, 0) = n ∧ sCount' (enc n ++ r, 0) = (r, 0) := by
  have e := rdNum_enc n r (by show _ < _; omega)
  have e2 : rdCount 50 (enc n ++ r) = (n, 0, (enc n).length) := by
    unfold rdCount
    rw [e]
    have h50 : ¬ 50 < n := by omega
    simp [h50]
  unfold sCount sCount'
  simp only [if_true]
  rw [e2]
  exact ⟨rfl, by simp⟩
/-- A key's first texts put into another. -/
def putN (k0 k : K9) : Nat → K9
  | 0 => k0
  | i + 1 => (putN k0 k i).put i (k.dim i)
theorem texts_back (k0 k : K9) (hk : ∀ i, i < 4 → (k.dim i).length ≤ 16) : ∀ (n : Nat) (r : List UInt8), n ≤ 4 → textsK k0 (textsB k n ++ r, 0) n = (putN k0 k n, (r, 0))
  | 0, _, _ => rfl
  | n + 1, r, hn => by
    have ih := texts_back k0 k hk n (textB (k.dim n) ++ r) (by omega)
    have e : textsB k (n + 1) ++ r = textsB k n ++ (textB (k.dim n) ++ r) := by
      show textsB k n ++ textB (k.dim n) ++ r = _
      rw [List.append_assoc]
    rw [e]
    show ((textsK k0 (textsB k n ++ (textB (k.dim n) ++ r), 0) n).1.put n (sText (textsK k0 (textsB k n ++ (textB (k.dim n) ++ r), 0) n).2), sText' (textsK k0 (textsB k n ++ (textB (k.dim n) ++ r), 0) n).2) = _
    rw [ih]
    obtain ⟨t1, t2⟩ := text_back (hk n (by omega)) r
    rw [t1, t2]
    rfl
theorem putN_all {k : K9} {n : Nat} (hn1 : 1 ≤ n) (hn : n ≤ 4) (hk : ∀ i, i < 4 → n ≤ i → k.dim i = []) : putN ⟨k.h, [], [], [], []⟩ k n = k := by
  obtain ⟨h, a, b, c, d⟩ := k
  match n, hn1, hn with
  | 1, _, _ =>
    have e1 := hk 1 (by omega) (by omega)
    have e2 := hk 2 (by omega) (by omega)
    have e3 := hk 3 (by omega) (by omega)
    simp only [K9.dim] at e1 e2 e3
    subst e1 e2 e3
    rfl
  | 2, _, _ =>
    have e2 := hk 2 (by omega) (by omega)
    have e3 := hk 3 (by omega) (by omega)
    simp only [K9.dim] at e2 e3
    subst e2 e3
    rfl
  | 3, _, _ =>
    have e3 := hk 3 (by omega) (by omega)
    simp only [K9.dim] at e3
    subst e3
    rfl
  | 4, _, _ => rfl
theorem chk_empty {f : F9} {n : Nat} (h : chkF f (n : Int) = 0) : ∀ i, i < 4 → n ≤ i → f.k.dim i = [] := by
  unfold chkF at h
  split at h
  · split at h
    · split at h
      · rename_i ht
        simp only [okTexts, okText, Bool.and_eq_true, Bool.or_eq_true, decide_eq_true_iff, List.isEmpty_iff] at ht
        intro i hi hn
        match i, hi with
        | 0, _ => rcases ht.1.1.1.2 with g | g; · omega
                  · exact g
        | 1, _ => rcases ht.1.1.2.2 with g | g; · omega
                  · exact g
        | 2, _ => rcases ht.1.2.2 with g | g; · omega
                  · exact g
        | 3, _ => rcases ht.2.2 with g | g; · omega
                  · exact g
      · cases h
    · cases h
  · cases h
theorem one_back {f : F9} {n : Nat} (hn1 : 1 ≤ n) (hn : n ≤ 4) (h : chkF f (n : Int) = 0) (r : List UInt8) : sNum (factB n f ++ r, 0) = f.k.h.toNat ∧ oneF n f.k.h.toNat (sNum' (factB n f ++ r, 0)) = (f, (r, 0)) := by
  have hg := good_chk h
  have hh : Hid (f.k.h.toNat < 18446744073709551616) := by have := hg.h1; show _ < _; omega
  have e : factB n f ++ r = enc f.k.h.toNat ++ (textsB f.k n ++ (enc (zig f.v) ++ r)) := by
    unfold factB
    simp only [List.append_assoc]
  obtain ⟨a1, a2⟩ := num_back hh (textsB f.k n ++ (enc (zig f.v) ++ r))
  rw [e, a1, a2]
  refine ⟨rfl, ?_⟩
  have et := texts_back ⟨(f.k.h.toNat : Int), [], [], [], []⟩ f.k hg.t n (enc (zig f.v) ++ r) hn
  obtain ⟨i1, i2⟩ := int_back (v := f.v) (by have := hg.v0; show _ ≤ _; omega) (by have := hg.v1; show _ ≤ _; omega) r
  unfold oneF
  rw [et]
  show ((⟨putN _ f.k n, sInt (enc (zig f.v) ++ r, 0)⟩ : F9), sNum' (enc (zig f.v) ++ r, 0)) = _
  rw [i1, i2, Int.toNat_of_nonneg hg.h0, putN_all hn1 hn (chk_empty h)]
theorem readR_back {n : Nat} (hn1 : 1 ≤ n) (hn : n ≤ 4) : ∀ (fs out : List F9), (∀ f ∈ fs, chkF f (n : Int) = 0) → (allB (out ++ fs) n).1 = 0 → readR n fs.length (fs.flatMap (factB n), 0) out = (0, out ++ fs)
  | [], out, _, ha => by
    rw [List.append_nil] at ha ⊢
    show (if (0 : Nat) ≠ 0 then _ else if 0 < ([] : List UInt8).length then _ else if (allB out n).1 ≠ 0 then _ else (0, out)) = _
    simp [ha]
  | f :: fs, out, hc, ha => by
    have hf := hc f (by simp)
    obtain ⟨h1, h2⟩ := one_back hn1 hn hf (fs.flatMap (factB n))
    have hg := good_chk hf
    have ih := readR_back hn1 hn fs (out ++ [f]) (fun g hg => hc g (by simp [hg])) (by simpa using ha)
    show readR n (fs.length + 1) (factB n f ++ fs.flatMap (factB n), 0) out = _
    unfold readR
    rw [h1, h2, if_neg (by have := hg.h1; omega), if_neg (by simp), ih]
    simp
theorem readB_back {l : List F9} {n : Int} (h : (allB l n).1 = 0) : readB (batchB l n.toNat) n = (0, l) := by
  obtain ⟨⟨n1, n4⟩, ⟨l1, l50⟩, hc, _⟩ := all_good h
  obtain ⟨N, rfl⟩ := Int.eq_ofNat_of_zero_le (show 0 ≤ n by omega)
  have hd : okDims (N : Int) = true := by unfold okDims; simp [n1, n4]
  unfold readB
  rw [if_pos hd, Int.toNat_natCast]
  obtain ⟨c1, c2⟩ := count_back l50 (l.flatMap (factB N))
  have e : batchB l N = enc l.length ++ l.flatMap (factB N) := rfl
  rw [e, c1, c2]
  have := readR_back (by omega) (by omega) l [] hc (by simpa using h)
  simpa using this

end Go.Proofs.Ytieffpngknglpaa

/-
  Stage 13, plain: four things; queries, what is right, what matches, groups, cuts.
-/
namespace Go.Proofs.Ytieffpngknglpaa
open Go.RowKit

/-- Four things. -/
structure V4 (A : Type) where
  a : A
  b : A
  c : A
  d : A
deriving DecidableEq
def V4.nth {A : Type} (v : V4 A) : Nat → A
  | 0 => v.a
  | 1 => v.b
  | 2 => v.c
  | _ => v.d
def V4.put {A : Type} (v : V4 A) (i : Nat) (x : A) : V4 A :=
  match i with
  | 0 => { v with a := x }
  | 1 => { v with b := x }
  | 2 => { v with c := x }
  | _ => { v with d := x }
def V4.fill {A : Type} (x : A) : V4 A := ⟨x, x, x, x⟩
section
variable {A : Type} {v u : V4 A} {x : A}
theorem V4.same (h : ∀ i, i < 4 → v.nth i = u.nth i) : v = u := by
  have e0 := h 0 (by omega)
  have e1 := h 1 (by omega)
  have e2 := h 2 (by omega)
  have e3 := h 3 (by omega)
  cases v; cases u
  simp only [V4.nth] at e0 e1 e2 e3
  rw [e0, e1, e2, e3]
theorem V4.iff : v = u ↔ ∀ i, i < 4 → v.nth i = u.nth i := ⟨fun e _ _ => by rw [e], V4.same⟩
theorem V4.nth_put {i j : Nat} (hi : i < 4) (hj : j < 4) : (v.put i x).nth j = if i = j then x else v.nth j := by
  match i, hi, j, hj with
  | 0, _, 0, _ => rfl
  | 0, _, 1, _ => rfl
  | 0, _, 2, _ => rfl
  | 0, _, 3, _ => rfl
  | 1, _, 0, _ => rfl
  | 1, _, 1, _ => rfl
  | 1, _, 2, _ => rfl
  | 1, _, 3, _ => rfl
  | 2, _, 0, _ => rfl
  | 2, _, 1, _ => rfl
  | 2, _, 2, _ => rfl
  | 2, _, 3, _ => rfl
  | 3, _, 0, _ => rfl
  | 3, _, 1, _ => rfl
  | 3, _, 2, _ => rfl
  | 3, _, 3, _ => rfl
theorem V4.nth_fill (i : Nat) : (V4.fill x).nth i = x := by
  unfold V4.nth
  split <;> rfl
end

/-- What stands in those dimensions, and nothing in the others; so far as it has been laid. -/
def onlyP {A : Type} (z : A) (t : V4 A) (w : V4 Bool) : V4 A := ⟨if w.a then t.a else z, if w.b then t.b else z, if w.c then t.c else z, if w.d then t.d else z⟩
def onlyN {A : Type} (z : A) (t : V4 A) (w : V4 Bool) : Nat → V4 A
  | 0 => V4.fill z
  | i + 1 => if w.nth i then (onlyN z t w i).put i (t.nth i) else onlyN z t w i
theorem only_nth {A : Type} (z : A) (t : V4 A) (w : V4 Bool) {i : Nat} (hi : i < 4) : (onlyP z t w).nth i = if w.nth i then t.nth i else z := by
  match i, hi with
  | 0, _ => rfl
  | 1, _ => rfl
  | 2, _ => rfl
  | 3, _ => rfl
theorem onlyN_four {A : Type} (z : A) (t : V4 A) (w : V4 Bool) : onlyN z t w 4 = onlyP z t w := by
  obtain ⟨a, b, c, d⟩ := w
  cases a <;> cases b <;> cases c <;> cases d <;> rfl
/-- The first dimensions, so many of them. -/
def firstN : Nat → V4 Bool
  | 0 => V4.fill false
  | i + 1 => (firstN i).put i true
theorem first_nth {n i : Nat} (hn : n ≤ 4) (hi : i < 4) : (firstN n).nth i = decide (i < n) := by
  induction n with
  | zero => rw [firstN, V4.nth_fill]; simp
  | succ n ih =>
    rw [firstN, V4.nth_put (by omega) hi, ih (by omega)]
    by_cases e : n = i
    · subst e; simp
    · rw [if_neg e]
      by_cases h : i < n
      · rw [decide_eq_true h, decide_eq_true (show i < n + 1 by omega)]
      · rw [decide_eq_false h, decide_eq_false (show ¬ i < n + 1 by omega)]

/-- A query. -/
structure Q13 where
  lo : Int
  hi : Int
  g : V4 Bool
  h : V4 Bool
  f : V4 (List UInt8)
deriving DecidableEq
def zeroQ : Q13 := ⟨0, 0, V4.fill false, V4.fill false, V4.fill []⟩
/-- Texts as a key's, and a key's texts. -/
def kOf (t : V4 (List UInt8)) : K9 := ⟨0, t.a, t.b, t.c, t.d⟩
def txOf (k : K9) : V4 (List UInt8) := ⟨k.a, k.b, k.c, k.d⟩
theorem kOf_dim (t : V4 (List UInt8)) : ∀ i : Nat, (kOf t).dim i = t.nth i
  | 0 => rfl
  | 1 => rfl
  | 2 => rfl
  | _ + 3 => rfl
theorem txOf_nth (k : K9) : ∀ i : Nat, (txOf k).nth i = k.dim i
  | 0 => rfl
  | 1 => rfl
  | 2 => rfl
  | _ + 3 => rfl
theorem kOf_put (t : V4 (List UInt8)) (x : List UInt8) : ∀ i : Nat, (kOf t).put i x = kOf (t.put i x)
  | 0 => rfl
  | 1 => rfl
  | 2 => rfl
  | _ + 3 => rfl

/-- What is right in a dimension. -/
def okD (n : Int) (i : Nat) (g h : Bool) (t : List UInt8) : Bool := !((decide (n ≤ (i : Int)) && (g || h || !t.isEmpty)) || decide (16 < t.length) || (!h && !t.isEmpty))
def okQ (n : Int) (q : Q13) : Bool := okD n 0 q.g.a q.h.a q.f.a && okD n 1 q.g.b q.h.b q.f.b && okD n 2 q.g.c q.h.c q.f.c && okD n 3 q.g.d q.h.d q.f.d
def chkQ (q : Q13) (n : Int) : Int :=
  if okDims n then if 0 ≤ q.lo ∧ q.lo ≤ q.hi ∧ q.hi ≤ 16777217 then if okQ n q then 0 else 4 else 2 else 1
theorem okQ_iff {n : Int} {q : Q13} : okQ n q = true ↔ ∀ i, i < 4 → okD n i (q.g.nth i) (q.h.nth i) (q.f.nth i) = true := by
  refine ⟨fun h i hi => ?_, fun h => ?_⟩
  · simp only [okQ, Bool.and_eq_true] at h
    match i, hi with
    | 0, _ => exact h.1.1.1
    | 1, _ => exact h.1.1.2
    | 2, _ => exact h.1.2
    | 3, _ => exact h.2
  · have e0 := h 0 (by omega)
    have e1 := h 1 (by omega)
    have e2 := h 2 (by omega)
    have e3 := h 3 (by omega)
    simp only [V4.nth] at e0 e1 e2 e3
    simp [okQ, e0, e1, e2, e3]
theorem okQ_not {n : Int} {q : Q13} {i : Nat} (hi : i < 4) (h : okD n i (q.g.nth i) (q.h.nth i) (q.f.nth i) = false) : okQ n q = false := by
  cases e : okQ n q with
  | false => rfl
  | true => rw [okQ_iff.1 e i hi] at h; cases h
theorem okTexts_iff {n : Int} {k : K9} : okTexts n k = true ↔ ∀ i, i < 4 → okText n i (k.dim i) = true := by
  refine ⟨fun h i hi => ?_, okTexts_all⟩
  cases e : okText n i (k.dim i) with
  | true => rfl
  | false => rw [okTexts_not hi e] at h; cases h
theorem okD_parts {n : Nat} {i : Nat} {g h : Bool} {t : List UInt8} : okD n i g h t = true ↔ g = (if decide (i < n) then g else false) ∧ h = (if decide (i < n) then h else false) ∧ t = (if h then t else []) ∧ okText n i t = true := by
  by_cases hi : i < n
  · have h1 : ¬ ((n : Int) ≤ (i : Int)) := by omega
    have h2 : (i : Int) < n := by omega
    cases h <;> cases t <;> simp [okD, okText, hi, h1, h2]
  · have h1 : (n : Int) ≤ (i : Int) := by omega
    have h2 : ¬ ((i : Int) < n) := by omega
    cases g <;> cases h <;> cases t <;> simp [okD, okText, hi, h1, h2]
theorem okQ_parts {n : Nat} (hn : n ≤ 4) {q : Q13} : okQ n q = (decide (q.g = onlyP false q.g (firstN n)) && decide (q.h = onlyP false q.h (firstN n)) && decide (q.f = onlyP [] q.f q.h) && okTexts n (kOf q.f)) := by
  rw [Bool.eq_iff_iff]
  simp only [Bool.and_eq_true, decide_eq_true_iff, okTexts_iff, okQ_iff]
  rw [V4.iff (v := q.g), V4.iff (v := q.h), V4.iff (v := q.f)]
  refine ⟨fun h => ⟨⟨⟨fun i hi => ?_, fun i hi => ?_⟩, fun i hi => ?_⟩, fun i hi => ?_⟩, fun h i hi => ?_⟩
  · rw [only_nth _ _ _ hi, first_nth hn hi]; exact (okD_parts.1 (h i hi)).1
  · rw [only_nth _ _ _ hi, first_nth hn hi]; exact (okD_parts.1 (h i hi)).2.1
  · rw [only_nth _ _ _ hi]; exact (okD_parts.1 (h i hi)).2.2.1
  · rw [kOf_dim]; exact (okD_parts.1 (h i hi)).2.2.2
  · have h1 := h.1.1.1 i hi
    have h2 := h.1.1.2 i hi
    have h3 := h.1.2 i hi
    have h4 := h.2 i hi
    rw [only_nth _ _ _ hi, first_nth hn hi] at h1 h2
    rw [only_nth _ _ _ hi] at h3
    rw [kOf_dim] at h4
    exact okD_parts.2 ⟨h1, h2, h3, h4⟩
theorem okDims_nat {n : Int} (h : 1 ≤ n ∧ n ≤ 4) : okDims n = true := by simp [okDims, h]
theorem okDims_no {n : Int} (h : ¬ (1 ≤ n ∧ n ≤ 4)) : okDims n = false := by unfold okDims; simpa using h
theorem chkQ_dims {q : Q13} {n : Int} (h : ¬ (1 ≤ n ∧ n ≤ 4)) : chkQ q n = 1 := by unfold chkQ; rw [okDims_no h]; rfl
theorem chkQ_range {q : Q13} {n : Int} (h : 1 ≤ n ∧ n ≤ 4) (hr : ¬ (0 ≤ q.lo ∧ q.lo ≤ q.hi ∧ q.hi ≤ 16777217)) : chkQ q n = 2 := by unfold chkQ; rw [okDims_nat h, if_pos rfl, if_neg hr]
theorem chkQ_text {q : Q13} {n : Int} (h : 1 ≤ n ∧ n ≤ 4) (hr : 0 ≤ q.lo ∧ q.lo ≤ q.hi ∧ q.hi ≤ 16777217) (ho : okQ n q = false) : chkQ q n = 4 := by unfold chkQ; rw [okDims_nat h, if_pos rfl, if_pos hr, ho]; rfl
theorem chkQ_ok {q : Q13} {n : Int} (h : 1 ≤ n ∧ n ≤ 4) (hr : 0 ≤ q.lo ∧ q.lo ≤ q.hi ∧ q.hi ≤ 16777217) (ho : okQ n q = true) : chkQ q n = 0 := by unfold chkQ; rw [okDims_nat h, if_pos rfl, if_pos hr, ho]; rfl
theorem chkQ_good {q : Q13} {n : Int} (h : chkQ q n = 0) : (1 ≤ n ∧ n ≤ 4) ∧ (0 ≤ q.lo ∧ q.lo ≤ q.hi ∧ q.hi ≤ 16777217) ∧ okQ n q = true := by
  by_cases h1 : 1 ≤ n ∧ n ≤ 4
  · by_cases h2 : 0 ≤ q.lo ∧ q.lo ≤ q.hi ∧ q.hi ≤ 16777217
    · cases h3 : okQ n q with
      | true => exact ⟨h1, h2, rfl⟩
      | false => rw [chkQ_text h1 h2 h3] at h; cases h
    · rw [chkQ_range h1 h2] at h; cases h
  · rw [chkQ_dims h1] at h; cases h

/-- Does a key match; its group; what is cut. -/
def matchB (q : Q13) (k : K9) : Bool := decide (q.lo ≤ k.h) && decide (k.h < q.hi) && decide (onlyP [] (txOf k) q.h = onlyP [] q.f q.h)
def groupK (q : Q13) (k : K9) : K9 := kOf (onlyP [] (txOf k) q.g)
def cutQ (q : Q13) (x : Int) : Q13 := { q with lo := max q.lo x, hi := max q.hi (max q.lo x) }
theorem match_iff {q : Q13} {k : K9} : onlyP [] (txOf k) q.h = onlyP [] q.f q.h ↔ ∀ i, i < 4 → q.h.nth i = true → q.f.nth i = k.dim i := by
  rw [V4.iff]
  refine ⟨fun h i hi ht => ?_, fun h i hi => ?_⟩
  · have := h i hi
    rw [only_nth _ _ _ hi, only_nth _ _ _ hi, ht, txOf_nth] at this
    exact this.symm
  · rw [only_nth _ _ _ hi, only_nth _ _ _ hi, txOf_nth]
    cases ht : q.h.nth i with
    | false => rfl
    | true => simp [h i hi ht]
theorem match_cut (q : Q13) (k : K9) (x : Int) : matchB (cutQ q x) k = (matchB q k && decide (x ≤ k.h)) := by
  have e : (max q.lo x ≤ k.h ∧ k.h < max q.hi (max q.lo x)) ↔ (q.lo ≤ k.h ∧ k.h < q.hi) ∧ x ≤ k.h := by omega
  have e1 : matchB (cutQ q x) k = (decide (max q.lo x ≤ k.h) && decide (k.h < max q.hi (max q.lo x)) && decide (onlyP [] (txOf k) q.h = onlyP [] q.f q.h)) := rfl
  rw [e1, Bool.eq_iff_iff]
  unfold matchB
  simp only [Bool.and_eq_true, decide_eq_true_iff]
  constructor
  · rintro ⟨h1, h2⟩
    have := e.1 h1
    exact ⟨⟨this.1, h2⟩, this.2⟩
  · rintro ⟨⟨h1, h2⟩, h3⟩
    exact ⟨e.2 ⟨h1, h3⟩, h2⟩

end Go.Proofs.Ytieffpngknglpaa
