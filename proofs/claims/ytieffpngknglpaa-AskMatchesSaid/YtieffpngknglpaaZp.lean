
/-
  Stage 9, plain: there and back.
-/
import Derived.Test.YtieffpngknglpaaZm
import Derived.Test.YtieffpngknglpaaOk
namespace Go.Proofs.Ytieffpngknglpaa
open Go.RowKit

theorem zig_zag9 (n : Nat) : zig (zag n) = n := by
  unfold zig zag
  by_cases h : n % 2 = 0
  · rw [if_pos h, if_pos (by omega)]
    omega
  · rw [if_neg h, if_neg (by omega)]
    omega
theorem mid_of (b : UInt8) (q : Nat) (hb : 128 ≤ b.toNat) : mid (b.toNat - 128 + q * 128) = b := by
  have hlt : b.toNat < 256 := UInt8.toNat_lt b
  apply UInt8.toNat_inj.1
  unfold mid
  rw [UInt8.toNat_ofNat']
  omega
theorem low_of (b : UInt8) : low b.toNat = b := by
  apply UInt8.toNat_inj.1
  exact low_toNat _ (UInt8.toNat_lt b)
/-- What is read as a number is just what would be put, and what is left. -/
theorem rdF_exact : ∀ (g i acc : Nat) (l : List UInt8), (rdF g i acc l).2.1 = 0 →
    ∃ q, (rdF g i acc l).1 = acc + q * 128 ^ i ∧ i ≤ (rdF g i acc l).2.2 ∧ l = encF (g - 1) q ++ l.drop ((rdF g i acc l).2.2 - i) ∧ (0 < i → 0 < q)
  | 0, _, _, _, h => by cases h
  | _ + 1, _, _, [], h => by cases h
  | g + 1, i, acc, b :: l, h => by
    have e : rdF (g + 1) i acc (b :: l) = if 128 ≤ b.toNat then rdF g (i + 1) (acc + (b.toNat - 128) * 128 ^ i) l
      else if (0 < i ∧ b.toNat = 0) ∨ (i = 9 ∧ 1 < b.toNat) then (0, 4, i + 1) else (acc + b.toNat * 128 ^ i, 0, i + 1) := rfl
    rw [e] at h ⊢
    by_cases hb : 128 ≤ b.toNat
    · rw [if_pos hb] at h ⊢
      obtain ⟨q, h1, h2, h3, h4⟩ := rdF_exact g (i + 1) _ l h
      have hq := h4 (by omega)
      have hlt : b.toNat < 256 := UInt8.toNat_lt b
      cases g with
      | zero => cases h
      | succ g =>
        refine ⟨b.toNat - 128 + q * 128, ?_, by omega, ?_, fun _ => by omega⟩
        · rw [h1, Nat.pow_succ, Nat.add_mul, Nat.mul_assoc q 128, Nat.mul_comm 128 (128 ^ i)]
          omega
        · have e2 : encF (g + 1) (b.toNat - 128 + q * 128) = b :: encF g q := by
            show (if _ < 128 then _ else _) = _
            rw [if_neg (by omega), mid_of b q hb, show (b.toNat - 128 + q * 128) / 128 = q by omega]
          show b :: l = encF (g + 1) _ ++ _
          rw [e2]
          generalize (rdF (g + 1) (i + 1) (acc + (b.toNat - 128) * 128 ^ i) l).2.2 = n at *
          rw [show n - i = (n - (i + 1)) + 1 by omega, List.drop_succ_cons, List.cons_append]
          congr 1
    · rw [if_neg hb] at h ⊢
      by_cases hz : (0 < i ∧ b.toNat = 0) ∨ (i = 9 ∧ 1 < b.toNat)
      · rw [if_pos hz] at h
        cases h
      · rw [if_neg hz]
        refine ⟨b.toNat, rfl, by show i ≤ i + 1; omega, ?_, fun hi => by omega⟩
        have e2 : encF g b.toNat = [b] := by
          cases g with
          | zero => show [low b.toNat] = [b]; rw [low_of]
          | succ g =>
            show (if _ < 128 then _ else _) = _
            rw [if_pos (by omega), low_of]
        show b :: l = encF g b.toNat ++ _
        rw [e2, show i + 1 - i = 1 by omega]
        rfl
theorem rdNum_exact {l : List UInt8} (h : (rdNum l).2.1 = 0) : l = enc (rdNum l).1 ++ l.drop (rdNum l).2.2 := by
  obtain ⟨q, h1, _, h2, _⟩ := rdF_exact 10 0 0 l h
  have e : (rdNum l).1 = q := by
    show (rdF 10 0 0 l).1 = q
    rw [h1]
    simp
  rw [e]
  exact h2
theorem num_there {s : RS9} (h : (sNum' s).2 = 0) : s.2 = 0 ∧ s.1 = enc (sNum s) ++ (sNum' s).1 := by
  unfold sNum sNum' at *
  by_cases hs : s.2 = 0
  · rw [if_pos hs] at h
    rw [if_pos hs, if_pos hs]
    exact ⟨hs, rdNum_exact h⟩
  · rw [if_neg hs] at h
    exact absurd h hs
theorem text_there {s : RS9} (h : (sText' s).2 = 0) : s.2 = 0 ∧ s.1 = textB (sText s) ++ (sText' s).1 ∧ (sText s).length ≤ 16 := by
  unfold sText sText' at *
  by_cases hs : s.2 = 0
  · rw [if_pos hs] at h
    rw [if_pos hs, if_pos hs]
    refine ⟨hs, ?_⟩
    unfold rdText rdCount at h ⊢
    by_cases h1 : (rdNum s.1).2.1 = 0
    · by_cases h2 : 16 < (rdNum s.1).1
      · simp [h1, h2] at h
      · by_cases h3 : (s.1.drop (rdNum s.1).2.2).length < (rdNum s.1).1
        · simp only [h1, h2, ne_eq, not_true_eq_false, if_false, h3, if_true] at h
          cases h
        · simp only [h1, h2, ne_eq, not_true_eq_false, if_false, h3]
          have hl : ((s.1.drop (rdNum s.1).2.2).take (rdNum s.1).1).length = (rdNum s.1).1 := by rw [List.length_take]; omega
          refine ⟨?_, by omega⟩
          unfold textB
          rw [hl]
          have e := rdNum_exact h1
          conv => lhs; rw [e]
          rw [List.append_assoc, ← List.drop_drop, List.take_append_drop]
    · simp only [ne_eq, h1, not_false_eq_true, if_true] at h
  · rw [if_neg hs] at h
    exact absurd h hs
theorem count_there {s : RS9} (h : (sCount' s).2 = 0) : s.2 = 0 ∧ s.1 = enc (sCount s) ++ (sCount' s).1 ∧ sCount s ≤ 50 := by
  unfold sCount sCount' at *
  by_cases hs : s.2 = 0
  · rw [if_pos hs] at h
    rw [if_pos hs, if_pos hs]
    refine ⟨hs, ?_⟩
    unfold rdCount at h ⊢
    by_cases h1 : (rdNum s.1).2.1 = 0
    · by_cases h2 : 50 < (rdNum s.1).1
      · simp [h1, h2] at h
      · simp only [h1, h2, ne_eq, not_true_eq_false, if_false]
        exact ⟨rdNum_exact h1, by omega⟩
    · simp only [ne_eq, h1, not_false_eq_true, if_true] at h
  · rw [if_neg hs] at h
    exact absurd h hs


theorem dim_put {k : K9} {i j : Nat} (hi : i < 4) (hj : j < 4) (t : List UInt8) : (k.put i t).dim j = if i = j then t else k.dim j := by
  match i, hi, j, hj with
  | 0, _, 0, _ => rfl
  | 0, _, 1, _ => rfl
  | 0, _, 2, _ => rfl
  | 0, _, 3, _ => rfl
  | 1, _, 0, _ => rfl
  | 1, _, 1, _ => rfl
  | 1, _, 2, _ => rfl
  | 1, _, 3, _ => rfl
  | 2, _, 0, _ => rfl
  | 2, _, 1, _ => rfl
  | 2, _, 2, _ => rfl
  | 2, _, 3, _ => rfl
  | 3, _, 0, _ => rfl
  | 3, _, 1, _ => rfl
  | 3, _, 2, _ => rfl
  | 3, _, 3, _ => rfl
theorem put_h {k : K9} {i : Nat} (t : List UInt8) : (k.put i t).h = k.h := by
  unfold K9.put
  split <;> rfl
theorem texts_same {k k' : K9} : ∀ n, (∀ j, j < n → k.dim j = k'.dim j) → textsB k n = textsB k' n
  | 0, _ => rfl
  | n + 1, h => by
    show textsB k n ++ textB (k.dim n) = textsB k' n ++ textB (k'.dim n)
    rw [texts_same n (fun j hj => h j (by omega)), h n (by omega)]
theorem textsK_h (k0 : K9) (s : RS9) : ∀ n, (textsK k0 s n).1.h = k0.h
  | 0 => rfl
  | n + 1 => by
    show ((textsK k0 s n).1.put n _).h = k0.h
    rw [put_h, textsK_h k0 s n]
theorem texts_there (k0 : K9) (s : RS9) : ∀ n, n ≤ 4 → (textsK k0 s n).2.2 = 0 → s.2 = 0 ∧ s.1 = textsB (textsK k0 s n).1 n ++ (textsK k0 s n).2.1
  | 0, _, h => ⟨h, rfl⟩
  | n + 1, hn, h => by
    obtain ⟨h1, h2, _⟩ := text_there (s := (textsK k0 s n).2) h
    obtain ⟨g1, g2⟩ := texts_there k0 s n (by omega) h1
    refine ⟨g1, ?_⟩
    have e1 : textsB (textsK k0 s (n + 1)).1 (n + 1) = textsB (textsK k0 s n).1 n ++ textB (sText (textsK k0 s n).2) := by
      show textsB ((textsK k0 s n).1.put n _) n ++ textB (((textsK k0 s n).1.put n _).dim n) = _
      rw [dim_put (by omega) (by omega), if_pos rfl, texts_same n (k' := (textsK k0 s n).1) (fun j hj => by rw [dim_put (by omega) (by omega), if_neg (by omega)])]
    have e2 : (textsK k0 s (n + 1)).2.1 = (sText' (textsK k0 s n).2).1 := rfl
    rw [e1, e2, List.append_assoc, ← h2]
    exact g2
theorem one_there {n h : Nat} {s : RS9} (hn : n ≤ 4) (hf : (oneF n h s).2.2 = 0) : s.2 = 0 ∧ enc h ++ s.1 = factB n (oneF n h s).1 ++ (oneF n h s).2.1 := by
  obtain ⟨h1, h2⟩ := num_there (s := (textsK ⟨h, [], [], [], []⟩ s n).2) hf
  obtain ⟨g1, g2⟩ := texts_there _ s n hn h1
  refine ⟨g1, ?_⟩
  have e1 : (oneF n h s).1.k.h.toNat = h := by
    show (textsK _ s n).1.h.toNat = h
    rw [textsK_h]
    simp
  have e2 : zig (oneF n h s).1.v = sNum (textsK ⟨h, [], [], [], []⟩ s n).2 := by
    show zig (sInt _) = _
    unfold sInt sNum
    rw [if_pos h1, if_pos h1, zig_zag9]
  unfold factB
  rw [e1, e2, g2]
  have e3 : (oneF n h s).2.1 = (sNum' (textsK ⟨h, [], [], [], []⟩ s n).2).1 := rfl
  rw [e3]
  conv => lhs; rw [h2]
  simp only [List.append_assoc]
  rfl
theorem readR_there {n : Nat} (hn : n ≤ 4) : ∀ (i : Nat) (s : RS9) (out res : List F9), readR n i s out = (0, res) → s.2 = 0 ∧ ∃ new, res = out ++ new ∧ new.length = i ∧ s.1 = new.flatMap (factB n) ∧ (allB res n).1 = 0
  | 0, s, out, res, h => by
    unfold readR at h
    split at h
    · rename_i hs
      have := congrArg Prod.fst h
      simp at this
      exact absurd this hs
    · rename_i hs
      split at h
      · cases congrArg Prod.fst h
      · rename_i hl
        split at h
        · rename_i ha
          exact absurd (congrArg Prod.fst h) ha
        · rename_i ha
          have e : out = res := congrArg Prod.snd h
          subst e
          exact ⟨by omega, [], by simp, rfl, List.eq_nil_of_length_eq_zero (by omega), by omega⟩
  | i + 1, s, out, res, h => by
    unfold readR at h
    split at h
    · cases congrArg Prod.fst h
    · rename_i hb
      split at h
      · rename_i hf
        have := congrArg Prod.fst h
        simp at this
        exact absurd this hf
      · rename_i hf
        have hf0 : (oneF n (sNum s) (sNum' s)).2.2 = 0 := by omega
        obtain ⟨h1, new, h2, h3, h4, h5⟩ := readR_there hn i _ _ res h
        obtain ⟨g1, g2⟩ := one_there hn hf0
        obtain ⟨k1, k2⟩ := num_there g1
        refine ⟨k1, (oneF n (sNum s) (sNum' s)).1 :: new, by rw [h2]; simp, by rw [List.length_cons, h3], ?_, h5⟩
        rw [k2, g2, h4]
        rfl
theorem readB_there {m : List UInt8} {n : Int} {res : List F9} (h : readB m n = (0, res)) : m = batchB res n.toNat ∧ (allB res n).1 = 0 := by
  unfold readB at h
  split at h
  · rename_i hd
    unfold okDims at hd
    simp only [Bool.and_eq_true, decide_eq_true_iff] at hd
    obtain ⟨N, rfl⟩ := Int.eq_ofNat_of_zero_le (show 0 ≤ n by omega)
    rw [Int.toNat_natCast] at h ⊢
    obtain ⟨h1, new, h2, h3, h4, h5⟩ := readR_there (by omega) _ _ _ _ h
    rw [List.nil_append] at h2
    subst h2
    obtain ⟨_, g2, _⟩ := count_there h1
    refine ⟨?_, h5⟩
    unfold batchB
    rw [h3, ← h4]
    exact g2
  · cases congrArg Prod.fst h
theorem readB_none {m : List UInt8} {n : Int} (h : (readB m n).1 ≠ 0) : (readB m n).2 = [] := by
  have key : ∀ (N i : Nat) (s : RS9) (out : List F9), (readR N i s out).1 ≠ 0 → (readR N i s out).2 = [] := by
    intro N i
    induction i with
    | zero =>
      intro s out h
      unfold readR at h ⊢
      split
      · rfl
      · rename_i h1
        rw [if_neg h1] at h
        split
        · rfl
        · rename_i h2
          rw [if_neg h2] at h
          split
          · rfl
          · rename_i h3
            rw [if_neg h3] at h
            exact absurd rfl h
    | succ i ih =>
      intro s out h
      unfold readR at h ⊢
      split
      · rfl
      · rename_i h1
        rw [if_neg h1] at h
        split
        · rfl
        · rename_i h2
          rw [if_neg h2] at h
          exact ih _ _ h
  unfold readB at h ⊢
  split
  · rename_i h1
    rw [if_pos h1] at h
    exact key _ _ _ _ h
  · rfl

theorem num_back {n : Nat} (hn : Hid (n < 18446744073709551616)) (r : List UInt8) : sNum (enc n ++ r, 0) = n ∧ sNum' (enc n ++ r, 0) = (r, 0) := by
  unfold sNum sNum'
  simp only [if_true]
  rw [rdNum_enc n r hn]
  exact ⟨rfl, by simp⟩
theorem int_back {v : Int} (h1 : Hid (-9223372036854775808 ≤ v)) (h2 : Hid (v ≤ 9223372036854775807)) (r : List UInt8) : sInt (enc (zig v) ++ r, 0) = v ∧ sNum' (enc (zig v) ++ r, 0) = (r, 0) := by
  have hz := zig_lt v h1 h2
  refine ⟨?_, (num_back hz r).2⟩
  unfold sInt
  simp only [if_true]
  rw [rdNum_enc _ r hz, zag_zig]
theorem text_back {t : List UInt8} (ht : t.length ≤ 16) (r : List UInt8) : sText (textB t ++ r, 0) = t ∧ sText' (textB t ++ r, 0) = (r, 0) := by
  have hn : Hid (t.length < 18446744073709551616) := by show _ < _; omega
  have e : rdNum (textB t ++ r) = (t.length, 0, (enc t.length).length) := by
    unfold textB
    rw [List.append_assoc]
    exact rdNum_enc t.length (t ++ r) hn
  have ed : (textB t ++ r).drop (enc t.length).length = t ++ r := by
    unfold textB
    rw [List.append_assoc, List.drop_left]
  have e2 : rdText 16 (textB t ++ r) = (t, 0, (enc t.length).length + t.length) := by
    unfold rdText rdCount
    rw [e]
    have h16 : ¬ 16 < t.length := by omega
    simp only [ne_eq, not_true_eq_false, if_false, h16, ed]
    rw [if_neg (by rw [List.length_append]; omega), List.take_left]
  unfold sText sText'
  simp only [if_true]
  rw [e2]
  refine ⟨rfl, ?_⟩
  show ((textB t ++ r).drop ((enc t.length).length + t.length), 0) = _
  rw [← List.drop_drop, ed, List.drop_left]
theorem count_back {n : Nat} (hn : n ≤ 50) (r : List UInt8) : sCount (enc n ++ r, 0) = n ∧ sCount' (enc n ++ r, 0) = (r, 0) := by
  have e := rdNum_enc n r (by show _ < _; omega)
  have e2 : rdCount 50 (enc n ++ r) = (n, 0, (enc n).length) := by
    unfold rdCount
    rw [e]
    have h50 : ¬ 50 < n := by omega
    simp [h50]
  unfold sCount sCount'
  simp only [if_true]
  rw [e2]
  exact ⟨rfl, by simp⟩
/-- A key's first texts put into another. -/
def putN (k0 k : K9) : Nat → K9
  | 0 => k0
  | i + 1 => (putN k0 k i).put i (k.dim i)
theorem texts_back (k0 k : K9) (hk : ∀ i, i < 4 → (k.dim i).length ≤ 16) : ∀ (n : Nat) (r : List UInt8), n ≤ 4 → textsK k0 (textsB k n ++ r, 0) n = (putN k0 k n, (r, 0))
  | 0, _, _ => rfl
  | n + 1, r, hn => by
    have ih := texts_back k0 k hk n (textB (k.dim n) ++ r) (by omega)
    have e : textsB k (n + 1) ++ r = textsB k n ++ (textB (k.dim n) ++ r) := by
      show textsB k n ++ textB (k.dim n) ++ r = _
      rw [List.append_assoc]
    rw [e]
    show ((textsK k0 (textsB k n ++ (textB (k.dim n) ++ r), 0) n).1.put n (sText (textsK k0 (textsB k n ++ (textB (k.dim n) ++ r), 0) n).2), sText' (textsK k0 (textsB k n ++ (textB (k.dim n) ++ r), 0) n).2) = _
    rw [ih]
    obtain ⟨t1, t2⟩ := text_back (hk n (by omega)) r
    rw [t1, t2]
    rfl
theorem putN_all {k : K9} {n : Nat} (hn1 : 1 ≤ n) (hn : n ≤ 4) (hk : ∀ i, i < 4 → n ≤ i → k.dim i = []) : putN ⟨k.h, [], [], [], []⟩ k n = k := by
  obtain ⟨h, a, b, c, d⟩ := k
  match n, hn1, hn with
  | 1, _, _ =>
    have e1 := hk 1 (by omega) (by omega)
    have e2 := hk 2 (by omega) (by omega)
    have e3 := hk 3 (by omega) (by omega)
    simp only [K9.dim] at e1 e2 e3
    subst e1 e2 e3
    rfl
  | 2, _, _ =>
    have e2 := hk 2 (by omega) (by omega)
    have e3 := hk 3 (by omega) (by omega)
    simp only [K9.dim] at e2 e3
    subst e2 e3
    rfl
  | 3, _, _ =>
    have e3 := hk 3 (by omega) (by omega)
    simp only [K9.dim] at e3
    subst e3
    rfl
  | 4, _, _ => rfl
theorem chk_empty {f : F9} {n : Nat} (h : chkF f (n : Int) = 0) : ∀ i, i < 4 → n ≤ i → f.k.dim i = [] := by
  unfold chkF at h
  split at h
  · split at h
    · split at h
      · rename_i ht
        simp only [okTexts, okText, Bool.and_eq_true, Bool.or_eq_true, decide_eq_true_iff, List.isEmpty_iff] at ht
        intro i hi hn
        match i, hi with
        | 0, _ => rcases ht.1.1.1.2 with g | g; · omega
                  · exact g
        | 1, _ => rcases ht.1.1.2.2 with g | g; · omega
                  · exact g
        | 2, _ => rcases ht.1.2.2 with g | g; · omega
                  · exact g
        | 3, _ => rcases ht.2.2 with g | g; · omega
                  · exact g
      · cases h
    · cases h
  · cases h
theorem one_back {f : F9} {n : Nat} (hn1 : 1 ≤ n) (hn : n ≤ 4) (h : chkF f (n : Int) = 0) (r : List UInt8) : sNum (factB n f ++ r, 0) = f.k.h.toNat ∧ oneF n f.k.h.toNat (sNum' (factB n f ++ r, 0)) = (f, (r, 0)) := by
  have hg := good_chk h
  have hh : Hid (f.k.h.toNat < 18446744073709551616) := by have := hg.h1; show _ < _; omega
  have e : factB n f ++ r = enc f.k.h.toNat ++ (textsB f.k n ++ (enc (zig f.v) ++ r)) := by
    unfold factB
    simp only [List.append_assoc]
  obtain ⟨a1, a2⟩ := num_back hh (textsB f.k n ++ (enc (zig f.v) ++ r))
  rw [e, a1, a2]
  refine ⟨rfl, ?_⟩
  have et := texts_back ⟨(f.k.h.toNat : Int), [], [], [], []⟩ f.k hg.t n (enc (zig f.v) ++ r) hn
  obtain ⟨i1, i2⟩ := int_back (v := f.v) (by have := hg.v0; show _ ≤ _; omega) (by have := hg.v1; show _ ≤ _; omega) r
  unfold oneF
  rw [et]
  show ((⟨putN _ f.k n, sInt (enc (zig f.v) ++ r, 0)⟩ : F9), sNum' (enc (zig f.v) ++ r, 0)) = _
  rw [i1, i2, Int.toNat_of_nonneg hg.h0, putN_all hn1 hn (chk_empty h)]
theorem readR_back {n : Nat} (hn1 : 1 ≤ n) (hn : n ≤ 4) : ∀ (fs out : List F9), (∀ f ∈ fs, chkF f (n : Int) = 0) → (allB (out ++ fs) n).1 = 0 → readR n fs.length (fs.flatMap (factB n), 0) out = (0, out ++ fs)
  | [], out, _, ha => by
    rw [List.append_nil] at ha ⊢
    show (if (0 : Nat) ≠ 0 then _ else if 0 < ([] : List UInt8).length then _ else if (allB out n).1 ≠ 0 then _ else (0, out)) = _
    simp [ha]
  | f :: fs, out, hc, ha => by
    have hf := hc f (by simp)
    obtain ⟨h1, h2⟩ := one_back hn1 hn hf (fs.flatMap (factB n))
    have hg := good_chk hf
    have ih := readR_back hn1 hn fs (out ++ [f]) (fun g hg => hc g (by simp [hg])) (by simpa using ha)
    show readR n (fs.length + 1) (factB n f ++ fs.flatMap (factB n), 0) out = _
    unfold readR
    rw [h1, h2, if_neg (by have := hg.h1; omega), if_neg (by simp), ih]
    simp
theorem readB_back {l : List F9} {n : Int} (h : (allB l n).1 = 0) : readB (batchB l n.toNat) n = (0, l) := by
  obtain ⟨⟨n1, n4⟩, ⟨l1, l50⟩, hc, _⟩ := all_good h
  obtain ⟨N, rfl⟩ := Int.eq_ofNat_of_zero_le (show 0 ≤ n by omega)
  have hd : okDims (N : Int) = true := by unfold okDims; simp [n1, n4]
  unfold readB
  rw [if_pos hd, Int.toNat_natCast]
  obtain ⟨c1, c2⟩ := count_back l50 (l.flatMap (factB N))
  have e : batchB l N = enc l.length ++ l.flatMap (factB N) := rfl
  rw [e, c1, c2]
  have := readR_back (by omega) (by omega) l [] hc (by simpa using h)
  simpa using this

end Go.Proofs.Ytieffpngknglpaa
