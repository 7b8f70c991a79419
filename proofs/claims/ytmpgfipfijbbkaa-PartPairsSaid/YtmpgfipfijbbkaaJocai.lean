/-
  Texts laid one behind the other: Zp R2e Ew R2s R2p R3u R3e R3f.
-/
import Derived.Test.YtmpgfipfijbbkaaJocah
import Derived.Test.YtmpgfipfijbbkaaJocad
import Derived.Test.YtmpgfipfijbbkaaJocac
import Derived.Test.YtmpgfipfijbbkaaJocae
import Derived.Test.YtmpgfipfijbbkaaJocag

/-
  Stage 9, plain: there and back.
-/
namespace Go.Proofs.Ytmpgfipfijbbkaa
open Go.RowKit

theorem zig_zag9 (n : Nat) : zig (zag n) = n := by
  unfold zig zag
  by_cases h : n % 2 = 0
  · rw [if_pos h, if_pos (by omega)]
    omega
  · rw [if_neg h, if_neg (by omega)]
    omega
theorem mid_of (b : UInt8) (q : Nat) (hb : 128 ≤ b.toNat) : mid (b.toNat - 128 + q * 128) = b := by
  have hlt : b.toNat < 256 := UInt8.toNat_lt b
  apply UInt8.toNat_inj.1
  unfold mid
  rw [UInt8.toNat_ofNat']
  omega
theorem low_of (b : UInt8) : low b.toNat = b := by
  apply UInt8.toNat_inj.1
  exact low_toNat _ (UInt8.toNat_lt b)
/-- What is read as a number is just what would be put, and what is left. -/
theorem rdF_exact : ∀ (g i acc : Nat) (l : List UInt8), (rdF g i acc l).2.1 = 0 →
    ∃ q, (rdF g i acc l).1 = acc + q * 128 ^ i ∧ i ≤ (rdF g i acc l).2.2 ∧ l = encF (g - 1) q ++ l.drop ((rdF g i acc l).2.2 - i) ∧ (0 < i → 0 < q)
  | 0, _, _, _, h => by cases h
  | _ + 1, _, _, [], h => by cases h
  | g + 1, i, acc, b :: l, h => by
    have e : rdF (g + 1) i acc (b :: l) = if 128 ≤ b.toNat then rdF g (i + 1) (acc + (b.toNat - 128) * 128 ^ i) l
      else if (0 < i ∧ b.toNat = 0) ∨ (i = 9 ∧ 1 < b.toNat) then (0, 4, i + 1) else (acc + b.toNat * 128 ^ i, 0, i + 1) := rfl
    rw [e] at h ⊢
    by_cases hb : 128 ≤ b.toNat
    · rw [if_pos hb] at h ⊢
      obtain ⟨q, h1, h2, h3, h4⟩ := rdF_exact g (i + 1) _ l h
      have hq := h4 (by omega)
      have hlt : b.toNat < 256 := UInt8.toNat_lt b
      cases g with
      | zero => cases h
      | succ g =>
        refine ⟨b.toNat - 128 + q * 128, ?_, by omega, ?_, fun _ => by omega⟩
        · rw [h1, Nat.pow_succ, Nat.add_mul, Nat.mul_assoc q 128, Nat.mul_comm 128 (128 ^ i)]
          omega
        · have e2 : encF (g + 1) (b.toNat - 128 + q * 128) = b :: encF g q := by
            show (if _ < 128 then _ else _) = _
            rw [if_neg (by omega), mid_of b q hb, show (b.toNat - 128 + q * 128) / 128 = q by omega]
          show b :: l = encF (g + 1) _ ++ _
          rw [e2]
          generalize (rdF (g + 1) (i + 1) (acc + (b.toNat - 128) * 128 ^ i) l).2.2 = n at *
          rw [show n - i = (n - (i + 1)) + 1 by omega, List.drop_succ_cons, List.cons_append]
          congr 1
    · rw [if_neg hb] at h ⊢
      by_cases hz : (0 < i ∧ b.toNat = 0) ∨ (i = 9 ∧ 1 < b.toNat)
      · rw [if_pos hz] at h
        cases h
      · rw [if_neg hz]
        refine ⟨b.toNat, rfl, by show i ≤ i + 1; omega, ?_, fun hi => by omega⟩
        have e2 : encF g b.toNat = [b] := by
          cases g with
          | zero => show [low b.toNat] = [b]; rw [low_of]
          | succ g =>
            show (if _ < 128 then _ else _) = _
            rw [if_pos (by omega), low_of]
        show b :: l = encF g b.toNat ++ _
        rw [e2, show i + 1 - i = 1 by omega]
        rfl
theorem rdNum_exact {l : List UInt8} (h : (rdNum l).2.1 = 0) : l = enc (rdNum l).1 ++ l.drop (rdNum l).2.2 := by
  obtain ⟨q, h1, _, h2, _⟩ := rdF_exact 10 0 0 l h
  have e : (rdNum l).1 = q := by
    show (rdF 10 0 0 l).1 = q
    rw [h1]
    simp
  rw [e]
  exact h2
theorem num_there {s : RS9} (h : (sNum' s).2 = 0) : s.2 = 0 ∧ s.1 = enc (sNum s) ++ (sNum' s).1 := by
  unfold sNum sNum' at *
  by_cases hs : s.2 = 0
  · rw [if_pos hs] at h
    rw [if_pos hs, if_pos hs]
    exact ⟨hs, rdNum_exact h⟩
  · rw [if_neg hs] at h
    exact absurd h hs
theorem text_there {s : RS9} (h : (sText' s).2 = 0) : s.2 = 0 ∧ s.1 = textB (sText s) ++ (sText' s).1 ∧ (sText s).length ≤ 16 := by
  unfold sText sText' at *
  by_cases hs : s.2 = 0
  · rw [if_pos hs] at h
    rw [if_pos hs, if_pos hs]
    refine ⟨hs, ?_⟩
    unfold rdText rdCount at h ⊢
    by_cases h1 : (rdNum s.1).2.1 = 0
    · by_cases h2 : 16 < (rdNum s.1).1
      · simp [h1, h2] at h
      · by_cases h3 : (s.1.drop (rdNum s.1).2.2).length < (rdNum s.1).1
        · simp only [h1, h2, ne_eq, not_true_eq_false, if_false, h3, if_true] at h
          cases h
        · simp only [h1, h2, ne_eq, not_true_eq_false, if_false, h3]
          have hl : ((s.1.drop (rdNum s.1).2.2).take (rdNum s.1).1).length = (rdNum s.1).1 := by rw [List.length_take]; omega
          refine ⟨?_, by omega⟩
          unfold textB
          rw [hl]
          have e := rdNum_exact h1
          conv => lhs; rw [e]
          rw [List.append_assoc, ← List.drop_drop, List.take_append_drop]
    · simp only [ne_eq, h1, not_false_eq_true, if_true] at h
  · rw [if_neg hs] at h
    exact absurd h hs
theorem count_there {s : RS9} (h : (sCount' s).2 = 0) : s.2 = 0 ∧ s.1 = enc (sCount s) ++ (sCount' s).1 ∧ sCount s ≤ 50 := by
  unfold sCount sCount' at *
  by_cases hs : s.2 = 0
  · rw [if_pos hs] at h
    rw [if_pos hs, if_pos hs]
    refine ⟨hs, ?_⟩
    unfold rdCount at h ⊢
    by_cases h1 : (rdNum s.1).2.1 = 0
    · by_cases h2 : 50 < (rdNum s.1).1
      · simp [h1, h2] at h
      · simp only [h1, h2, ne_eq, not_true_eq_false, if_false]
        exact ⟨rdNum_exact h1, by omega⟩
    · simp only [ne_eq, h1, not_false_eq_true, if_true] at h
  · rw [if_neg hs] at h
    exact absurd h hs


theorem dim_put {k : K9} {i j : Nat} (hi : i < 4) (hj : j < 4) (t : List UInt8) : (k.put i t).dim j = if i = j then t else k.dim j := by
  match i, hi, j, hj with
  | 0, _, 0, _ => rfl
  | 0, _, 1, _ => rfl
  | 0, _, 2, _ => rfl
  | 0, _, 3, _ => rfl
  | 1, _, 0, _ => rfl
  | 1, _, 1, _ => rfl
  | 1, _, 2, _ => rfl
  | 1, _, 3, _ => rfl
  | 2, _, 0, _ => rfl
  | 2, _, 1, _ => rfl
  | 2, _, 2, _ => rfl
  | 2, _, 3, _ => rfl
  | 3, _, 0, _ => rfl
  | 3, _, 1, _ => rfl
  | 3, _, 2, _ => rfl
  | 3, _, 3, _ => rfl
theorem put_h {k : K9} {i : Nat} (t : List UInt8) : (k.put i t).h = k.h := by
  unfold K9.put
  split <;> rfl
theorem texts_same {k k' : K9} : ∀ n, (∀ j, j < n → k.dim j = k'.dim j) → textsB k n = textsB k' n
  | 0, _ => rfl
  | n + 1, h => by
    show textsB k n ++ textB (k.dim n) = textsB k' n ++ textB (k'.dim n)
    rw [texts_same n (fun j hj => h j (by omega)), h n (by omega)]
theorem textsK_h (k0 : K9) (s : RS9) : ∀ n, (textsK k0 s n).1.h = k0.h
  | 0 => rfl
  | n + 1 => by
    show ((textsK k0 s n).1.put n _).h = k0.h
    rw [put_h, textsK_h k0 s n]
theorem texts_there (k0 : K9) (s : RS9) : ∀ n, n ≤ 4 → (textsK k0 s n).2.2 = 0 → s.2 = 0 ∧ s.1 = textsB (textsK k0 s n).1 n ++ (textsK k0 s n).2.1
  | 0, _, h => ⟨h, rfl⟩
  | n + 1, hn, h => by
    obtain ⟨h1, h2, _⟩ := text_there (s := (textsK k0 s n).2) h
    obtain ⟨g1, g2⟩ := texts_there k0 s n (by omega) h1
    refine ⟨g1, ?_⟩
    have e1 : textsB (textsK k0 s (n + 1)).1 (n + 1) = textsB (textsK k0 s n).1 n ++ textB (sText (textsK k0 s n).2) := by
      show textsB ((textsK k0 s n).1.put n _) n ++ textB (((textsK k0 s n).1.put n _).dim n) = _
      rw [dim_put (by omega) (by omega), if_pos rfl, texts_same n (k' := (textsK k0 s n).1) (fun j hj => by rw [dim_put (by omega) (by omega), if_neg (by omega)])]
    have e2 : (textsK k0 s (n + 1)).2.1 = (sText' (textsK k0 s n).2).1 := rfl
    rw [e1, e2, List.append_assoc, ← h2]
    exact g2
theorem one_there {n h : Nat} {s : RS9} (hn : n ≤ 4) (hf : (oneF n h s).2.2 = 0) : s.2 = 0 ∧ enc h ++ s.1 = factB n (oneF n h s).1 ++ (oneF n h s).2.1 := by
  obtain ⟨h1, h2⟩ := num_there (s := (textsK ⟨h, [], [], [], []⟩ s n).2) hf
  obtain ⟨g1, g2⟩ := texts_there _ s n hn h1
  refine ⟨g1, ?_⟩
  have e1 : (oneF n h s).1.k.h.toNat = h := by
    show (textsK _ s n).1.h.toNat = h
    rw [textsK_h]
    simp
  have e2 : zig (oneF n h s).1.v = sNum (textsK ⟨h, [], [], [], []⟩ s n).2 := by
    show zig (sInt _) = _
    unfold sInt sNum
    rw [if_pos h1, if_pos h1, zig_zag9]
  unfold factB
  rw [e1, e2, g2]
  have e3 : (oneF n h s).2.1 = (sNum' (textsK ⟨h, [], [], [], []⟩ s n).2).1 := rfl
  rw [e3]
  conv => lhs; rw [h2]
  simp only [List.append_assoc]
  rfl
theorem readR_there {n : Nat} (hn : n ≤ 4) : ∀ (i : Nat) (s : RS9) (out res : List F9), readR n i s out = (0, res) → s.2 = 0 ∧ ∃ new, res = out ++ new ∧ new.length = i ∧ s.1 = new.flatMap (factB n) ∧ (allB res n).1 = 0
  | 0, s, out, res, h => by
    unfold readR at h
    split at h
    · rename_i hs
      have := congrArg Prod.fst h
      simp at this
      exact absurd this hs
    · rename_i hs
      split at h
      · cases congrArg Prod.fst h
      · rename_i hl
        split at h
        · rename_i ha
          exact absurd (congrArg Prod.fst h) ha
        · rename_i ha
          have e : out = res := congrArg Prod.snd h
          subst e
          exact ⟨by omega, [], by simp, rfl, List.eq_nil_of_length_eq_zero (by omega), by omega⟩
  | i + 1, s, out, res, h => by
    unfold readR at h
    split at h
    · cases congrArg Prod.fst h
    · rename_i hb
      split at h
      · rename_i hf
        have := congrArg Prod.fst h
        simp at this
        exact absurd this hf
      · rename_i hf
        have hf0 : (oneF n (sNum s) (sNum' s)).2.2 = 0 := by omega
        obtain ⟨h1, new, h2, h3, h4, h5⟩ := readR_there hn i _ _ res h
        obtain ⟨g1, g2⟩ := one_there hn hf0
        obtain ⟨k1, k2⟩ := num_there g1
        refine ⟨k1, (oneF n (sNum s) (sNum' s)).1 :: new, by rw [h2]; simp, by rw [List.length_cons, h3], ?_, h5⟩
        rw [k2, g2, h4]
        rfl
theorem readB_there {m : List UInt8} {n : Int} {res : List F9} (h : readB m n = (0, res)) : m = batchB res n.toNat ∧ (allB res n).1 = 0 := by
  unfold readB at h
  split at h
  · rename_i hd
    unfold okDims at hd
    simp only [Bool.and_eq_true, decide_eq_true_iff] at hd
    obtain ⟨N, rfl⟩ := Int.eq_ofNat_of_zero_le (show 0 ≤ n by omega)
    rw [Int.toNat_natCast] at h ⊢
    obtain ⟨h1, new, h2, h3, h4, h5⟩ := readR_there (by omega) _ _ _ _ h
    rw [List.nil_append] at h2
    subst h2
    obtain ⟨_, g2, _⟩ := count_there h1
    refine ⟨?_, h5⟩
    unfold batchB
    rw [h3, ← h4]
    exact g2
  · cases congrArg Prod.fst h
theorem readB_none {m : List UInt8} {n : Int} (h : (readB m n).1 ≠ 0) : (readB m n).2 = [] := by
  have key : ∀ (N i : Nat) (s : RS9) (out : List F9), (readR N i s out).1 ≠ 0 → (readR N i s out).2 = [] := by
    intro N i
    induction i with
    | zero =>
      intro s out h
      unfold readR at h ⊢
      split
      · rfl
      · rename_i h1
        rw [if_neg h1] at h
        split
        · rfl
        · rename_i h2
          rw [if_neg h2] at h
          split
          · rfl
          · rename_i h3
            rw [if_neg h3] at h
            exact absurd rfl h
    | succ i ih =>
      intro s out h
      unfold readR at h ⊢
      split
      · rfl
      · rename_i h1
        rw [if_neg h1] at h
        split
        · rfl
        · rename_i h2
          rw [if_neg h2] at h
          exact ih _ _ h
  unfold readB at h ⊢
  split
  · rename_i h1
    rw [if_pos h1] at h
    exact key _ _ _ _ h
  · rfl

theorem num_back {n : Nat} (hn : Hid (n < 18446744073709551616)) (r : List UInt8) : sNum (enc n ++ r, 0) = n ∧ sNum' (enc n ++ r, 0) = (r, 0) := by
  unfold sNum sNum'
  simp only [if_true]
  rw [rdNum_enc n r hn]
  exact ⟨rfl, by simp⟩
theorem int_back {v : Int} (h1 : Hid (-9223372036854775808 ≤ v)) (h2 : Hid (v ≤ 9223372036854775807)) (r : List UInt8) : sInt (enc (zig v) ++ r, 0) = v ∧ sNum' (enc (zig v) ++ r, 0) = (r, 0) := by
  have hz := zig_lt v h1 h2
  refine ⟨?_, (num_back hz r).2⟩
  unfold sInt
  simp only [if_true]
  rw [rdNum_enc _ r hz, zag_zig]
theorem text_back {t : List UInt8} (ht : t.length ≤ 16) (r : List UInt8) : sText (textB t ++ r, 0) = t ∧ sText' (textB t ++ r, 0) = (r, 0) := by
  have hn : Hid (t.length < 18446744073709551616) := by show _ < _; omega
  have e : rdNum (textB t ++ r) = (t.length, 0, (enc t.length).length) := by
    unfold textB
    rw [List.append_assoc]
    exact rdNum_enc t.length (t ++ r) hn
  have ed : (textB t ++ r).drop (enc t.length).length = t ++ r := by
    unfold textB
    rw [List.append_assoc, List.drop_left]
  have e2 : rdText 16 (textB t ++ r) = (t, 0, (enc t.length).length + t.length) := by
    unfold rdText rdCount
    rw [e]
    have h16 : ¬ 16 < t.length := by omega
    simp only [ne_eq, not_true_eq_false, if_false, h16, ed]
    rw [if_neg (by rw [List.length_append]; omega), List.take_left]
  unfold sText sText'
  simp only [if_true]
  rw [e2]
  refine ⟨rfl, ?_⟩
  show ((textB t ++ r).drop ((enc t.length).length + t.length), 0) = _
  rw [← List.drop_drop, ed, List.drop_left]
theorem count_back {n : Nat} (hn : n ≤ 50) (r : List UInt8) : sCount (enc n ++ r, 0) = n ∧ sCount' (enc n ++ r, 0) = (r, 0) := by
  have e := rdNum_enc n r (by show _ < _; omega)
  have e2 : rdCount 50 (enc n ++ r) = (n, 0, (enc n).length) := by
    unfold rdCount
    rw [e]
    have h50 : ¬ 50 < n := by omega
    simp [h50]
  unfold sCount sCount'
  simp only [if_true]
  rw [e2]
  exact ⟨rfl, by simp⟩
/-- A key's first texts put into another. -/
def putN (k0 k : K9) : Nat → K9
  | 0 => k0
  | i + 1 => (putN k0 k i).put i (k.dim i)
theorem texts_back (k0 k : K9) (hk : ∀ i, i < 4 → (k.dim i).length ≤ 16) : ∀ (n : Nat) (r : List UInt8), n ≤ 4 → textsK k0 (textsB k n ++ r, 0) n = (putN k0 k n, (r, 0))
  | 0, _, _ => rfl
  | n + 1, r, hn => by
    have ih := texts_back k0 k hk n (textB (k.dim n) ++ r) (by omega)
    have e : textsB k (n + 1) ++ r = textsB k n ++ (textB (k.dim n) ++ r) := by
      show textsB k n ++ textB (k.dim n) ++ r = _
      rw [List.append_assoc]
    rw [e]
    show ((textsK k0 (textsB k n ++ (textB (k.dim n) ++ r), 0) n).1.put n (sText (textsK k0 (textsB k n ++ (textB (k.dim n) ++ r), 0) n).2), sText' (textsK k0 (textsB k n ++ (textB (k.dim n) ++ r), 0) n).2) = _
    rw [ih]
    obtain ⟨t1, t2⟩ := text_back (hk n (by omega)) r
    rw [t1, t2]
    rfl
theorem putN_all {k : K9} {n : Nat} (hn1 : 1 ≤ n) (hn : n ≤ 4) (hk : ∀ i, i < 4 → n ≤ i → k.dim i = []) : putN ⟨k.h, [], [], [], []⟩ k n = k := by
  obtain ⟨h, a, b, c, d⟩ := k
  match n, hn1, hn with
  | 1, _, _ =>
    have e1 := hk 1 (by omega) (by omega)
    have e2 := hk 2 (by omega) (by omega)
    have e3 := hk 3 (by omega) (by omega)
    simp only [K9.dim] at e1 e2 e3
    subst e1 e2 e3
    rfl
  | 2, _, _ =>
    have e2 := hk 2 (by omega) (by omega)
    have e3 := hk 3 (by omega) (by omega)
    simp only [K9.dim] at e2 e3
    subst e2 e3
    rfl
  | 3, _, _ =>
    have e3 := hk 3 (by omega) (by omega)
    simp only [K9.dim] at e3
    subst e3
    rfl
  | 4, _, _ => rfl
theorem chk_empty {f : F9} {n : Nat} (h : chkF f (n : Int) = 0) : ∀ i, i < 4 → n ≤ i → f.k.dim i = [] := by
  unfold chkF at h
  split at h
  · split at h
    · split at h
      · rename_i ht
        simp only [okTexts, okText, Bool.and_eq_true, Bool.or_eq_true, decide_eq_true_iff, List.isEmpty_iff] at ht
        intro i hi hn
        match i, hi with
        | 0, _ => rcases ht.1.1.1.2 with g | g; · omega
                  · exact g
        | 1, _ => rcases ht.1.1.2.2 with g | g; · omega
                  · exact g
        | 2, _ => rcases ht.1.2.2 with g | g; · omega
                  · exact g
        | 3, _ => rcases ht.2.2 with g | g; · omega
                  · exact g
      · cases h
    · cases h
  · cases h
theorem one_back {f : F9} {n : Nat} (hn1 : 1 ≤ n) (hn : n ≤ 4) (h : chkF f (n : Int) = 0) (r : List UInt8) : sNum (factB n f ++ r, 0) = f.k.h.toNat ∧ oneF n f.k.h.toNat (sNum' (factB n f ++ r, 0)) = (f, (r, 0)) := by
  have hg := good_chk h
  have hh : Hid (f.k.h.toNat < 18446744073709551616) := by have := hg.h1; show _ < _; omega
  have e : factB n f ++ r = enc f.k.h.toNat ++ (textsB f.k n ++ (enc (zig f.v) ++ r)) := by
    unfold factB
    simp only [List.append_assoc]
  obtain ⟨a1, a2⟩ := num_back hh (textsB f.k n ++ (enc (zig f.v) ++ r))
  rw [e, a1, a2]
  refine ⟨rfl, ?_⟩
  have et := texts_back ⟨(f.k.h.toNat : Int), [], [], [], []⟩ f.k hg.t n (enc (zig f.v) ++ r) hn
  obtain ⟨i1, i2⟩ := int_back (v := f.v) (by have := hg.v0; show _ ≤ _; omega) (by have := hg.v1; show _ ≤ _; omega) r
  unfold oneF
  rw [et]
  show ((⟨putN _ f.k n, sInt (enc (zig f.v) ++ r, 0)⟩ : F9), sNum' (enc (zig f.v) ++ r, 0)) = _
  rw [i1, i2, Int.toNat_of_nonneg hg.h0, putN_all hn1 hn (chk_empty h)]
theorem readR_back {n : Nat} (hn1 : 1 ≤ n) (hn : n ≤ 4) : ∀ (fs out : List F9), (∀ f ∈ fs, chkF f (n : Int) = 0) → (allB (out ++ fs) n).1 = 0 → readR n fs.length (fs.flatMap (factB n), 0) out = (0, out ++ fs)
  | [], out, _, ha => by
    rw [List.append_nil] at ha ⊢
    show (if (0 : Nat) ≠ 0 then _ else if 0 < ([] : List UInt8).length then _ else if (allB out n).1 ≠ 0 then _ else (0, out)) = _
    simp [ha]
  | f :: fs, out, hc, ha => by
    have hf := hc f (by simp)
    obtain ⟨h1, h2⟩ := one_back hn1 hn hf (fs.flatMap (factB n))
    have hg := good_chk hf
    have ih := readR_back hn1 hn fs (out ++ [f]) (fun g hg => hc g (by simp [hg])) (by simpa using ha)
    show readR n (fs.length + 1) (factB n f ++ fs.flatMap (factB n), 0) out = _
    unfold readR
    rw [h1, h2, if_neg (by have := hg.h1; omega), if_neg (by simp), ih]
    simp
theorem readB_back {l : List F9} {n : Int} (h : (allB l n).1 = 0) : readB (batchB l n.toNat) n = (0, l) := by
  obtain ⟨⟨n1, n4⟩, ⟨l1, l50⟩, hc, _⟩ := all_good h
  obtain ⟨N, rfl⟩ := Int.eq_ofNat_of_zero_le (show 0 ≤ n by omega)
  have hd : okDims (N : Int) = true := by unfold okDims; simp [n1, n4]
  unfold readB
  rw [if_pos hd, Int.toNat_natCast]
  obtain ⟨c1, c2⟩ := count_back l50 (l.flatMap (factB N))
  have e : batchB l N = enc l.length ++ l.flatMap (factB N) := rfl
  rw [e, c1, c2]
  have := readR_back (by omega) (by omega) l [] hc (by simpa using h)
  simpa using this

end Go.Proofs.Ytmpgfipfijbbkaa

/-
  Stage 18: a policy there and back, plain; what is asked of the program's policy; alive.
-/
namespace Go.Proofs.Ytmpgfipfijbbkaa
open Go.RowKit

set_option maxRecDepth 100000

theorem iter_form18 {l : List Nat} (h : ∀ n ∈ l, n ≤ 4611686018427387904) : ∀ i, i ≤ l.length → iter18 i (l.flatMap enc, 0) = ((l.drop i).flatMap enc, 0)
  | 0, _ => rfl
  | i + 1, hi => by
    have ih := iter_form18 h i (by omega)
    have hd := List.drop_eq_getElem_cons (l := l) (i := i) (by omega)
    have hb := (num_back (n := l[i]) (by show _ < _; have := h l[i] (List.getElem_mem (by omega)); omega) ((l.drop (i + 1)).flatMap enc)).2
    show sNum' (iter18 i _) = _
    rw [ih, hd, List.flatMap_cons]
    exact hb
theorem num_form18 {l : List Nat} (h : ∀ n ∈ l, n ≤ 4611686018427387904) {i : Nat} (hi : i < l.length) : numAt18 (l.flatMap enc, 0) i = l[i] := by
  have hd := List.drop_eq_getElem_cons (l := l) (i := i) hi
  have hb := (num_back (n := l[i]) (by show _ < _; have := h l[i] (List.getElem_mem hi); omega) ((l.drop (i + 1)).flatMap enc)).1
  show sNum (iter18 i _) = _
  rw [iter_form18 h i (by omega), hd, List.flatMap_cons]
  exact hb
theorem great_form18 {l : List Nat} (h : ∀ n ∈ l, n ≤ 4611686018427387904) : ∀ i, i ≤ l.length → great18 (l.flatMap enc, 0) i = false
  | 0, _ => rfl
  | i + 1, hi => by
    unfold great18
    rw [great_form18 h i (by omega), num_form18 h (by omega), decide_eq_false (by have := h l[i] (List.getElem_mem (by omega)); omega)]
    rfl
def natsY (p : Y18) : List Nat := (numsY p).map Int.toNat
theorem form_nats18 (p : Y18) : formY p = (natsY p).flatMap enc := by
  unfold formY natsY
  rw [List.flatMap_map]
theorem read_form18 {p : Y18} (hp : OkY p) : readY (formY p, 0) = (p, 0) ∧ iter18 9 (formY p, 0) = ([], 0) := by
  have hn : ∀ n ∈ natsY p, n ≤ 4611686018427387904 := fun n h => by
    obtain ⟨m, hm, rfl⟩ := List.mem_map.1 h
    have := nums_nat18 hp m hm
    omega
  have hl : (natsY p).length = 9 := rfl
  have h9 : iter18 9 (formY p, 0) = ([], 0) := by
    rw [form_nats18, iter_form18 hn 9 (by omega), List.drop_of_length_le (by omega)]
    rfl
  have hg : great18 (formY p, 0) 9 = false := by rw [form_nats18]; exact great_form18 hn 9 (by omega)
  have key : ∀ k (hk : k < 9), (numAt18 (formY p, 0) k : Int) = (numsY p)[k]'hk := fun k hk => by
    rw [form_nats18, num_form18 hn (by rw [hl]; exact hk)]
    have := (nums_nat18 hp _ (List.getElem_mem (l := numsY p) (n := k) hk)).1
    have e : (natsY p)[k]'(by rw [hl]; exact hk) = ((numsY p)[k]'hk).toNat := by
      simp [natsY]
      rfl
    rw [e]
    omega
  have hpol : polY (formY p, 0) = p := by
    unfold polY
    rw [key 0 (by decide), key 1 (by decide), key 2 (by decide), key 3 (by decide), key 4 (by decide), key 5 (by decide), key 6 (by decide), key 7 (by decide), key 8 (by decide)]
    rfl
  have hc : chkY p = 0 := by unfold chkY; rw [ok_iff18.2 hp]; rfl
  refine ⟨?_, h9⟩
  unfold readY
  rw [h9, hg, hpol, hc, if_neg (by simp), if_neg (by decide), if_neg (by simp)]

/-- Behind a call that gives bytes and what is wrong. -/
def RecP18 (w : World) (r : List UInt8 × Int) (e : Ending) (w' : World) : Prop := ∃ v, e = .returned (.tuple #[v, .int .i64 r.2]) ∧ Rd w' v r.1 ∧ Turn (fun _ => False) w w'
theorem plain_ok18 : OkY plainY := ok_iff18.1 (by decide)
theorem plain_delays18 : delayY plainY 0 = 2 ∧ delayY plainY 5 = 60 ∧ delayY plainY 100 = 60 := by decide

end Go.Proofs.Ytmpgfipfijbbkaa

/-
  A writer of pack (the program's) that is new since a world: one contract a call. For every stage whose code puts bytes so.
-/
namespace Go.Proofs.Ytmpgfipfijbbkaa
open Go.RowKit

section
variable {w wr w' : World} {p : Nat} {l l' : List UInt8}
end

end Go.Proofs.Ytmpgfipfijbbkaa

/-
  Stage 18: widened, Check, narrowed, Encode.
-/
namespace Go.Proofs.Ytmpgfipfijbbkaa
open Go.RowKit

set_option maxRecDepth 100000

/-- Behind widen: a wide policy in new memory. -/
def Wide18 (w : World) (p : Y18) (e : Ending) (w' : World) : Prop := ∃ g, e = .returned (fp18 g 0) ∧ Box w' g 59 (wcells18 p p.qu) ∧ Turn (fun _ => False) w w' ∧ w.heap.size ≤ g

set_option maxHeartbeats 4000000 in
theorem widen_any18 (p : Y18) (w : World) : Calls Try.prog 43 #[yv18 p] w fun e w' => Wide18 w p e w' := by
  obtain ⟨y0, y1, y2, y3, y4, y5, y6, y7, y8⟩ := box_y18 (Box.new w 34 (ycells18 p))
  obtain ⟨wb, hwb⟩ : ∃ wb, wb = (w.alloc (.cells (ycells18 p) 34)).alloc (.cells (wcells18 p p.qu) 59) := ⟨_, rfl⟩
  have HT : Hid (Turn (fun _ => False) w wb) := by rw [hwb]; exact ((Turn.refl _ w).alloc _).alloc _
  have HBX : Hid (Box wb (w.heap.size + 1) 59 (wcells18 p p.qu)) := by
    have h := Box.new (w.alloc (.cells (ycells18 p) 34)) 59 (wcells18 p p.qu)
    rw [World.size_alloc] at h
    rw [hwb]
    exact h
  have HWB := Lib.hid hwb
  clear hwb
  go_enter Try.func43, Try.ntmps43
  go_wp2
  rw [← HWB.out]
  go_ret
  exact ⟨_, rfl, HBX.out, HT.out, Nat.le_succ _⟩

set_option maxHeartbeats 4000000 in
theorem check_any18 (p : Y18) (w : World) : Calls Try.prog 31 #[yv18 p] w fun e w' => e = .returned (.int .i64 (chkY p)) ∧ Turn (fun _ => False) w w' := by
  obtain ⟨y0, y1, y2, y3, y4, y5, y6, y7, y8⟩ := box_y18 (Box.new w 34 (ycells18 p))
  have HT : Hid (Turn (fun _ => False) w (w.alloc (.cells (ycells18 p) 34))) := (Turn.refl _ w).alloc _
  have HWD := Lib.hid (widen_any18 p (w.alloc (.cells (ycells18 p) 34)))
  go_enter Try.func31, Try.ntmps31
  go_wp2_with fail
  refine HWD.out.mono ?_
  rintro e w1 ⟨g, rfl, hb, t1, -⟩
  have HB := Lib.hid hb; have HT1 := Lib.hid (HT.out.trans t1 (fun _ _ f => f))
  clear hb t1 HWD
  go_wp2_with fail
  refine (wcheck_any18 p p.qu g w1 HB.out).mono ?_
  rintro e w2 ⟨rfl, t2⟩
  have HT2 := Lib.hid (HT1.out.trans t2 (fun _ _ f => f))
  clear t2 HT1 HT
  go_wp2
  go_ret
  exact ⟨rfl, HT2.out⟩

end Go.Proofs.Ytmpgfipfijbbkaa

/-
  Stage 18: the program's Plain, Lag, Cutoff, Delay.
-/
namespace Go.Proofs.Ytmpgfipfijbbkaa
open Go.RowKit

set_option maxRecDepth 100000

set_option maxHeartbeats 4000000 in
theorem lag_any18 (p : Y18) (t : Int) (w : World) : Calls Try.prog 32 #[yv18 p, .int .i64 t] w fun e w' => e = .returned (.tuple #[.int .i64 (lagY p t).1, .bool (lagY p t).2]) ∧ Turn (fun _ => False) w w' := by
  obtain ⟨y0, y1, y2, y3, y4, y5, y6, y7, y8⟩ := box_y18 (Box.new w 34 (ycells18 p))
  have HT : Hid (Turn (fun _ => False) w (w.alloc (.cells (ycells18 p) 34))) := (Turn.refl _ w).alloc _
  by_cases h1 : t = 1
  · have HL : Hid (lagY p t = (p.sl, true)) := if_pos h1
    have e1 : (t == 1) = true := by rw [beq_iff_eq]; exact h1
    clear h1
    go_enter Try.func32, Try.ntmps32
    go_wp2
    go_ret2
    exact ⟨by rw [HL.out]; rfl, HT.out⟩
  · have e1 : (t == 1) = false := by rw [beq_eq_false_iff_ne]; exact h1
    by_cases h2 : t = 2
    · have HL : Hid (lagY p t = (p.dl, true)) := (if_neg h1).trans (if_pos h2)
      have e2 : (t == 2) = true := by rw [beq_iff_eq]; exact h2
      clear h1 h2
      go_enter Try.func32, Try.ntmps32
      go_wp2
      go_ret2
      exact ⟨by rw [HL.out]; rfl, HT.out⟩
    · have e2 : (t == 2) = false := by rw [beq_eq_false_iff_ne]; exact h2
      by_cases h3 : t = 3
      · have HL : Hid (lagY p t = (p.ml, true)) := (if_neg h1).trans ((if_neg h2).trans (if_pos h3))
        have e3 : (t == 3) = true := by rw [beq_iff_eq]; exact h3
        clear h1 h2 h3
        go_enter Try.func32, Try.ntmps32
        go_wp2
        go_ret2
        exact ⟨by rw [HL.out]; rfl, HT.out⟩
      · have HL : Hid (lagY p t = (0, false)) := (if_neg h1).trans ((if_neg h2).trans (if_neg h3))
        have e3 : (t == 3) = false := by rw [beq_eq_false_iff_ne]; exact h3
        clear h1 h2 h3
        go_enter Try.func32, Try.ntmps32
        go_wp2
        go_ret2
        exact ⟨by rw [HL.out]; rfl, HT.out⟩

end Go.Proofs.Ytmpgfipfijbbkaa

/-
  Stage 19: the program's Due, Best.
-/
namespace Go.Proofs.Ytmpgfipfijbbkaa
open Go.RowKit

set_option maxRecDepth 100000

set_option maxHeartbeats 8000000 in
theorem due_any19 (p : T19) (y : Y18) (h : Int) (w : World) : Calls Try.prog 22 #[tv19 p, yv18 y, .int .i64 h] w fun e w' => e = .returned (.bool (due19 p y h)) ∧ Turn (fun _ => False) w w' := by
  obtain ⟨g, hg⟩ : ∃ g, g = w.heap.size := ⟨_, rfl⟩
  obtain ⟨k, hk⟩ : ∃ k, k = w.heap.size + 1 := ⟨_, rfl⟩
  obtain ⟨wb, hwb⟩ : ∃ wb, wb = (w.alloc (.cells (tcells19 p) 23)).alloc (.cells (ycells18 y) 34) := ⟨_, rfl⟩
  have HT : Hid (Turn (fun _ => False) w wb) := by rw [hwb]; exact ((Turn.refl _ w).alloc _).alloc _
  have HA : Hid (Box wb g 23 (tcells19 p)) := by rw [hwb, hg]; exact (Box.new w _ _).alloc _
  have HB : Hid (Box wb k 34 (ycells18 y)) := by
    have h := Box.new (w.alloc (.cells (tcells19 p) 23)) 34 (ycells18 y)
    rw [World.size_alloc] at h
    rw [hwb, hk]
    exact h
  obtain ⟨z0, z1⟩ := box_t19 HA.out
  rw [hwb, hg] at z0 z1
  have HRT := Lib.hid (right_any19 p wb)
  have HLG : Hid (∀ W, Calls Try.prog 32 #[yv18 y, .int .i64 p.t] W fun e w' => e = .returned (.tuple #[.int .i64 (lagY y p.t).1, .bool (lagY y p.t).2]) ∧ Turn (fun _ => False) W w') := fun W => lag_any18 y p.t W
  have HSP : Hid (∀ W, Calls Try.prog 7 #[tv19 p] W fun e w' => e = .returned (.tuple #[.int .i64 (span19 p).1, .int .i64 (span19 p).2]) ∧ Turn (fun _ => False) W w') := fun W => span_any19 p W
  have HCK : Hid (∀ W, Calls Try.prog 31 #[yv18 y] W fun e w' => e = .returned (.int .i64 (if okY y then 0 else 2)) ∧ Turn (fun _ => False) W w') := fun W => check_any18 y W
  have HX : Hid (True → due19 p y h = (right19 p && (okY y && decide ((span19 p).2 + (lagY y p.t).1 ≤ h)))) := fun _ => rfl
  have HBD : Hid (okY y = true → 0 ≤ (lagY y p.t).1 ∧ (lagY y p.t).1 ≤ 1048576) := fun e => lag_le19 (ok_iff18.1 e) _
  have HSB := Lib.hid (span_bounds19 p)
  have HWB := Lib.hid hwb; have HG := Lib.hid hg; have HK := Lib.hid hk
  generalize due19 p y h = z at *
  generalize right19 p = ra at *
  generalize okY y = rb at *
  generalize (span19 p).1 = s1 at *
  generalize (span19 p).2 = s2 at *
  generalize (lagY y p.t).1 = l1 at *
  generalize (lagY y p.t).2 = l2 at *
  clear hwb hg hk
  go_enter Try.func22, Try.ntmps22
  go_wp2_with fail
  rw [← HWB.out, ← HK.out, ← HG.out]
  refine HRT.out.mono ?_
  rintro e w1 ⟨rfl, t1⟩
  have HT1 := Lib.hid t1
  clear t1 z0 z1 HRT
  cases ra with
  | false =>
    have HE : Hid (True → z = false) := HX.out
    clear HX
    go_wp2
    go_ret
    exact ⟨by rw [HE.out trivial]; rfl, HT.out.trans HT1.out (fun _ _ f => f)⟩
  | true =>
    obtain ⟨y0, y1, y2, y3, y4, y5, y6, y7, y8⟩ := box_y18 (HB.out.turn HT1.out (fun f => f))
    go_wp2_with fail
    refine (HCK.out w1).mono ?_
    rintro e w2 ⟨rfl, t2⟩
    have HT2 := Lib.hid (HT1.out.trans t2 (fun _ _ f => f))
    clear t2 HCK y0 y1 y2 y3 y4 y5 y6 y7 y8
    cases rb with
    | false =>
      have HE : Hid (True → z = false) := HX.out
      clear HX
      rw [if_neg (by decide)]
      go_wp2
      go_ret
      exact ⟨by rw [HE.out trivial]; rfl, HT.out.trans HT2.out (fun _ _ f => f)⟩
    | true =>
      have HX2 : Hid (True → z = decide (s2 + l1 ≤ h)) := HX.out
      obtain ⟨b1, b2⟩ := HBD.out rfl
      obtain ⟨b3, b4, b5, b6⟩ := HSB.out
      have hw : IntKind.i64.wrap (s2 + l1) = s2 + l1 := IntWalk.i64_in _ (by omega)
      clear HX
      first | rw [if_pos trivial] | rw [if_pos rfl]
      obtain ⟨x0, x1⟩ := box_t19 (HA.out.turn HT2.out (fun f => f))
      go_wp2_with fail
      refine (HSP.out w2).mono ?_
      rintro e w3 ⟨rfl, t3⟩
      have HT3 := Lib.hid (HT2.out.trans t3 (fun _ _ f => f))
      clear t3 x0 x1 HSP
      obtain ⟨x0, x1⟩ := box_t19 (HA.out.turn HT3.out (fun f => f))
      obtain ⟨y0, y1, y2, y3, y4, y5, y6, y7, y8⟩ := box_y18 (HB.out.turn HT3.out (fun f => f))
      go_wp2_with fail
      refine (HLG.out w3).mono ?_
      rintro e w4 ⟨rfl, t4⟩
      have HT4 := Lib.hid (HT3.out.trans t4 (fun _ _ f => f))
      clear t4 HLG x0 x1 y0 y1 y2 y3 y4 y5 y6 y7 y8
      by_cases hh : s2 + l1 ≤ h
      · have HE : Hid (True → z = true) := fun _ => by rw [HX2.out trivial, decide_eq_true hh]
        go_wp2
        go_ret
        exact ⟨by rw [HE.out trivial]; first | rfl | exact ret_bool (decide_eq_true (by omega)), HT.out.trans HT4.out (fun _ _ f => f)⟩
      · have HE : Hid (True → z = false) := fun _ => by rw [HX2.out trivial, decide_eq_false hh]
        go_wp2
        go_ret
        exact ⟨by rw [HE.out trivial]; first | rfl | exact ret_bool (decide_eq_false (by omega)), HT.out.trans HT4.out (fun _ _ f => f)⟩

/-- An hour that is in no partition of one tier is in none of any. -/
theorem of_out19 {t f : Int} (ht : t = 1 ∨ t = 2 ∨ t = 3) (h : (of19 t f).2 = false) (u : Int) : (of19 u f).2 = false := by
  have hf : f < 0 ∨ 16777216 < f := by
    by_cases h1 : f < 0
    · exact .inl h1
    · by_cases h2 : 16777216 < f
      · exact .inr h2
      · exfalso
        obtain ⟨o1, -⟩ := of_some19 (t := t) h1 h2
        have e : (idx19 t f).2 = true := by
          rcases ht with rfl | rfl | rfl <;> rfl
        rw [o1 e] at h
        cases h
  rw [of_none19 hf]
theorem best_out19 {t f : Int} (ht : t = 1 ∨ t = 2 ∨ t = 3) (h : (of19 t f).2 = false) (y : Y18) (hr : Int) : ∀ k, best19 f y hr k = 0
  | 0 => rfl
  | k + 1 => by
    show (if (of19 ((k : Int) + 1) f).2 && due19 (of19 ((k : Int) + 1) f).1 y hr then (k : Int) + 1 else best19 f y hr k) = 0
    rw [of_out19 ht h, Bool.false_and, if_neg (by decide)]
    exact best_out19 ht h y hr k

set_option maxHeartbeats 8000000 in
theorem best_any19 (f : Int) (y : Y18) (h : Int) (w : World) : Calls Try.prog 24 #[.int .i64 f, yv18 y, .int .i64 h] w fun e w' => e = .returned (.int .i64 (best19 f y h 3)) ∧ Turn (fun _ => False) w w' := by
  obtain ⟨g, hg⟩ : ∃ g, g = w.heap.size := ⟨_, rfl⟩
  obtain ⟨wb, hwb⟩ : ∃ wb, wb = w.alloc (.cells (ycells18 y) 34) := ⟨_, rfl⟩
  have HT : Hid (Turn (fun _ => False) w wb) := by rw [hwb]; exact (Turn.refl _ w).alloc _
  have HB : Hid (Box wb g 34 (ycells18 y)) := by rw [hwb, hg]; exact Box.new w _ _
  have HOF : Hid (∀ (t : Int) W, Calls Try.prog 9 #[.int .i64 t, .int .i64 f] W fun e w' => OfP19 t f W e w') := fun t W => of_any19 t f W
  have HDU : Hid (∀ (p : T19) W, Calls Try.prog 22 #[tv19 p, yv18 y, .int .i64 h] W fun e w' => e = .returned (.bool (due19 p y h)) ∧ Turn (fun _ => False) W w') := fun p W => due_any19 p y h W
  have HWB := Lib.hid hwb; have HG := Lib.hid hg
  unfold OfP19 at HOF
  clear hwb hg
  go_enter Try.func24, Try.ntmps24
  go_wp2_with fail
  rw [← HWB.out, ← HG.out]
  go_wp2
  go_step3
  go_wp2
  go_step3
  go_wp2_with fail
  go_loopw [7, 8] (fun x7 x8 wr => ∃ k : Nat, x8 = .int .i64 (k : Int) ∧ k ≤ 3 ∧ x7 = .int .i64 0 ∧ best19 f y h 3 = best19 f y h k ∧ Turn (fun _ => False) wb wr) (fun _ x8 _ => (intOf x8).toNat)
  case atStart => exact ⟨3, rfl, Nat.le_refl _, rfl, rfl, Turn.refl _ _⟩
  case round =>
    obtain ⟨k, rfl, hk, rfl, hbest, ht⟩ := hrel
    have HTR := Lib.hid ht
    have HBE : Hid (True → best19 f y h 3 = best19 f y h k) := fun _ => hbest
    clear ht hbest
    by_cases hlt : 1 ≤ k
    · obtain ⟨k, rfl⟩ : ∃ n, k = n + 1 := ⟨k - 1, by omega⟩
      have HN : Hid (True → best19 f y h (k + 1) = if (of19 ((k : Int) + 1) f).2 && due19 (of19 ((k : Int) + 1) f).1 y h then (k : Int) + 1 else best19 f y h k) := fun _ => rfl
      have HZ : Hid ((of19 ((k : Int) + 1) f).2 = false → best19 f y h 3 = 0) := fun e => best_out19 (t := (k : Int) + 1) (by omega) e y h 3
      have HO1 := Lib.hid (HOF.out ((k : Int) + 1) wr)
      have hkl : (1 : Int) ≤ (k : Int) + 1 := by omega
      have hwk : IntKind.i64.wrap ((k : Int) + 1 - 1) = (k : Int) := (IntWalk.i64_in _ (by omega)).trans (by omega)
      rw [show (((k + 1 : Nat) : Nat) : Int) = (k : Int) + 1 by omega] at *
      generalize of19 ((k : Int) + 1) f = o at *
      obtain ⟨p, is⟩ := o
      dsimp only at HN HO1 HZ
      have HD1 := Lib.hid (HDU.out p)
      generalize due19 p y h = du at *
      generalize best19 f y h (k + 1) = bk1 at *
      generalize hbk : best19 f y h k = bk at *
      obtain ⟨z0, z1, z2, z3, z4, z5, z6, z7, z8⟩ := box_y18 (HB.out.turn HTR.out (fun f => f))
      go_wp2_with fail
      refine HO1.out.mono ?_
      rintro e w2 ⟨rfl, t2⟩
      have HT2 := Lib.hid ((HTR.out.trans t2 (fun _ _ f => f)).alloc (.cells (tcells19 p) 23))
      obtain ⟨q, hq⟩ : ∃ q, q = w2.heap.size := ⟨_, rfl⟩
      obtain ⟨w3, hw3⟩ : ∃ w3, w3 = w2.alloc (.cells (tcells19 p) 23) := ⟨_, rfl⟩
      rw [← hw3] at HT2
      have HQ3 : Hid (Box w3 q 23 (tcells19 p)) := by rw [hw3, hq]; exact Box.new w2 _ _
      obtain ⟨x0, x1⟩ := box_t19 HQ3.out
      obtain ⟨u0, u1, u2, u3, u4, u5, u6, u7, u8⟩ := box_y18 (HB.out.turn HT2.out (fun f => f))
      rw [hw3, hq] at x0 x1
      rw [hw3] at u0 u1 u2 u3 u4 u5 u6 u7 u8
      have HW3 := Lib.hid hw3; have HQ := Lib.hid hq
      clear t2 hw3 hq HO1 z0 z1 z2 z3 z4 z5 z6 z7 z8
      cases is with
      | false =>
        have HE : Hid (True → best19 f y h 3 = 0) := fun _ => HZ.out rfl
        clear HN HZ HBE
        go_wp2
        try rw [Exit.noGoto_ret]
        go_ret
        exact ⟨by rw [HE.out trivial]; rfl, by rw [← HW3.out]; exact HT.out.trans HT2.out (fun _ _ f => f)⟩
      | true =>
        go_wp2_with fail
        rw [← HW3.out, ← HQ.out]
        refine (HD1.out w3).mono ?_
        rintro e w4 ⟨rfl, t4⟩
        have HT4 := Lib.hid (HT2.out.trans t4 (fun _ _ f => f))
        clear t4 x0 x1 u0 u1 u2 u3 u4 u5 u6 u7 u8
        cases du with
        | false =>
          have HE : Hid (True → best19 f y h 3 = bk) := fun _ => (HBE.out trivial).trans (HN.out trivial)
          clear HN HZ HBE
          go_wp2_with fail
          go_roundw
          case rel => exact ⟨k, rfl, by omega, rfl, by rw [hbk]; exact HE.out trivial, HT4.out⟩
          case measure => simp [intOf]
        | true =>
          have HE : Hid (True → best19 f y h 3 = (k : Int) + 1) := fun _ => (HBE.out trivial).trans (HN.out trivial)
          clear HN HZ HBE
          go_wp2
          try rw [Exit.noGoto_ret]
          go_ret
          exact ⟨by rw [HE.out trivial]; rfl, HT.out.trans HT4.out (fun _ _ f => f)⟩
    · obtain rfl : k = 0 := by omega
      have HE : Hid (True → best19 f y h 3 = 0) := HBE.out
      clear HBE
      go_wp2
      try rw [Exit.noGoto_ret]
      go_ret
      exact ⟨by rw [HE.out trivial]; rfl, HT.out.trans HTR.out (fun _ _ f => f)⟩

end Go.Proofs.Ytmpgfipfijbbkaa

/-
  Stage 19: what is asked of the program's part; alive; PartSpans, PartPairs, PartDues over any program.
-/
namespace Go.Proofs.Ytmpgfipfijbbkaa
open Go.RowKit

set_option maxRecDepth 100000

/-- What is asked of the program. -/
structure Prog19 : Prop where
  right : ∀ (p : T19) (w : World), Calls Try.prog 11 #[tv19 p] w fun e w' => e = .returned (.bool (right19 p)) ∧ Turn (fun _ => False) w w'
  span : ∀ (p : T19) (w : World), Calls Try.prog 7 #[tv19 p] w fun e w' => e = .returned (.tuple #[.int .i64 (span19 p).1, .int .i64 (span19 p).2]) ∧ Turn (fun _ => False) w w'
  of : ∀ (t h : Int) (w : World), Calls Try.prog 9 #[.int .i64 t, .int .i64 h] w fun e w' => OfP19 t h w e w'
  has : ∀ (p : T19) (h : Int) (w : World), Calls Try.prog 13 #[tv19 p, .int .i64 h] w fun e w' => e = .returned (.bool (has19 p h)) ∧ Turn (fun _ => False) w w'
  within : ∀ (a b : T19) (w : World), Calls Try.prog 16 #[tv19 a, tv19 b] w fun e w' => e = .returned (.bool (within19 a b)) ∧ Turn (fun _ => False) w w'
  meets : ∀ (a b : T19) (w : World), Calls Try.prog 18 #[tv19 a, tv19 b] w fun e w' => e = .returned (.bool (meets19 a b)) ∧ Turn (fun _ => False) w w'
  less : ∀ (a b : T19) (w : World), Calls Try.prog 20 #[tv19 a, tv19 b] w fun e w' => e = .returned (.bool (less19 a b)) ∧ Turn (fun _ => False) w w'
  due : ∀ (p : T19) (y : Y18) (h : Int) (w : World), -4611686018427387904 ≤ h ∧ h ≤ 4611686018427387904 → Calls Try.prog 22 #[tv19 p, yv18 y, .int .i64 h] w fun e w' => e = .returned (.bool (due19 p y h)) ∧ Turn (fun _ => False) w w'
  best : ∀ (f : Int) (y : Y18) (h : Int) (w : World), -4611686018427387904 ≤ h ∧ h ≤ 4611686018427387904 → Calls Try.prog 24 #[.int .i64 f, yv18 y, .int .i64 h] w fun e w' => e = .returned (.int .i64 (best19 f y h 3)) ∧ Turn (fun _ => False) w w'

theorem alive_is19 : span19 ⟨2, 1⟩ = (24, 48) ∧ right19 ⟨3, 0⟩ = true := by decide
set_option maxHeartbeats 4000000 in
theorem alive_any19 (P : Prog19) (w : World) : Calls Try.prog 15 #[] w fun e w' => e = .returned (.bool true) ∧ Turn (fun _ => False) w w' := by
  have HSP := P.span ⟨2, 1⟩ w
  rw [alive_is19.1] at HSP
  have HSP := Lib.hid HSP
  have HRT : Hid (∀ W, Calls Try.prog 11 #[tv19 ⟨3, 0⟩] W fun e w' => e = .returned (.bool true) ∧ Turn (fun _ => False) W w') := fun W => by
    have h := P.right ⟨3, 0⟩ W
    rwa [alive_is19.2] at h
  go_enter Try.func15, Try.ntmps15
  go_wp2_with fail
  refine HSP.out.mono ?_
  rintro e w1 ⟨rfl, t1⟩
  have HT1 := Lib.hid t1
  clear t1 HSP
  go_wp2_with fail
  refine (HRT.out _).mono ?_
  rintro e w2 ⟨rfl, t2⟩
  have HT2 := Lib.hid (HT1.out.trans t2 (fun _ _ f => f))
  clear t2 HRT
  go_wp2
  go_ret
  exact ⟨rfl, HT2.out⟩

set_option maxHeartbeats 16000000 in
theorem spans_any19 (P : Prog19) (p : T19) (t h : Int) (w : World) : Calls Try.prog 3 #[tv19 p, .int .i64 t, .int .i64 h] w fun e w' => e = .returned (.bool true) ∧ Turn (fun _ => False) w w' := by
  obtain ⟨g, hg⟩ : ∃ g, g = w.heap.size := ⟨_, rfl⟩
  obtain ⟨wb, hwb⟩ : ∃ wb, wb = w.alloc (.cells (tcells19 p) 23) := ⟨_, rfl⟩
  have HT : Hid (Turn (fun _ => False) w wb) := by rw [hwb]; exact (Turn.refl _ w).alloc _
  have HA : Hid (Box wb g 23 (tcells19 p)) := by rw [hwb, hg]; exact Box.new w _ _
  obtain ⟨z0, z1⟩ := box_t19 (Box.new w 23 (tcells19 p))
  have HPS := Lib.hid (P.span p wb)
  have HRS : Hid (∀ W, Calls Try.prog 8 #[tv19 p] W fun e w' => e = .returned (.tuple #[.int .i64 (span19 p).1, .int .i64 (span19 p).2]) ∧ Turn (fun _ => False) W w') := fun W => ref_span19 p W
  have HPO : Hid (∀ W, Calls Try.prog 9 #[.int .i64 t, .int .i64 h] W fun e w' => OfP19 t h W e w') := fun W => P.of t h W
  have HRO : Hid (∀ W, Calls Try.prog 10 #[.int .i64 t, .int .i64 h] W fun e w' => OfP19 t h W e w') := fun W => ref_of19 t h W
  have HPR : Hid (∀ W, Calls Try.prog 11 #[tv19 p] W fun e w' => e = .returned (.bool (right19 p)) ∧ Turn (fun _ => False) W w') := fun W => P.right p W
  have HRR : Hid (∀ W, Calls Try.prog 12 #[tv19 p] W fun e w' => e = .returned (.bool (right19 p)) ∧ Turn (fun _ => False) W w') := fun W => ref_right19 p W
  have HPH : Hid (∀ W, Calls Try.prog 13 #[tv19 p, .int .i64 h] W fun e w' => e = .returned (.bool (has19 p h)) ∧ Turn (fun _ => False) W w') := fun W => P.has p h W
  have HRH : Hid (∀ W, Calls Try.prog 14 #[tv19 p, .int .i64 h] W fun e w' => e = .returned (.bool (has19 p h)) ∧ Turn (fun _ => False) W w') := fun W => ref_has19 p h W
  have HAL : Hid (∀ W, Calls Try.prog 15 #[] W fun e w' => e = .returned (.bool true) ∧ Turn (fun _ => False) W w') := fun W => alive_any19 P W
  have HWB := Lib.hid hwb; have HG := Lib.hid hg
  unfold OfP19 at HPO HRO
  generalize (span19 p).1 = s1 at *
  generalize (span19 p).2 = s2 at *
  generalize of19 t h = o at *
  obtain ⟨q, is⟩ := o
  dsimp only at HPO HRO
  generalize right19 p = rp at *
  generalize has19 p h = hp at *
  clear hwb hg
  go_enter Try.func3, Try.ntmps3
  go_wp2_with fail
  rw [← HWB.out, ← HG.out]
  refine HPS.out.mono ?_
  rintro e w1 ⟨rfl, t1⟩
  have HT1 := Lib.hid t1
  clear t1 HPS z0 z1
  obtain ⟨x0, x1⟩ := box_t19 (HA.out.turn HT1.out (fun f => f))
  go_wp2_with fail
  refine (HRS.out w1).mono ?_
  rintro e w2 ⟨rfl, t2⟩
  have HT2 := Lib.hid (HT1.out.trans t2 (fun _ _ f => f))
  clear t2 HRS x0 x1
  go_wp2_with fail
  refine (HPO.out w2).mono ?_
  rintro e w3 ⟨rfl, t3⟩
  obtain ⟨k, hk⟩ : ∃ k, k = w3.heap.size := ⟨_, rfl⟩
  obtain ⟨w4, hw4⟩ : ∃ w4, w4 = w3.alloc (.cells (tcells19 q) 23) := ⟨_, rfl⟩
  have HK4 : Hid (Box w4 k 23 (tcells19 q)) := by rw [hw4, hk]; exact Box.new w3 _ _
  have HT4 : Hid (Turn (fun _ => False) wb w4) := by rw [hw4]; exact (HT2.out.trans t3 (fun _ _ f => f)).alloc _
  have HW4 := Lib.hid hw4; have HK := Lib.hid hk
  clear t3 hw4 hk HPO
  go_wp2_with fail
  rw [← HW4.out, ← HK.out]
  refine (HRO.out w4).mono ?_
  rintro e w5 ⟨rfl, t5⟩
  obtain ⟨m, hm⟩ : ∃ m, m = w5.heap.size := ⟨_, rfl⟩
  obtain ⟨w6, hw6⟩ : ∃ w6, w6 = w5.alloc (.cells (tcells19 q) 23) := ⟨_, rfl⟩
  have ta : Turn (fun _ => False) w4 w6 := by rw [hw6]; exact t5.alloc _
  have HM6 : Hid (∀ W, Turn (fun _ => False) w6 W → Box W m 23 (tcells19 q)) := fun W hW => (show Box w6 m _ _ by rw [hw6, hm]; exact Box.new w5 _ _).turn hW (fun f => f)
  have HK6 : Hid (∀ W, Turn (fun _ => False) w6 W → Box W k 23 (tcells19 q)) := fun W hW => (HK4.out.turn ta (fun f => f)).turn hW (fun f => f)
  have HT6 := Lib.hid (HT4.out.trans ta (fun _ _ f => f))
  have HA6 : Hid (∀ W, Turn (fun _ => False) w6 W → Box W g 23 (tcells19 p)) := fun W hW => (HA.out.turn HT6.out (fun f => f)).turn hW (fun f => f)
  have HW6 := Lib.hid hw6; have HMM := Lib.hid hm
  clear t5 hw6 hm ta HRO HK4
  go_wp2_with fail
  rw [← HW6.out, ← HMM.out]
  refine drawn_region (fun W => Turn (fun _ => False) w6 W) [] (by kernel_rfl) ?_
  have hS0 : Turn (fun _ => False) w6 (World.drew w6) := (Turn.refl _ w6).drew
  generalize World.drew w6 = wd at *
  refine drawn_take 0 37 (.agg #[.int .i64 p.t, .int .i64 p.i]) rfl rfl (by kernel_rfl) (by kernel_rfl) (by kernel_rfl) (by kernel_rfl) (fun _ _ _ h => h) (by rfl) (by assumption) (by intro w hSw; obtain ⟨b0, b1⟩ := box_t19 (HA6.out _ hSw); clear hSw; go_simp) ?_
  try simp only [List.setIfInBounds_toArray, List.set_cons_zero, List.set_cons_succ]
  refine drawn_take 2 39 (.agg #[.int .i64 p.t, .int .i64 p.i]) rfl rfl (by kernel_rfl) (by kernel_rfl) (by kernel_rfl) (by kernel_rfl) (fun _ _ _ h => h) (by rfl) (by assumption) (by intro w hSw; obtain ⟨b0, b1⟩ := box_t19 (HA6.out _ hSw); clear hSw; go_simp) ?_
  try simp only [List.setIfInBounds_toArray, List.set_cons_zero, List.set_cons_succ]
  refine drawn_any [1] (by kernel_rfl) (by simp) ?_
  refine drawn_cons rfl (fun K1 hK => ?_) drawn_nil
  go_simp
  refine (HPR.out _).mono ?_
  rintro e wn ⟨rfl, tn⟩
  have hSn := hS0.trans tn (fun _ _ f => f)
  refine hK.out _ _ _ hSn ?_
  clear hK K1 tn hS0
  have hS0 := hSn
  clear hSn
  try simp only [List.setIfInBounds_toArray, List.set_cons_zero, List.set_cons_succ]
  refine drawn_any [3] (by kernel_rfl) (by simp) ?_
  refine drawn_cons rfl (fun K1 hK => ?_) drawn_nil
  go_simp
  refine (HRR.out _).mono ?_
  rintro e wn ⟨rfl, tn⟩
  have hSn := hS0.trans tn (fun _ _ f => f)
  refine hK.out _ _ _ hSn ?_
  clear hK K1 tn hS0
  have hS0 := hSn
  clear hSn
  try simp only [List.setIfInBounds_toArray, List.set_cons_zero, List.set_cons_succ]
  refine drawn_take 4 41 (.bool true) rfl rfl (by kernel_rfl) (by kernel_rfl) (by kernel_rfl) (by kernel_rfl) (fun _ _ _ h => h) (by rfl) (by assumption) (by intro w hSw; obtain hS1 := hSw; go_simp) ?_
  try simp only [List.setIfInBounds_toArray, List.set_cons_zero, List.set_cons_succ]
  refine drawn_take 5 42 (.bool true) rfl rfl (by kernel_rfl) (by kernel_rfl) (by kernel_rfl) (by kernel_rfl) (fun _ _ _ h => h) (by rfl) (by assumption) (by intro w hSw; obtain hS1 := hSw; go_simp) ?_
  try simp only [List.setIfInBounds_toArray, List.set_cons_zero, List.set_cons_succ]
  refine drawn_take 6 43 (.int .i64 s1) rfl rfl (by kernel_rfl) (by kernel_rfl) (by kernel_rfl) (by kernel_rfl) (fun _ _ _ h => h) (by rfl) (by assumption) (by intro w hSw; obtain hS1 := hSw; go_simp) ?_
  try simp only [List.setIfInBounds_toArray, List.set_cons_zero, List.set_cons_succ]
  refine drawn_take 7 44 (.int .i64 s1) rfl rfl (by kernel_rfl) (by kernel_rfl) (by kernel_rfl) (by kernel_rfl) (fun _ _ _ h => h) (by rfl) (by assumption) (by intro w hSw; obtain hS1 := hSw; go_simp) ?_
  try simp only [List.setIfInBounds_toArray, List.set_cons_zero, List.set_cons_succ]
  refine drawn_take 8 45 (.bool true) rfl rfl (by kernel_rfl) (by kernel_rfl) (by kernel_rfl) (by kernel_rfl) (fun _ _ _ h => h) (by rfl) (by assumption) (by intro w hSw; obtain hS1 := hSw; go_simp) ?_
  try simp only [List.setIfInBounds_toArray, List.set_cons_zero, List.set_cons_succ]
  refine drawn_take 9 46 (.bool true) rfl rfl (by kernel_rfl) (by kernel_rfl) (by kernel_rfl) (by kernel_rfl) (fun _ _ _ h => h) (by rfl) (by assumption) (by intro w hSw; obtain hS1 := hSw; go_simp) ?_
  try simp only [List.setIfInBounds_toArray, List.set_cons_zero, List.set_cons_succ]
  refine drawn_take 10 47 (.bool true) rfl rfl (by kernel_rfl) (by kernel_rfl) (by kernel_rfl) (by kernel_rfl) (fun _ _ _ h => h) (by rfl) (by assumption) (by intro w hSw; obtain hS1 := hSw; go_simp) ?_
  try simp only [List.setIfInBounds_toArray, List.set_cons_zero, List.set_cons_succ]
  refine drawn_take 11 48 (.int .i64 s2) rfl rfl (by kernel_rfl) (by kernel_rfl) (by kernel_rfl) (by kernel_rfl) (fun _ _ _ h => h) (by rfl) (by assumption) (by intro w hSw; obtain hS1 := hSw; go_simp) ?_
  try simp only [List.setIfInBounds_toArray, List.set_cons_zero, List.set_cons_succ]
  refine drawn_take 12 49 (.int .i64 s2) rfl rfl (by kernel_rfl) (by kernel_rfl) (by kernel_rfl) (by kernel_rfl) (fun _ _ _ h => h) (by rfl) (by assumption) (by intro w hSw; obtain hS1 := hSw; go_simp) ?_
  try simp only [List.setIfInBounds_toArray, List.set_cons_zero, List.set_cons_succ]
  refine drawn_take 13 50 (.bool true) rfl rfl (by kernel_rfl) (by kernel_rfl) (by kernel_rfl) (by kernel_rfl) (fun _ _ _ h => h) (by rfl) (by assumption) (by intro w hSw; obtain hS1 := hSw; go_simp) ?_
  try simp only [List.setIfInBounds_toArray, List.set_cons_zero, List.set_cons_succ]
  refine drawn_take 14 51 (.bool true) rfl rfl (by kernel_rfl) (by kernel_rfl) (by kernel_rfl) (by kernel_rfl) (fun _ _ _ h => h) (by rfl) (by assumption) (by intro w hSw; obtain hS1 := hSw; go_simp) ?_
  try simp only [List.setIfInBounds_toArray, List.set_cons_zero, List.set_cons_succ]
  refine drawn_take 15 52 (.bool true) rfl rfl (by kernel_rfl) (by kernel_rfl) (by kernel_rfl) (by kernel_rfl) (fun _ _ _ h => h) (by rfl) (by assumption) (by intro w hSw; obtain hS1 := hSw; go_simp) ?_
  try simp only [List.setIfInBounds_toArray, List.set_cons_zero, List.set_cons_succ]
  refine drawn_take 16 53 (.agg #[.int .i64 q.t, .int .i64 q.i]) rfl rfl (by kernel_rfl) (by kernel_rfl) (by kernel_rfl) (by kernel_rfl) (fun _ _ _ h => h) (by rfl) (by assumption) (by intro w hSw; obtain ⟨b0, b1⟩ := box_t19 (HK6.out _ hSw); clear hSw; go_simp) ?_
  try simp only [List.setIfInBounds_toArray, List.set_cons_zero, List.set_cons_succ]
  refine drawn_take 17 54 (.agg #[.int .i64 q.t, .int .i64 q.i]) rfl rfl (by kernel_rfl) (by kernel_rfl) (by kernel_rfl) (by kernel_rfl) (fun _ _ _ h => h) (by rfl) (by assumption) (by intro w hSw; obtain ⟨b0, b1⟩ := box_t19 (HM6.out _ hSw); clear hSw; go_simp) ?_
  try simp only [List.setIfInBounds_toArray, List.set_cons_zero, List.set_cons_succ]
  refine drawn_take 18 55 (.bool true) rfl rfl (by kernel_rfl) (by kernel_rfl) (by kernel_rfl) (by kernel_rfl) (fun _ _ _ h => h) (by rfl) (by assumption) (by intro w hSw; obtain hS1 := hSw; go_simp) ?_
  try simp only [List.setIfInBounds_toArray, List.set_cons_zero, List.set_cons_succ]
  refine drawn_take 19 56 (.bool true) rfl rfl (by kernel_rfl) (by kernel_rfl) (by kernel_rfl) (by kernel_rfl) (fun _ _ _ h => h) (by rfl) (by assumption) (by intro w hSw; obtain hS1 := hSw; go_simp) ?_
  try simp only [List.setIfInBounds_toArray, List.set_cons_zero, List.set_cons_succ]
  refine drawn_take 20 57 (.bool true) rfl rfl (by kernel_rfl) (by kernel_rfl) (by kernel_rfl) (by kernel_rfl) (fun _ _ _ h => h) (by rfl) (by assumption) (by intro w hSw; obtain hS1 := hSw; go_simp) ?_
  try simp only [List.setIfInBounds_toArray, List.set_cons_zero, List.set_cons_succ]
  refine drawn_take 21 58 (.bool is) rfl rfl (by kernel_rfl) (by kernel_rfl) (by kernel_rfl) (by kernel_rfl) (fun _ _ _ h => h) (by rfl) (by assumption) (by intro w hSw; obtain hS1 := hSw; go_simp) ?_
  try simp only [List.setIfInBounds_toArray, List.set_cons_zero, List.set_cons_succ]
  refine drawn_take 22 59 (.bool is) rfl rfl (by kernel_rfl) (by kernel_rfl) (by kernel_rfl) (by kernel_rfl) (fun _ _ _ h => h) (by rfl) (by assumption) (by intro w hSw; obtain hS1 := hSw; go_simp) ?_
  try simp only [List.setIfInBounds_toArray, List.set_cons_zero, List.set_cons_succ]
  refine drawn_take 23 60 (.bool true) rfl rfl (by kernel_rfl) (by kernel_rfl) (by kernel_rfl) (by kernel_rfl) (fun _ _ _ h => h) (by rfl) (by assumption) (by intro w hSw; obtain hS1 := hSw; go_simp) ?_
  try simp only [List.setIfInBounds_toArray, List.set_cons_zero, List.set_cons_succ]
  refine drawn_take 24 61 (.bool true) rfl rfl (by kernel_rfl) (by kernel_rfl) (by kernel_rfl) (by kernel_rfl) (fun _ _ _ h => h) (by rfl) (by assumption) (by intro w hSw; obtain hS1 := hSw; go_simp) ?_
  try simp only [List.setIfInBounds_toArray, List.set_cons_zero, List.set_cons_succ]
  refine drawn_take 25 62 (.bool true) rfl rfl (by kernel_rfl) (by kernel_rfl) (by kernel_rfl) (by kernel_rfl) (fun _ _ _ h => h) (by rfl) (by assumption) (by intro w hSw; obtain hS1 := hSw; go_simp) ?_
  try simp only [List.setIfInBounds_toArray, List.set_cons_zero, List.set_cons_succ]
  refine drawn_take 26 63 (.agg #[.int .i64 p.t, .int .i64 p.i]) rfl rfl (by kernel_rfl) (by kernel_rfl) (by kernel_rfl) (by kernel_rfl) (fun _ _ _ h => h) (by rfl) (by assumption) (by intro w hSw; obtain ⟨b0, b1⟩ := box_t19 (HA6.out _ hSw); clear hSw; go_simp) ?_
  try simp only [List.setIfInBounds_toArray, List.set_cons_zero, List.set_cons_succ]
  refine drawn_take 27 64 (.int .i64 h) rfl rfl (by kernel_rfl) (by kernel_rfl) (by kernel_rfl) (by kernel_rfl) (fun _ _ _ h => h) (by rfl) (by assumption) (by intro w hSw; obtain hS1 := hSw; go_simp) ?_
  try simp only [List.setIfInBounds_toArray, List.set_cons_zero, List.set_cons_succ]
  refine drawn_take 29 66 (.agg #[.int .i64 p.t, .int .i64 p.i]) rfl rfl (by kernel_rfl) (by kernel_rfl) (by kernel_rfl) (by kernel_rfl) (fun _ _ _ h => h) (by rfl) (by assumption) (by intro w hSw; obtain ⟨b0, b1⟩ := box_t19 (HA6.out _ hSw); clear hSw; go_simp) ?_
  try simp only [List.setIfInBounds_toArray, List.set_cons_zero, List.set_cons_succ]
  refine drawn_take 30 67 (.int .i64 h) rfl rfl (by kernel_rfl) (by kernel_rfl) (by kernel_rfl) (by kernel_rfl) (fun _ _ _ h => h) (by rfl) (by assumption) (by intro w hSw; obtain hS1 := hSw; go_simp) ?_
  try simp only [List.setIfInBounds_toArray, List.set_cons_zero, List.set_cons_succ]
  refine drawn_any [28] (by kernel_rfl) (by simp) ?_
  refine drawn_cons rfl (fun K1 hK => ?_) drawn_nil
  go_simp
  refine (HPH.out _).mono ?_
  rintro e wn ⟨rfl, tn⟩
  have hSn := hS0.trans tn (fun _ _ f => f)
  refine hK.out _ _ _ hSn ?_
  clear hK K1 tn hS0
  have hS0 := hSn
  clear hSn
  try simp only [List.setIfInBounds_toArray, List.set_cons_zero, List.set_cons_succ]
  refine drawn_any [31] (by kernel_rfl) (by simp) ?_
  refine drawn_cons rfl (fun K1 hK => ?_) drawn_nil
  go_simp
  refine (HRH.out _).mono ?_
  rintro e wn ⟨rfl, tn⟩
  have hSn := hS0.trans tn (fun _ _ f => f)
  refine hK.out _ _ _ hSn ?_
  clear hK K1 tn hS0
  have hS0 := hSn
  clear hSn
  try simp only [List.setIfInBounds_toArray, List.set_cons_zero, List.set_cons_succ]
  refine drawn_take 32 69 (.bool true) rfl rfl (by kernel_rfl) (by kernel_rfl) (by kernel_rfl) (by kernel_rfl) (fun _ _ _ h => h) (by rfl) (by assumption) (by intro w hSw; obtain hS1 := hSw; go_simp) ?_
  try simp only [List.setIfInBounds_toArray, List.set_cons_zero, List.set_cons_succ]
  refine drawn_take 33 70 (.bool true) rfl rfl (by kernel_rfl) (by kernel_rfl) (by kernel_rfl) (by kernel_rfl) (fun _ _ _ h => h) (by rfl) (by assumption) (by intro w hSw; obtain hS1 := hSw; go_simp) ?_
  try simp only [List.setIfInBounds_toArray, List.set_cons_zero, List.set_cons_succ]
  refine drawn_take 34 71 (.bool true) rfl rfl (by kernel_rfl) (by kernel_rfl) (by kernel_rfl) (by kernel_rfl) (fun _ _ _ h => h) (by rfl) (by assumption) (by intro w hSw; obtain hS1 := hSw; go_simp) ?_
  try simp only [List.setIfInBounds_toArray, List.set_cons_zero, List.set_cons_succ]
  refine drawn_any [35] (by kernel_rfl) (by simp) ?_
  refine drawn_cons rfl (fun K1 hK => ?_) drawn_nil
  go_simp
  refine (HAL.out _).mono ?_
  rintro e wn ⟨rfl, tn⟩
  have hSn := hS0.trans tn (fun _ _ f => f)
  refine hK.out _ _ _ hSn ?_
  clear hK K1 tn hS0
  have hS0 := hSn
  clear hSn
  try simp only [List.setIfInBounds_toArray, List.set_cons_zero, List.set_cons_succ]
  refine drawn_take 36 73 (.bool true) rfl rfl (by kernel_rfl) (by kernel_rfl) (by kernel_rfl) (by kernel_rfl) (fun _ _ _ h => h) (by rfl) (by assumption) (by intro w hSw; obtain hS1 := hSw; go_simp) ?_
  try simp only [List.setIfInBounds_toArray, List.set_cons_zero, List.set_cons_succ]
  refine drawn_last1 37 6 (.bool true) rfl rfl (by kernel_rfl) (by kernel_rfl) (by rfl) (by intro w; go_simp) hS0 ?_
  try simp only [List.setIfInBounds_toArray, List.set_cons_zero, List.set_cons_succ]
  have HTE := Lib.hid hS0
  clear hS0
  go_wp2
  go_ret
  exact ⟨rfl, (HT.out.trans HT6.out (fun _ _ f => f)).trans HTE.out (fun _ _ f => f)⟩

end Go.Proofs.Ytmpgfipfijbbkaa

/-
  Stage 19: PartPairs, PartDues over any program that answers as is asked.
-/
namespace Go.Proofs.Ytmpgfipfijbbkaa
open Go.RowKit

set_option maxRecDepth 100000

set_option maxHeartbeats 16000000 in
theorem pairs_any19 (P : Prog19) (a b : T19) (w : World) : Calls Try.prog 4 #[tv19 a, tv19 b] w fun e w' => e = .returned (.bool true) ∧ Turn (fun _ => False) w w' := by
  obtain ⟨g, hg⟩ : ∃ g, g = w.heap.size := ⟨_, rfl⟩
  obtain ⟨k, hk⟩ : ∃ k, k = w.heap.size + 1 := ⟨_, rfl⟩
  obtain ⟨wb, hwb⟩ : ∃ wb, wb = (w.alloc (.cells (tcells19 a) 23)).alloc (.cells (tcells19 b) 23) := ⟨_, rfl⟩
  have HT : Hid (Turn (fun _ => False) w wb) := by rw [hwb]; exact ((Turn.refl _ w).alloc _).alloc _
  have HA : Hid (∀ W, Turn (fun _ => False) wb W → Box W g 23 (tcells19 a)) := fun W hW => (show Box wb g _ _ by rw [hwb, hg]; exact (Box.new w _ _).alloc _).turn hW (fun f => f)
  have HB : Hid (∀ W, Turn (fun _ => False) wb W → Box W k 23 (tcells19 b)) := fun W hW => (show Box wb k 23 (tcells19 b) by
    have h := Box.new (w.alloc (.cells (tcells19 a) 23)) 23 (tcells19 b)
    rw [World.size_alloc] at h
    rw [hwb, hk]
    exact h).turn hW (fun f => f)
  have HPW : Hid (∀ W, Calls Try.prog 16 #[tv19 a, tv19 b] W fun e w' => e = .returned (.bool (within19 a b)) ∧ Turn (fun _ => False) W w') := fun W => P.within a b W
  have HRW : Hid (∀ W, Calls Try.prog 17 #[tv19 a, tv19 b] W fun e w' => e = .returned (.bool (within19 a b)) ∧ Turn (fun _ => False) W w') := fun W => ref_within19 a b W
  have HPM : Hid (∀ W, Calls Try.prog 18 #[tv19 a, tv19 b] W fun e w' => e = .returned (.bool (meets19 a b)) ∧ Turn (fun _ => False) W w') := fun W => P.meets a b W
  have HRM : Hid (∀ W, Calls Try.prog 19 #[tv19 a, tv19 b] W fun e w' => e = .returned (.bool (meets19 a b)) ∧ Turn (fun _ => False) W w') := fun W => ref_meets19 a b W
  have HPL : Hid (∀ W, Calls Try.prog 20 #[tv19 a, tv19 b] W fun e w' => e = .returned (.bool (less19 a b)) ∧ Turn (fun _ => False) W w') := fun W => P.less a b W
  have HRL : Hid (∀ W, Calls Try.prog 21 #[tv19 a, tv19 b] W fun e w' => e = .returned (.bool (less19 a b)) ∧ Turn (fun _ => False) W w') := fun W => ref_less19 a b W
  have HAL : Hid (∀ W, Calls Try.prog 15 #[] W fun e w' => e = .returned (.bool true) ∧ Turn (fun _ => False) W w') := fun W => alive_any19 P W
  have HWB := Lib.hid hwb; have HG := Lib.hid hg; have HK := Lib.hid hk
  generalize within19 a b = rw1 at *
  generalize meets19 a b = rm1 at *
  generalize less19 a b = rl1 at *
  clear hwb hg hk
  go_enter Try.func4, Try.ntmps4
  go_wp2_with fail
  rw [← HWB.out, ← HK.out, ← HG.out]
  refine drawn_region (fun W => Turn (fun _ => False) wb W) [] (by kernel_rfl) ?_
  have hS0 : Turn (fun _ => False) wb (World.drew wb) := (Turn.refl _ wb).drew
  generalize World.drew wb = wd at *
  refine drawn_take 0 5 (.agg #[.int .i64 a.t, .int .i64 a.i]) rfl rfl (by kernel_rfl) (by kernel_rfl) (by kernel_rfl) (by kernel_rfl) (fun _ _ _ h => h) (by rfl) (by assumption) (by intro w hSw; obtain ⟨b0, b1⟩ := box_t19 (HA.out _ hSw); clear hSw; go_simp) ?_
  try simp only [List.setIfInBounds_toArray, List.set_cons_zero, List.set_cons_succ]
  refine drawn_take 1 6 (.agg #[.int .i64 b.t, .int .i64 b.i]) rfl rfl (by kernel_rfl) (by kernel_rfl) (by kernel_rfl) (by kernel_rfl) (fun _ _ _ h => h) (by rfl) (by assumption) (by intro w hSw; obtain ⟨b0, b1⟩ := box_t19 (HB.out _ hSw); clear hSw; go_simp) ?_
  try simp only [List.setIfInBounds_toArray, List.set_cons_zero, List.set_cons_succ]
  refine drawn_take 3 8 (.agg #[.int .i64 a.t, .int .i64 a.i]) rfl rfl (by kernel_rfl) (by kernel_rfl) (by kernel_rfl) (by kernel_rfl) (fun _ _ _ h => h) (by rfl) (by assumption) (by intro w hSw; obtain ⟨b0, b1⟩ := box_t19 (HA.out _ hSw); clear hSw; go_simp) ?_
  try simp only [List.setIfInBounds_toArray, List.set_cons_zero, List.set_cons_succ]
  refine drawn_take 4 9 (.agg #[.int .i64 b.t, .int .i64 b.i]) rfl rfl (by kernel_rfl) (by kernel_rfl) (by kernel_rfl) (by kernel_rfl) (fun _ _ _ h => h) (by rfl) (by assumption) (by intro w hSw; obtain ⟨b0, b1⟩ := box_t19 (HB.out _ hSw); clear hSw; go_simp) ?_
  try simp only [List.setIfInBounds_toArray, List.set_cons_zero, List.set_cons_succ]
  refine drawn_any [2] (by kernel_rfl) (by simp) ?_
  refine drawn_cons rfl (fun K1 hK => ?_) drawn_nil
  go_simp
  refine (HPW.out _).mono ?_
  rintro e wn ⟨rfl, tn⟩
  have hSn := hS0.trans tn (fun _ _ f => f)
  refine hK.out _ _ _ hSn ?_
  clear hK K1 tn hS0
  have hS0 := hSn
  clear hSn
  try simp only [List.setIfInBounds_toArray, List.set_cons_zero, List.set_cons_succ]
  refine drawn_any [5] (by kernel_rfl) (by simp) ?_
  refine drawn_cons rfl (fun K1 hK => ?_) drawn_nil
  go_simp
  refine (HRW.out _).mono ?_
  rintro e wn ⟨rfl, tn⟩
  have hSn := hS0.trans tn (fun _ _ f => f)
  refine hK.out _ _ _ hSn ?_
  clear hK K1 tn hS0
  have hS0 := hSn
  clear hSn
  try simp only [List.setIfInBounds_toArray, List.set_cons_zero, List.set_cons_succ]
  refine drawn_take 6 11 (.bool true) rfl rfl (by kernel_rfl) (by kernel_rfl) (by kernel_rfl) (by kernel_rfl) (fun _ _ _ h => h) (by rfl) (by assumption) (by intro w hSw; obtain hS1 := hSw; go_simp) ?_
  try simp only [List.setIfInBounds_toArray, List.set_cons_zero, List.set_cons_succ]
  refine drawn_take 7 12 (.bool true) rfl rfl (by kernel_rfl) (by kernel_rfl) (by kernel_rfl) (by kernel_rfl) (fun _ _ _ h => h) (by rfl) (by assumption) (by intro w hSw; obtain hS1 := hSw; go_simp) ?_
  try simp only [List.setIfInBounds_toArray, List.set_cons_zero, List.set_cons_succ]
  refine drawn_take 8 13 (.agg #[.int .i64 a.t, .int .i64 a.i]) rfl rfl (by kernel_rfl) (by kernel_rfl) (by kernel_rfl) (by kernel_rfl) (fun _ _ _ h => h) (by rfl) (by assumption) (by intro w hSw; obtain ⟨b0, b1⟩ := box_t19 (HA.out _ hSw); clear hSw; go_simp) ?_
  try simp only [List.setIfInBounds_toArray, List.set_cons_zero, List.set_cons_succ]
  refine drawn_take 9 14 (.agg #[.int .i64 b.t, .int .i64 b.i]) rfl rfl (by kernel_rfl) (by kernel_rfl) (by kernel_rfl) (by kernel_rfl) (fun _ _ _ h => h) (by rfl) (by assumption) (by intro w hSw; obtain ⟨b0, b1⟩ := box_t19 (HB.out _ hSw); clear hSw; go_simp) ?_
  try simp only [List.setIfInBounds_toArray, List.set_cons_zero, List.set_cons_succ]
  refine drawn_take 11 16 (.agg #[.int .i64 a.t, .int .i64 a.i]) rfl rfl (by kernel_rfl) (by kernel_rfl) (by kernel_rfl) (by kernel_rfl) (fun _ _ _ h => h) (by rfl) (by assumption) (by intro w hSw; obtain ⟨b0, b1⟩ := box_t19 (HA.out _ hSw); clear hSw; go_simp) ?_
  try simp only [List.setIfInBounds_toArray, List.set_cons_zero, List.set_cons_succ]
  refine drawn_take 12 17 (.agg #[.int .i64 b.t, .int .i64 b.i]) rfl rfl (by kernel_rfl) (by kernel_rfl) (by kernel_rfl) (by kernel_rfl) (fun _ _ _ h => h) (by rfl) (by assumption) (by intro w hSw; obtain ⟨b0, b1⟩ := box_t19 (HB.out _ hSw); clear hSw; go_simp) ?_
  try simp only [List.setIfInBounds_toArray, List.set_cons_zero, List.set_cons_succ]
  refine drawn_any [10] (by kernel_rfl) (by simp) ?_
  refine drawn_cons rfl (fun K1 hK => ?_) drawn_nil
  go_simp
  refine (HPM.out _).mono ?_
  rintro e wn ⟨rfl, tn⟩
  have hSn := hS0.trans tn (fun _ _ f => f)
  refine hK.out _ _ _ hSn ?_
  clear hK K1 tn hS0
  have hS0 := hSn
  clear hSn
  try simp only [List.setIfInBounds_toArray, List.set_cons_zero, List.set_cons_succ]
  refine drawn_any [13] (by kernel_rfl) (by simp) ?_
  refine drawn_cons rfl (fun K1 hK => ?_) drawn_nil
  go_simp
  refine (HRM.out _).mono ?_
  rintro e wn ⟨rfl, tn⟩
  have hSn := hS0.trans tn (fun _ _ f => f)
  refine hK.out _ _ _ hSn ?_
  clear hK K1 tn hS0
  have hS0 := hSn
  clear hSn
  try simp only [List.setIfInBounds_toArray, List.set_cons_zero, List.set_cons_succ]
  refine drawn_take 14 19 (.bool true) rfl rfl (by kernel_rfl) (by kernel_rfl) (by kernel_rfl) (by kernel_rfl) (fun _ _ _ h => h) (by rfl) (by assumption) (by intro w hSw; obtain hS1 := hSw; go_simp) ?_
  try simp only [List.setIfInBounds_toArray, List.set_cons_zero, List.set_cons_succ]
  refine drawn_take 15 20 (.bool true) rfl rfl (by kernel_rfl) (by kernel_rfl) (by kernel_rfl) (by kernel_rfl) (fun _ _ _ h => h) (by rfl) (by assumption) (by intro w hSw; obtain hS1 := hSw; go_simp) ?_
  try simp only [List.setIfInBounds_toArray, List.set_cons_zero, List.set_cons_succ]
  refine drawn_take 16 21 (.bool true) rfl rfl (by kernel_rfl) (by kernel_rfl) (by kernel_rfl) (by kernel_rfl) (fun _ _ _ h => h) (by rfl) (by assumption) (by intro w hSw; obtain hS1 := hSw; go_simp) ?_
  try simp only [List.setIfInBounds_toArray, List.set_cons_zero, List.set_cons_succ]
  refine drawn_take 17 22 (.agg #[.int .i64 a.t, .int .i64 a.i]) rfl rfl (by kernel_rfl) (by kernel_rfl) (by kernel_rfl) (by kernel_rfl) (fun _ _ _ h => h) (by rfl) (by assumption) (by intro w hSw; obtain ⟨b0, b1⟩ := box_t19 (HA.out _ hSw); clear hSw; go_simp) ?_
  try simp only [List.setIfInBounds_toArray, List.set_cons_zero, List.set_cons_succ]
  refine drawn_take 18 23 (.agg #[.int .i64 b.t, .int .i64 b.i]) rfl rfl (by kernel_rfl) (by kernel_rfl) (by kernel_rfl) (by kernel_rfl) (fun _ _ _ h => h) (by rfl) (by assumption) (by intro w hSw; obtain ⟨b0, b1⟩ := box_t19 (HB.out _ hSw); clear hSw; go_simp) ?_
  try simp only [List.setIfInBounds_toArray, List.set_cons_zero, List.set_cons_succ]
  refine drawn_take 20 25 (.agg #[.int .i64 a.t, .int .i64 a.i]) rfl rfl (by kernel_rfl) (by kernel_rfl) (by kernel_rfl) (by kernel_rfl) (fun _ _ _ h => h) (by rfl) (by assumption) (by intro w hSw; obtain ⟨b0, b1⟩ := box_t19 (HA.out _ hSw); clear hSw; go_simp) ?_
  try simp only [List.setIfInBounds_toArray, List.set_cons_zero, List.set_cons_succ]
  refine drawn_take 21 26 (.agg #[.int .i64 b.t, .int .i64 b.i]) rfl rfl (by kernel_rfl) (by kernel_rfl) (by kernel_rfl) (by kernel_rfl) (fun _ _ _ h => h) (by rfl) (by assumption) (by intro w hSw; obtain ⟨b0, b1⟩ := box_t19 (HB.out _ hSw); clear hSw; go_simp) ?_
  try simp only [List.setIfInBounds_toArray, List.set_cons_zero, List.set_cons_succ]
  refine drawn_any [19] (by kernel_rfl) (by simp) ?_
  refine drawn_cons rfl (fun K1 hK => ?_) drawn_nil
  go_simp
  refine (HPL.out _).mono ?_
  rintro e wn ⟨rfl, tn⟩
  have hSn := hS0.trans tn (fun _ _ f => f)
  refine hK.out _ _ _ hSn ?_
  clear hK K1 tn hS0
  have hS0 := hSn
  clear hSn
  try simp only [List.setIfInBounds_toArray, List.set_cons_zero, List.set_cons_succ]
  refine drawn_any [22] (by kernel_rfl) (by simp) ?_
  refine drawn_cons rfl (fun K1 hK => ?_) drawn_nil
  go_simp
  refine (HRL.out _).mono ?_
  rintro e wn ⟨rfl, tn⟩
  have hSn := hS0.trans tn (fun _ _ f => f)
  refine hK.out _ _ _ hSn ?_
  clear hK K1 tn hS0
  have hS0 := hSn
  clear hSn
  try simp only [List.setIfInBounds_toArray, List.set_cons_zero, List.set_cons_succ]
  refine drawn_take 23 28 (.bool true) rfl rfl (by kernel_rfl) (by kernel_rfl) (by kernel_rfl) (by kernel_rfl) (fun _ _ _ h => h) (by rfl) (by assumption) (by intro w hSw; obtain hS1 := hSw; go_simp) ?_
  try simp only [List.setIfInBounds_toArray, List.set_cons_zero, List.set_cons_succ]
  refine drawn_take 24 29 (.bool true) rfl rfl (by kernel_rfl) (by kernel_rfl) (by kernel_rfl) (by kernel_rfl) (fun _ _ _ h => h) (by rfl) (by assumption) (by intro w hSw; obtain hS1 := hSw; go_simp) ?_
  try simp only [List.setIfInBounds_toArray, List.set_cons_zero, List.set_cons_succ]
  refine drawn_take 25 30 (.bool true) rfl rfl (by kernel_rfl) (by kernel_rfl) (by kernel_rfl) (by kernel_rfl) (fun _ _ _ h => h) (by rfl) (by assumption) (by intro w hSw; obtain hS1 := hSw; go_simp) ?_
  try simp only [List.setIfInBounds_toArray, List.set_cons_zero, List.set_cons_succ]
  refine drawn_any [26] (by kernel_rfl) (by simp) ?_
  refine drawn_cons rfl (fun K1 hK => ?_) drawn_nil
  go_simp
  refine (HAL.out _).mono ?_
  rintro e wn ⟨rfl, tn⟩
  have hSn := hS0.trans tn (fun _ _ f => f)
  refine hK.out _ _ _ hSn ?_
  clear hK K1 tn hS0
  have hS0 := hSn
  clear hSn
  try simp only [List.setIfInBounds_toArray, List.set_cons_zero, List.set_cons_succ]
  refine drawn_take 27 32 (.bool true) rfl rfl (by kernel_rfl) (by kernel_rfl) (by kernel_rfl) (by kernel_rfl) (fun _ _ _ h => h) (by rfl) (by assumption) (by intro w hSw; obtain hS1 := hSw; go_simp) ?_
  try simp only [List.setIfInBounds_toArray, List.set_cons_zero, List.set_cons_succ]
  refine drawn_last1 28 4 (.bool true) rfl rfl (by kernel_rfl) (by kernel_rfl) (by rfl) (by intro w; go_simp) hS0 ?_
  try simp only [List.setIfInBounds_toArray, List.set_cons_zero, List.set_cons_succ]
  have HTE := Lib.hid hS0
  clear hS0
  go_wp2
  go_ret
  exact ⟨rfl, HT.out.trans HTE.out (fun _ _ f => f)⟩

set_option maxHeartbeats 16000000 in
theorem dues_any19 (P : Prog19) (p : T19) (f : Int) (y : Y18) (h : Int) (w : World) : Calls Try.prog 5 #[tv19 p, .int .i64 f, yv18 y, .int .i64 h] w fun e w' => e = .returned (.bool true) ∧ Turn (fun _ => False) w w' := by
  obtain ⟨g, hg⟩ : ∃ g, g = w.heap.size := ⟨_, rfl⟩
  obtain ⟨k, hk⟩ : ∃ k, k = w.heap.size + 1 := ⟨_, rfl⟩
  obtain ⟨wb, hwb⟩ : ∃ wb, wb = (w.alloc (.cells (tcells19 p) 23)).alloc (.cells (ycells18 y) 34) := ⟨_, rfl⟩
  have HT : Hid (Turn (fun _ => False) w wb) := by rw [hwb]; exact ((Turn.refl _ w).alloc _).alloc _
  have HA : Hid (∀ W, Turn (fun _ => False) wb W → Box W g 23 (tcells19 p)) := fun W hW => (show Box wb g _ _ by rw [hwb, hg]; exact (Box.new w _ _).alloc _).turn hW (fun f => f)
  have HB : Hid (∀ W, Turn (fun _ => False) wb W → Box W k 34 (ycells18 y)) := fun W hW => (show Box wb k 34 (ycells18 y) by
    have h := Box.new (w.alloc (.cells (tcells19 p) 23)) 34 (ycells18 y)
    rw [World.size_alloc] at h
    rw [hwb, hk]
    exact h).turn hW (fun f => f)
  have HAL : Hid (∀ W, Calls Try.prog 15 #[] W fun e w' => e = .returned (.bool true) ∧ Turn (fun _ => False) W w') := fun W => alive_any19 P W
  have HWB := Lib.hid hwb; have HG := Lib.hid hg; have HK := Lib.hid hk
  clear hwb hg hk
  by_cases h0 : h < -4611686018427387904
  · have HDUM : Hid True := trivial
    go_enter Try.func5, Try.ntmps5
    go_wp2_with fail
    rw [← HWB.out]
    refine (HAL.out _).mono ?_
    rintro e w9 ⟨rfl, t9⟩
    have HT9 := Lib.hid (HT.out.trans t9 (fun _ _ f => f))
    clear t9
    go_wp2
    go_ret
    exact ⟨rfl, HT9.out⟩
  · by_cases h1 : 4611686018427387904 < h
    · have HDUM : Hid True := trivial
      go_enter Try.func5, Try.ntmps5
      go_wp2_with fail
      rw [← HWB.out]
      refine (HAL.out _).mono ?_
      rintro e w9 ⟨rfl, t9⟩
      have HT9 := Lib.hid (HT.out.trans t9 (fun _ _ f => f))
      clear t9
      go_wp2
      go_ret
      exact ⟨rfl, HT9.out⟩
    · have hh : -4611686018427387904 ≤ h ∧ h ≤ 4611686018427387904 := ⟨by omega, by omega⟩
      have HPD : Hid (∀ W, Calls Try.prog 22 #[tv19 p, yv18 y, .int .i64 h] W fun e w' => e = .returned (.bool (due19 p y h)) ∧ Turn (fun _ => False) W w') := fun W => P.due p y h W hh
      have HRD : Hid (∀ W, Calls Try.prog 23 #[tv19 p, yv18 y, .int .i64 h] W fun e w' => e = .returned (.bool (due19 p y h)) ∧ Turn (fun _ => False) W w') := fun W => ref_due19 p y h W
      have HPB : Hid (∀ W, Calls Try.prog 24 #[.int .i64 f, yv18 y, .int .i64 h] W fun e w' => e = .returned (.int .i64 (best19 f y h 3)) ∧ Turn (fun _ => False) W w') := fun W => P.best f y h W hh
      have HRB : Hid (∀ W, Calls Try.prog 25 #[.int .i64 f, yv18 y, .int .i64 h] W fun e w' => e = .returned (.int .i64 (best19 f y h 3)) ∧ Turn (fun _ => False) W w') := fun W => ref_best19 f y h W
      generalize due19 p y h = du at *
      generalize best19 f y h 3 = bs at *
      clear hh
      go_enter Try.func5, Try.ntmps5
      go_wp2_with fail
      rw [← HWB.out, ← HK.out, ← HG.out]
      refine drawn_region (fun W => Turn (fun _ => False) wb W) [] (by kernel_rfl) ?_
      have hS0 : Turn (fun _ => False) wb (World.drew wb) := (Turn.refl _ wb).drew
      generalize World.drew wb = wd at *
      refine drawn_take 0 16 (.agg #[.int .i64 p.t, .int .i64 p.i]) rfl rfl (by kernel_rfl) (by kernel_rfl) (by kernel_rfl) (by kernel_rfl) (fun _ _ _ h => h) (by rfl) (by assumption) (by intro w hSw; obtain ⟨b0, b1⟩ := box_t19 (HA.out _ hSw); clear hSw; go_simp) ?_
      try simp only [List.setIfInBounds_toArray, List.set_cons_zero, List.set_cons_succ]
      refine drawn_take 1 17 (.agg #[.int .i64 y.rt, .int .i64 y.sl, .int .i64 y.dl, .int .i64 y.ml, .int .i64 y.cl, .int .i64 y.ba, .int .i64 y.ca, .int .i64 y.qu, .int .i64 y.wa]) rfl rfl (by kernel_rfl) (by kernel_rfl) (by kernel_rfl) (by kernel_rfl) (fun _ _ _ h => h) (by rfl) (by assumption) (by intro w hSw; obtain ⟨b0, b1, b2, b3, b4, b5, b6, b7, b8⟩ := box_y18 (HB.out _ hSw); clear hSw; go_simp) ?_
      try simp only [List.setIfInBounds_toArray, List.set_cons_zero, List.set_cons_succ]
      refine drawn_take 2 18 (.int .i64 h) rfl rfl (by kernel_rfl) (by kernel_rfl) (by kernel_rfl) (by kernel_rfl) (fun _ _ _ h => h) (by rfl) (by assumption) (by intro w hSw; obtain hS1 := hSw; go_simp) ?_
      try simp only [List.setIfInBounds_toArray, List.set_cons_zero, List.set_cons_succ]
      refine drawn_take 4 20 (.agg #[.int .i64 p.t, .int .i64 p.i]) rfl rfl (by kernel_rfl) (by kernel_rfl) (by kernel_rfl) (by kernel_rfl) (fun _ _ _ h => h) (by rfl) (by assumption) (by intro w hSw; obtain ⟨b0, b1⟩ := box_t19 (HA.out _ hSw); clear hSw; go_simp) ?_
      try simp only [List.setIfInBounds_toArray, List.set_cons_zero, List.set_cons_succ]
      refine drawn_take 5 21 (.agg #[.int .i64 y.rt, .int .i64 y.sl, .int .i64 y.dl, .int .i64 y.ml, .int .i64 y.cl, .int .i64 y.ba, .int .i64 y.ca, .int .i64 y.qu, .int .i64 y.wa]) rfl rfl (by kernel_rfl) (by kernel_rfl) (by kernel_rfl) (by kernel_rfl) (fun _ _ _ h => h) (by rfl) (by assumption) (by intro w hSw; obtain ⟨b0, b1, b2, b3, b4, b5, b6, b7, b8⟩ := box_y18 (HB.out _ hSw); clear hSw; go_simp) ?_
      try simp only [List.setIfInBounds_toArray, List.set_cons_zero, List.set_cons_succ]
      refine drawn_take 6 22 (.int .i64 h) rfl rfl (by kernel_rfl) (by kernel_rfl) (by kernel_rfl) (by kernel_rfl) (fun _ _ _ h => h) (by rfl) (by assumption) (by intro w hSw; obtain hS1 := hSw; go_simp) ?_
      try simp only [List.setIfInBounds_toArray, List.set_cons_zero, List.set_cons_succ]
      refine drawn_any [3] (by kernel_rfl) (by simp) ?_
      refine drawn_cons rfl (fun K1 hK => ?_) drawn_nil
      go_simp
      refine (HPD.out _).mono ?_
      rintro e wn ⟨rfl, tn⟩
      have hSn := hS0.trans tn (fun _ _ f => f)
      refine hK.out _ _ _ hSn ?_
      clear hK K1 tn hS0
      have hS0 := hSn
      clear hSn
      try simp only [List.setIfInBounds_toArray, List.set_cons_zero, List.set_cons_succ]
      refine drawn_any [7] (by kernel_rfl) (by simp) ?_
      refine drawn_cons rfl (fun K1 hK => ?_) drawn_nil
      go_simp
      refine (HRD.out _).mono ?_
      rintro e wn ⟨rfl, tn⟩
      have hSn := hS0.trans tn (fun _ _ f => f)
      refine hK.out _ _ _ hSn ?_
      clear hK K1 tn hS0
      have hS0 := hSn
      clear hSn
      try simp only [List.setIfInBounds_toArray, List.set_cons_zero, List.set_cons_succ]
      refine drawn_take 8 24 (.bool true) rfl rfl (by kernel_rfl) (by kernel_rfl) (by kernel_rfl) (by kernel_rfl) (fun _ _ _ h => h) (by rfl) (by assumption) (by intro w hSw; obtain hS1 := hSw; go_simp) ?_
      try simp only [List.setIfInBounds_toArray, List.set_cons_zero, List.set_cons_succ]
      refine drawn_take 9 25 (.bool true) rfl rfl (by kernel_rfl) (by kernel_rfl) (by kernel_rfl) (by kernel_rfl) (fun _ _ _ h => h) (by rfl) (by assumption) (by intro w hSw; obtain hS1 := hSw; go_simp) ?_
      try simp only [List.setIfInBounds_toArray, List.set_cons_zero, List.set_cons_succ]
      refine drawn_take 10 26 (.int .i64 f) rfl rfl (by kernel_rfl) (by kernel_rfl) (by kernel_rfl) (by kernel_rfl) (fun _ _ _ h => h) (by rfl) (by assumption) (by intro w hSw; obtain hS1 := hSw; go_simp) ?_
      try simp only [List.setIfInBounds_toArray, List.set_cons_zero, List.set_cons_succ]
      refine drawn_take 11 27 (.agg #[.int .i64 y.rt, .int .i64 y.sl, .int .i64 y.dl, .int .i64 y.ml, .int .i64 y.cl, .int .i64 y.ba, .int .i64 y.ca, .int .i64 y.qu, .int .i64 y.wa]) rfl rfl (by kernel_rfl) (by kernel_rfl) (by kernel_rfl) (by kernel_rfl) (fun _ _ _ h => h) (by rfl) (by assumption) (by intro w hSw; obtain ⟨b0, b1, b2, b3, b4, b5, b6, b7, b8⟩ := box_y18 (HB.out _ hSw); clear hSw; go_simp) ?_
      try simp only [List.setIfInBounds_toArray, List.set_cons_zero, List.set_cons_succ]
      refine drawn_take 12 28 (.int .i64 h) rfl rfl (by kernel_rfl) (by kernel_rfl) (by kernel_rfl) (by kernel_rfl) (fun _ _ _ h => h) (by rfl) (by assumption) (by intro w hSw; obtain hS1 := hSw; go_simp) ?_
      try simp only [List.setIfInBounds_toArray, List.set_cons_zero, List.set_cons_succ]
      refine drawn_take 14 30 (.int .i64 f) rfl rfl (by kernel_rfl) (by kernel_rfl) (by kernel_rfl) (by kernel_rfl) (fun _ _ _ h => h) (by rfl) (by assumption) (by intro w hSw; obtain hS1 := hSw; go_simp) ?_
      try simp only [List.setIfInBounds_toArray, List.set_cons_zero, List.set_cons_succ]
      refine drawn_take 15 31 (.agg #[.int .i64 y.rt, .int .i64 y.sl, .int .i64 y.dl, .int .i64 y.ml, .int .i64 y.cl, .int .i64 y.ba, .int .i64 y.ca, .int .i64 y.qu, .int .i64 y.wa]) rfl rfl (by kernel_rfl) (by kernel_rfl) (by kernel_rfl) (by kernel_rfl) (fun _ _ _ h => h) (by rfl) (by assumption) (by intro w hSw; obtain ⟨b0, b1, b2, b3, b4, b5, b6, b7, b8⟩ := box_y18 (HB.out _ hSw); clear hSw; go_simp) ?_
      try simp only [List.setIfInBounds_toArray, List.set_cons_zero, List.set_cons_succ]
      refine drawn_take 16 32 (.int .i64 h) rfl rfl (by kernel_rfl) (by kernel_rfl) (by kernel_rfl) (by kernel_rfl) (fun _ _ _ h => h) (by rfl) (by assumption) (by intro w hSw; obtain hS1 := hSw; go_simp) ?_
      try simp only [List.setIfInBounds_toArray, List.set_cons_zero, List.set_cons_succ]
      refine drawn_any [13] (by kernel_rfl) (by simp) ?_
      refine drawn_cons rfl (fun K1 hK => ?_) drawn_nil
      go_simp
      refine (HPB.out _).mono ?_
      rintro e wn ⟨rfl, tn⟩
      have hSn := hS0.trans tn (fun _ _ f => f)
      refine hK.out _ _ _ hSn ?_
      clear hK K1 tn hS0
      have hS0 := hSn
      clear hSn
      try simp only [List.setIfInBounds_toArray, List.set_cons_zero, List.set_cons_succ]
      refine drawn_any [17] (by kernel_rfl) (by simp) ?_
      refine drawn_cons rfl (fun K1 hK => ?_) drawn_nil
      go_simp
      refine (HRB.out _).mono ?_
      rintro e wn ⟨rfl, tn⟩
      have hSn := hS0.trans tn (fun _ _ f => f)
      refine hK.out _ _ _ hSn ?_
      clear hK K1 tn hS0
      have hS0 := hSn
      clear hSn
      try simp only [List.setIfInBounds_toArray, List.set_cons_zero, List.set_cons_succ]
      refine drawn_take 18 34 (.bool true) rfl rfl (by kernel_rfl) (by kernel_rfl) (by kernel_rfl) (by kernel_rfl) (fun _ _ _ h => h) (by rfl) (by assumption) (by intro w hSw; obtain hS1 := hSw; go_simp) ?_
      try simp only [List.setIfInBounds_toArray, List.set_cons_zero, List.set_cons_succ]
      refine drawn_take 19 35 (.bool true) rfl rfl (by kernel_rfl) (by kernel_rfl) (by kernel_rfl) (by kernel_rfl) (fun _ _ _ h => h) (by rfl) (by assumption) (by intro w hSw; obtain hS1 := hSw; go_simp) ?_
      try simp only [List.setIfInBounds_toArray, List.set_cons_zero, List.set_cons_succ]
      refine drawn_take 20 36 (.bool true) rfl rfl (by kernel_rfl) (by kernel_rfl) (by kernel_rfl) (by kernel_rfl) (fun _ _ _ h => h) (by rfl) (by assumption) (by intro w hSw; obtain hS1 := hSw; go_simp) ?_
      try simp only [List.setIfInBounds_toArray, List.set_cons_zero, List.set_cons_succ]
      refine drawn_any [21] (by kernel_rfl) (by simp) ?_
      refine drawn_cons rfl (fun K1 hK => ?_) drawn_nil
      go_simp
      refine (HAL.out _).mono ?_
      rintro e wn ⟨rfl, tn⟩
      have hSn := hS0.trans tn (fun _ _ f => f)
      refine hK.out _ _ _ hSn ?_
      clear hK K1 tn hS0
      have hS0 := hSn
      clear hSn
      try simp only [List.setIfInBounds_toArray, List.set_cons_zero, List.set_cons_succ]
      refine drawn_take 22 38 (.bool true) rfl rfl (by kernel_rfl) (by kernel_rfl) (by kernel_rfl) (by kernel_rfl) (fun _ _ _ h => h) (by rfl) (by assumption) (by intro w hSw; obtain hS1 := hSw; go_simp) ?_
      try simp only [List.setIfInBounds_toArray, List.set_cons_zero, List.set_cons_succ]
      refine drawn_last1 23 8 (.bool true) rfl rfl (by kernel_rfl) (by kernel_rfl) (by rfl) (by intro w; go_simp) hS0 ?_
      try simp only [List.setIfInBounds_toArray, List.set_cons_zero, List.set_cons_succ]
      have HTE := Lib.hid hS0
      clear hS0
      go_wp2
      go_ret
      exact ⟨rfl, HT.out.trans HTE.out (fun _ _ f => f)⟩

end Go.Proofs.Ytmpgfipfijbbkaa
