/-
  Texts laid one behind the other: Zp Zn Ek Zt Zqa Eh Zh Zi.
-/
import Derived.Test.YtejilonhdgfkbaaJoflaf
import Derived.Test.YtejilonhdgfkbaaJoflae
import Derived.Test.YtejilonhdgfkbaaJoflaa
import Derived.Sort.Grow
import Derived.Test.YtejilonhdgfkbaaJoflab
import Derived.Laws.Slices

/-
  Stage 9, plain: there and back.
-/
namespace Go.Proofs.Ytejilonhdgfkbaa
open Go.RowKit

theorem zig_zag9 (n : Nat) : zig (zag n) = n := by
  unfold zig zag
  by_cases h : n % 2 = 0
  · rw [if_pos h, if_pos (by omega)]
    omega
  · rw [if_neg h, if_neg (by omega)]
    omega
theorem mid_of (b : UInt8) (q : Nat) (hb : 128 ≤ b.toNat) : mid (b.toNat - 128 + q * 128) = b := by
  have hlt : b.toNat < 256 := UInt8.toNat_lt b
  apply UInt8.toNat_inj.1
  unfold mid
  rw [UInt8.toNat_ofNat']
  omega
theorem low_of (b : UInt8) : low b.toNat = b := by
  apply UInt8.toNat_inj.1
  exact low_toNat _ (UInt8.toNat_lt b)
/-- What is read as a number is just what would be put, and what is left. -/
theorem rdF_exact : ∀ (g i acc : Nat) (l : List UInt8), (rdF g i acc l).2.1 = 0 →
    ∃ q, (rdF g i acc l).1 = acc + q * 128 ^ i ∧ i ≤ (rdF g i acc l).2.2 ∧ l = encF (g - 1) q ++ l.drop ((rdF g i acc l).2.2 - i) ∧ (0 < i → 0 < q)
  | 0, _, _, _, h => by cases h
  | _ + 1, _, _, [], h => by cases h
  | g + 1, i, acc, b :: l, h => by
    have e : rdF (g + 1) i acc (b :: l) = if 128 ≤ b.toNat then rdF g (i + 1) (acc + (b.toNat - 128) * 128 ^ i) l
      else if (0 < i ∧ b.toNat = 0) ∨ (i = 9 ∧ 1 < b.toNat) then (0, 4, i + 1) else (acc + b.toNat * 128 ^ i, 0, i + 1) := rfl
    rw [e] at h ⊢
    by_cases hb : 128 ≤ b.toNat
    · rw [if_pos hb] at h ⊢
      obtain ⟨q, h1, h2, h3, h4⟩ := rdF_exact g (i + 1) _ l h
      have hq := h4 (by omega)
      have hlt : b.toNat < 256 := UInt8.toNat_lt b
      cases g with
      | zero => cases h
      | succ g =>
        refine ⟨b.toNat - 128 + q * 128, ?_, by omega, ?_, fun _ => by omega⟩
        · rw [h1, Nat.pow_succ, Nat.add_mul, Nat.mul_assoc q 128, Nat.mul_comm 128 (128 ^ i)]
          omega
        · have e2 : encF (g + 1) (b.toNat - 128 + q * 128) = b :: encF g q := by
            show (if _ < 128 then _ else _) = _
            rw [if_neg (by omega), mid_of b q hb, show (b.toNat - 128 + q * 128) / 128 = q by omega]
          show b :: l = encF (g + 1) _ ++ _
          rw [e2]
          generalize (rdF (g + 1) (i + 1) (acc + (b.toNat - 128) * 128 ^ i) l).2.2 = n at *
          rw [show n - i = (n - (i + 1)) + 1 by omega, List.drop_succ_cons, List.cons_append]
          congr 1
    · rw [if_neg hb] at h ⊢
      by_cases hz : (0 < i ∧ b.toNat = 0) ∨ (i = 9 ∧ 1 < b.toNat)
      · rw [if_pos hz] at h
        cases h
      · rw [if_neg hz]
        refine ⟨b.toNat, rfl, by show i ≤ i + 1; omega, ?_, fun hi => by omega⟩
        have e2 : encF g b.toNat = [b] := by
          cases g with
          | zero => show [low b.toNat] = [b]; rw [low_of]
          | succ g =>
            show (if _ < 128 then _ else _) = _
            rw [if_pos (by omega), low_of]
        show b :: l = encF g b.toNat ++ _
        rw [e2, show i + 1 - i = 1 by omega]
        rfl
theorem rdNum_exact {l : List UInt8} (h : (rdNum l).2.1 = 0) : l = enc (rdNum l).1 ++ l.drop (rdNum l).2.2 := by
  obtain ⟨q, h1, _, h2, _⟩ := rdF_exact 10 0 0 l h
  have e : (rdNum l).1 = q := by
    show (rdF 10 0 0 l).1 = q
    rw [h1]
    simp
  rw [e]
  exact h2
theorem num_there {s : RS9} (h : (sNum' s).2 = 0) : s.2 = 0 ∧ s.1 = enc (sNum s) ++ (sNum' s).1 := by
  unfold sNum sNum' at *
  by_cases hs : s.2 = 0
  · rw [if_pos hs] at h
    rw [if_pos hs, if_pos hs]
    exact ⟨hs, rdNum_exact h⟩
  · rw [if_neg hs] at h
    exact absurd h hs
theorem text_there {s : RS9} (h : (sText' s).2 = 0) : s.2 = 0 ∧ s.1 = textB (sText s) ++ (sText' s).1 ∧ (sText s).length ≤ 16 := by
  unfold sText sText' at *
  by_cases hs : s.2 = 0
  · rw [if_pos hs] at h
    rw [if_pos hs, if_pos hs]
    refine ⟨hs, ?_⟩
    unfold rdText rdCount at h ⊢
    by_cases h1 : (rdNum s.1).2.1 = 0
    · by_cases h2 : 16 < (rdNum s.1).1
      · simp [h1, h2] at h
      · by_cases h3 : (s.1.drop (rdNum s.1).2.2).length < (rdNum s.1).1
        · simp only [h1, h2, ne_eq, not_true_eq_false, if_false, h3, if_true] at h
          cases h
        · simp only [h1, h2, ne_eq, not_true_eq_false, if_false, h3]
          have hl : ((s.1.drop (rdNum s.1).2.2).take (rdNum s.1).1).length = (rdNum s.1).1 := by rw [List.length_take]; omega
          refine ⟨?_, by omega⟩
          unfold textB
          rw [hl]
          have e := rdNum_exact h1
          conv => lhs; rw [e]
          rw [List.append_assoc, ← List.drop_drop, List.take_append_drop]
    · simp only [ne_eq, h1, not_false_eq_true, if_true] at h
  · rw [if_neg hs] at h
    exact absurd h hs
theorem count_there {s : RS9} (h : (sCount' s).2 = 0) : s.2 = 0 ∧ s.1 = enc (sCount s) ++ (sCount' s).1 ∧ sCount s ≤ 50 := by
  unfold sCount sCount' at *
  by_cases hs : s.2 = 0
  · rw [if_pos hs] at h
    rw [if_pos hs, if_pos hs]
    refine ⟨hs, ?_⟩
    unfold rdCount at h ⊢
    by_cases h1 : (rdNum s.1).2.1 = 0
    · by_cases h2 : 50 < (rdNum s.1).1
      · simp [h1, h2] at h
      · simp only [h1, h2, ne_eq, not_true_eq_false, if_false]
        exact ⟨rdNum_exact h1, by omega⟩
    · simp only [ne_eq, h1, not_false_eq_true, if_true] at h
  · rw [if_neg hs] at h
    exact absurd h hs


theorem dim_put {k : K9} {i j : Nat} (hi : i < 4) (hj : j < 4) (t : List UInt8) : (k.put i t).dim j = if i = j then t else k.dim j := by
  match i, hi, j, hj with
  | 0, _, 0, _ => rfl
  | 0, _, 1, _ => rfl
  | 0, _, 2, _ => rfl
  | 0, _, 3, _ => rfl
  | 1, _, 0, _ => rfl
  | 1, _, 1, _ => rfl
  | 1, _, 2, _ => rfl
  | 1, _, 3, _ => rfl
  | 2, _, 0, _ => rfl
  | 2, _, 1, _ => rfl
  | 2, _, 2, _ => rfl
  | 2, _, 3, _ => rfl
  | 3, _, 0, _ => rfl
  | 3, _, 1, _ => rfl
  | 3, _, 2, _ => rfl
  | 3, _, 3, _ => rfl
theorem put_h {k : K9} {i : Nat} (t : List UInt8) : (k.put i t).h = k.h := by
  unfold K9.put
  split <;> rfl
theorem texts_same {k k' : K9} : ∀ n, (∀ j, j < n → k.dim j = k'.dim j) → textsB k n = textsB k' n
  | 0, _ => rfl
  | n + 1, h => by
    show textsB k n ++ textB (k.dim n) = textsB k' n ++ textB (k'.dim n)
    rw [texts_same n (fun j hj => h j (by omega)), h n (by omega)]
theorem textsK_h (k0 : K9) (s : RS9) : ∀ n, (textsK k0 s n).1.h = k0.h
  | 0 => rfl
  | n + 1 => by
    show ((textsK k0 s n).1.put n _).h = k0.h
    rw [put_h, textsK_h k0 s n]
theorem texts_there (k0 : K9) (s : RS9) : ∀ n, n ≤ 4 → (textsK k0 s n).2.2 = 0 → s.2 = 0 ∧ s.1 = textsB (textsK k0 s n).1 n ++ (textsK k0 s n).2.1
  | 0, _, h => ⟨h, rfl⟩
  | n + 1, hn, h => by
    obtain ⟨h1, h2, _⟩ := text_there (s := (textsK k0 s n).2) h
    obtain ⟨g1, g2⟩ := texts_there k0 s n (by omega) h1
    refine ⟨g1, ?_⟩
    have e1 : textsB (textsK k0 s (n + 1)).1 (n + 1) = textsB (textsK k0 s n).1 n ++ textB (sText (textsK k0 s n).2) := by
      show textsB ((textsK k0 s n).1.put n _) n ++ textB (((textsK k0 s n).1.put n _).dim n) = _
      rw [dim_put (by omega) (by omega), if_pos rfl, texts_same n (k' := (textsK k0 s n).1) (fun j hj => by rw [dim_put (by omega) (by omega), if_neg (by omega)])]
    have e2 : (textsK k0 s (n + 1)).2.1 = (sText' (textsK k0 s n).2).1 := rfl
    rw [e1, e2, List.append_assoc, ← h2]
    exact g2
theorem one_there {n h : Nat} {s : RS9} (hn : n ≤ 4) (hf : (oneF n h s).2.2 = 0) : s.2 = 0 ∧ enc h ++ s.1 = factB n (oneF n h s).1 ++ (oneF n h s).2.1 := by
  obtain ⟨h1, h2⟩ := num_there (s := (textsK ⟨h, [], [], [], []⟩ s n).2) hf
  obtain ⟨g1, g2⟩ := texts_there _ s n hn h1
  refine ⟨g1, ?_⟩
  have e1 : (oneF n h s).1.k.h.toNat = h := by
    show (textsK _ s n).1.h.toNat = h
    rw [textsK_h]
    simp
  have e2 : zig (oneF n h s).1.v = sNum (textsK ⟨h, [], [], [], []⟩ s n).2 := by
    show zig (sInt _) = _
    unfold sInt sNum
    rw [if_pos h1, if_pos h1, zig_zag9]
  unfold factB
  rw [e1, e2, g2]
  have e3 : (oneF n h s).2.1 = (sNum' (textsK ⟨h, [], [], [], []⟩ s n).2).1 := rfl
  rw [e3]
  conv => lhs; rw [h2]
  simp only [List.append_assoc]
  rfl
theorem readR_there {n : Nat} (hn : n ≤ 4) : ∀ (i : Nat) (s : RS9) (out res : List F9), readR n i s out = (0, res) → s.2 = 0 ∧ ∃ new, res = out ++ new ∧ new.length = i ∧ s.1 = new.flatMap (factB n) ∧ (allB res n).1 = 0
  | 0, s, out, res, h => by
    unfold readR at h
    split at h
    · rename_i hs
      have := congrArg Prod.fst h
      simp at this
      exact absurd this hs
    · rename_i hs
      split at h
      · cases congrArg Prod.fst h
      · rename_i hl
        split at h
        · rename_i ha
          exact absurd (congrArg Prod.fst h) ha
        · rename_i ha
          have e : out = res := congrArg Prod.snd h
          subst e
          exact ⟨by omega, [], by simp, rfl, List.eq_nil_of_length_eq_zero (by omega), by omega⟩
  | i + 1, s, out, res, h => by
    unfold readR at h
    split at h
    · cases congrArg Prod.fst h
    · rename_i hb
      split at h
      · rename_i hf
        have := congrArg Prod.fst h
        simp at this
        exact absurd this hf
      · rename_i hf
        have hf0 : (oneF n (sNum s) (sNum' s)).2.2 = 0 := by omega
        obtain ⟨h1, new, h2, h3, h4, h5⟩ := readR_there hn i _ _ res h
        obtain ⟨g1, g2⟩ := one_there hn hf0
        obtain ⟨k1, k2⟩ := num_there g1
        refine ⟨k1, (oneF n (sNum s) (sNum' s)).1 :: new, by rw [h2]; simp, by rw [List.length_cons, h3], ?_, h5⟩
        rw [k2, g2, h4]
        rfl
theorem readB_there {m : List UInt8} {n : Int} {res : List F9} (h : readB m n = (0, res)) : m = batchB res n.toNat ∧ (allB res n).1 = 0 := by
  unfold readB at h
  split at h
  · rename_i hd
    unfold okDims at hd
    simp only [Bool.and_eq_true, decide_eq_true_iff] at hd
    obtain ⟨N, rfl⟩ := Int.eq_ofNat_of_zero_le (show 0 ≤ n by omega)
    rw [Int.toNat_natCast] at h ⊢
    obtain ⟨h1, new, h2, h3, h4, h5⟩ := readR_there (by omega) _ _ _ _ h
    rw [List.nil_append] at h2
    subst h2
    obtain ⟨_, g2, _⟩ := count_there h1
    refine ⟨?_, h5⟩
    unfold batchB
    rw [h3, ← h4]
    exact g2
  · cases congrArg Prod.fst h
theorem readB_none {m : List UInt8} {n : Int} (h : (readB m n).1 ≠ 0) : (readB m n).2 = [] := by
  have key : ∀ (N i : Nat) (s : RS9) (out : List F9), (readR N i s out).1 ≠ 0 → (readR N i s out).2 = [] := by
    intro N i
    induction i with
    | zero =>
      intro s out h
      unfold readR at h ⊢
      split
      · rfl
      · rename_i h1
        rw [if_neg h1] at h
        split
        · rfl
        · rename_i h2
          rw [if_neg h2] at h
          split
          · rfl
          · rename_i h3
            rw [if_neg h3] at h
            exact absurd rfl h
    | succ i ih =>
      intro s out h
      unfold readR at h ⊢
      split
      · rfl
      · rename_i h1
        rw [if_neg h1] at h
        split
        · rfl
        · rename_i h2
          rw [if_neg h2] at h
          exact ih _ _ h
  unfold readB at h ⊢
  split
  · rename_i h1
    rw [if_pos h1] at h
    exact key _ _ _ _ h
  · rfl

theorem num_back {n : Nat} (hn : Hid (n < 18446744073709551616)) (r : List UInt8) : sNum (enc n ++ r, 0) = n ∧ sNum' (enc n ++ r, 0) = (r, 0) := by
  unfold sNum sNum'
  simp only [if_true]
  rw [rdNum_enc n r hn]
  exact ⟨rfl, by simp⟩
theorem int_back {v : Int} (h1 : Hid (-9223372036854775808 ≤ v)) (h2 : Hid (v ≤ 9223372036854775807)) (r : List UInt8) : sInt (enc (zig v) ++ r, 0) = v ∧ sNum' (enc (zig v) ++ r, 0) = (r, 0) := by
  have hz := zig_lt v h1 h2
  refine ⟨?_, (num_back hz r).2⟩
  unfold sInt
  simp only [if_true]
  rw [rdNum_enc _ r hz, zag_zig]
theorem text_back {t : List UInt8} (ht : t.length ≤ 16) (r : List UInt8) : sText (textB t ++ r, 0) = t ∧ sText' (textB t ++ r, 0) = (r, 0) := by
  have hn : Hid (t.length < 18446744073709551616) := by show _ < _; omega
  have e : rdNum (textB t ++ r) = (t.length, 0, (enc t.length).length) := by
    unfold textB
    rw [List.append_assoc]
    exact rdNum_enc t.length (t ++ r) hn
  have ed : (textB t ++ r).drop (enc t.length).length = t ++ r := by
    unfold textB
    rw [List.append_assoc, List.drop_left]
  have e2 : rdText 16 (textB t ++ r) = (t, 0, (enc t.length).length + t.length) := by
    unfold rdText rdCount
    rw [e]
    have h16 : ¬ 16 < t.length := by omega
    simp only [ne_eq, not_true_eq_false, if_false, h16, ed]
    rw [if_neg (by rw [List.length_append]; omega), List.take_left]
  unfold sText sText'
  simp only [if_true]
  rw [e2]
  refine ⟨rfl, ?_⟩
  show ((textB t ++ r).drop ((enc t.length).length + t.length), 0) = _
  rw [← List.drop_drop, ed, List.drop_left]
theorem count_back {n : Nat} (hn : n ≤ 50) (r : List UInt8) : sCount (enc n ++ r, 0) = n ∧ sCount' (enc n ++ r, 0) = (r, 0) := by
  have e := rdNum_enc n r (by show _ < _; omega)
  have e2 : rdCount 50 (enc n ++ r) = (n, 0, (enc n).length) := by
    unfold rdCount
    rw [e]
    have h50 : ¬ 50 < n := by omega
    simp [h50]
  unfold sCount sCount'
  simp only [if_true]
  rw [e2]
  exact ⟨rfl, by simp⟩
/-- A key's first texts put into another. -/
def putN (k0 k : K9) : Nat → K9
  | 0 => k0
  | i + 1 => (putN k0 k i).put i (k.dim i)
theorem texts_back (k0 k : K9) (hk : ∀ i, i < 4 → (k.dim i).length ≤ 16) : ∀ (n : Nat) (r : List UInt8), n ≤ 4 → textsK k0 (textsB k n ++ r, 0) n = (putN k0 k n, (r, 0))
  | 0, _, _ => rfl
  | n + 1, r, hn => by
    have ih := texts_back k0 k hk n (textB (k.dim n) ++ r) (by omega)
    have e : textsB k (n + 1) ++ r = textsB k n ++ (textB (k.dim n) ++ r) := by
      show textsB k n ++ textB (k.dim n) ++ r = _
      rw [List.append_assoc]
    rw [e]
    show ((textsK k0 (textsB k n ++ (textB (k.dim n) ++ r), 0) n).1.put n (sText (textsK k0 (textsB k n ++ (textB (k.dim n) ++ r), 0) n).2), sText' (textsK k0 (textsB k n ++ (textB (k.dim n) ++ r), 0) n).2) = _
    rw [ih]
    obtain ⟨t1, t2⟩ := text_back (hk n (by omega)) r
    rw [t1, t2]
    rfl
theorem putN_all {k : K9} {n : Nat} (hn1 : 1 ≤ n) (hn : n ≤ 4) (hk : ∀ i, i < 4 → n ≤ i → k.dim i = []) : putN ⟨k.h, [], [], [], []⟩ k n = k := by
  obtain ⟨h, a, b, c, d⟩ := k
  match n, hn1, hn with
  | 1, _, _ =>
    have e1 := hk 1 (by omega) (by omega)
    have e2 := hk 2 (by omega) (by omega)
    have e3 := hk 3 (by omega) (by omega)
    simp only [K9.dim] at e1 e2 e3
    subst e1 e2 e3
    rfl
  | 2, _, _ =>
    have e2 := hk 2 (by omega) (by omega)
    have e3 := hk 3 (by omega) (by omega)
    simp only [K9.dim] at e2 e3
    subst e2 e3
    rfl
  | 3, _, _ =>
    have e3 := hk 3 (by omega) (by omega)
    simp only [K9.dim] at e3
    subst e3
    rfl
  | 4, _, _ => rfl
theorem chk_empty {f : F9} {n : Nat} (h : chkF f (n : Int) = 0) : ∀ i, i < 4 → n ≤ i → f.k.dim i = [] := by
  unfold chkF at h
  split at h
  · split at h
    · split at h
      · rename_i ht
        simp only [okTexts, okText, Bool.and_eq_true, Bool.or_eq_true, decide_eq_true_iff, List.isEmpty_iff] at ht
        intro i hi hn
        match i, hi with
        | 0, _ => rcases ht.1.1.1.2 with g | g; · omega
                  · exact g
        | 1, _ => rcases ht.1.1.2.2 with g | g; · omega
                  · exact g
        | 2, _ => rcases ht.1.2.2 with g | g; · omega
                  · exact g
        | 3, _ => rcases ht.2.2 with g | g; · omega
                  · exact g
      · cases h
    · cases h
  · cases h
theorem one_back {f : F9} {n : Nat} (hn1 : 1 ≤ n) (hn : n ≤ 4) (h : chkF f (n : Int) = 0) (r : List UInt8) : sNum (factB n f ++ r, 0) = f.k.h.toNat ∧ oneF n f.k.h.toNat (sNum' (factB n f ++ r, 0)) = (f, (r, 0)) := by
  have hg := good_chk h
  have hh : Hid (f.k.h.toNat < 18446744073709551616) := by have := hg.h1; show _ < _; omega
  have e : factB n f ++ r = enc f.k.h.toNat ++ (textsB f.k n ++ (enc (zig f.v) ++ r)) := by
    unfold factB
    simp only [List.append_assoc]
  obtain ⟨a1, a2⟩ := num_back hh (textsB f.k n ++ (enc (zig f.v) ++ r))
  rw [e, a1, a2]
  refine ⟨rfl, ?_⟩
  have et := texts_back ⟨(f.k.h.toNat : Int), [], [], [], []⟩ f.k hg.t n (enc (zig f.v) ++ r) hn
  obtain ⟨i1, i2⟩ := int_back (v := f.v) (by have := hg.v0; show _ ≤ _; omega) (by have := hg.v1; show _ ≤ _; omega) r
  unfold oneF
  rw [et]
  show ((⟨putN _ f.k n, sInt (enc (zig f.v) ++ r, 0)⟩ : F9), sNum' (enc (zig f.v) ++ r, 0)) = _
  rw [i1, i2, Int.toNat_of_nonneg hg.h0, putN_all hn1 hn (chk_empty h)]
theorem readR_back {n : Nat} (hn1 : 1 ≤ n) (hn : n ≤ 4) : ∀ (fs out : List F9), (∀ f ∈ fs, chkF f (n : Int) = 0) → (allB (out ++ fs) n).1 = 0 → readR n fs.length (fs.flatMap (factB n), 0) out = (0, out ++ fs)
  | [], out, _, ha => by
    rw [List.append_nil] at ha ⊢
    show (if (0 : Nat) ≠ 0 then _ else if 0 < ([] : List UInt8).length then _ else if (allB out n).1 ≠ 0 then _ else (0, out)) = _
    simp [ha]
  | f :: fs, out, hc, ha => by
    have hf := hc f (by simp)
    obtain ⟨h1, h2⟩ := one_back hn1 hn hf (fs.flatMap (factB n))
    have hg := good_chk hf
    have ih := readR_back hn1 hn fs (out ++ [f]) (fun g hg => hc g (by simp [hg])) (by simpa using ha)
    show readR n (fs.length + 1) (factB n f ++ fs.flatMap (factB n), 0) out = _
    unfold readR
    rw [h1, h2, if_neg (by have := hg.h1; omega), if_neg (by simp), ih]
    simp
theorem readB_back {l : List F9} {n : Int} (h : (allB l n).1 = 0) : readB (batchB l n.toNat) n = (0, l) := by
  obtain ⟨⟨n1, n4⟩, ⟨l1, l50⟩, hc, _⟩ := all_good h
  obtain ⟨N, rfl⟩ := Int.eq_ofNat_of_zero_le (show 0 ≤ n by omega)
  have hd : okDims (N : Int) = true := by unfold okDims; simp [n1, n4]
  unfold readB
  rw [if_pos hd, Int.toNat_natCast]
  obtain ⟨c1, c2⟩ := count_back l50 (l.flatMap (factB N))
  have e : batchB l N = enc l.length ++ l.flatMap (factB N) := rfl
  rw [e, c1, c2]
  have := readR_back (by omega) (by omega) l [] hc (by simpa using h)
  simpa using this

end Go.Proofs.Ytejilonhdgfkbaa

/-
  Stage 9: lists of numbers held against each other; what light facts are.
-/
namespace Go.Proofs.Ytejilonhdgfkbaa
open Go.RowKit

set_option maxRecDepth 100000

theorem light_len9 {l : List F9} (h : light9 l = true) : l.length ≤ 100 := by
  unfold light9 at h
  rw [Bool.and_eq_true, decide_eq_true_iff] at h
  exact h.1

theorem readB_len {m : List UInt8} {n : Int} : (readB m n).2.length ≤ 1000 := by
  by_cases h : (readB m n).1 = 0
  · have e : readB m n = (0, (readB m n).2) := by rw [← h]
    obtain ⟨_, h2⟩ := readB_there e
    have := (all_good h2).2.1
    omega
  · rw [readB_none h]
    exact Nat.zero_le _
theorem batch_len9 {l : List F9} {n : Int} (h : (allB l n).1 = 0) : (batchB l n.toNat).length ≤ 100000 := by
  obtain ⟨h1, h2, h3, _⟩ := all_good h
  have h4 := partB_len (l := l) (n := n.toNat) (by omega) (fun f hf => good_chk (h3 f hf)) l.length
  rw [partB_all] at h4
  omega

set_option maxHeartbeats 4000000 in
theorem same_nums9 (a b : Value) (L : List Int) (w : World) (ha : RdE EN9 w a L) (hb : RdE EN9 w b L) (hl : L.length ≤ 1000000) :
    Calls Try.prog 18 #[a, b] w fun e w' => e = .returned (.bool true) ∧ Turn (fun _ => False) w w' := by
  have HA := Lib.hid ha; have HB := Lib.hid hb
  obtain ⟨A, c, rfl⟩ := ha.shape
  obtain ⟨B, d, rfl⟩ := hb.shape
  clear ha hb
  go_enter Try.func18, Try.ntmps18
  go_wp2_with fail
  go_loopw [5] (fun x5 wr => ∃ i : Nat, x5 = .int .i64 (i : Int) ∧ i ≤ L.length ∧ ∃ n, wr = w.drewN n) (fun x5 _ => L.length - (intOf x5).toNat)
  case atStart => exact ⟨0, rfl, Nat.zero_le _, 0, rfl⟩
  case round =>
    obtain ⟨i, rfl, hi, n, rfl⟩ := hrel
    by_cases hlt : i < L.length
    · obtain ⟨x, hx⟩ : ∃ x, L[i]? = some x := ⟨_, List.getElem?_eq_getElem hlt⟩
      obtain ⟨ad, rfl, hc⟩ := num_at9 HA.out hx
      obtain ⟨bd, rfl, hd⟩ := num_at9 HB.out hx
      have e0 := hc w (Turn.refl _ _)
      have e2 := hd w (Turn.refl _ _)
      clear hc hd hx
      have hil : (i : Int) < L.length := by omega
      go_wp2_with fail
      go_quiet (fail)
      go_wp2
      go_roundw
      case rel => exact ⟨i + 1, by go_num, hlt, n + nq, by simp [World.drewN]⟩
      case measure => simp [intOf]; omega
    · obtain rfl : i = L.length := by omega
      go_wp2
      go_ret
      exact ⟨rfl, (Turn.refl _ w).drewN _⟩

end Go.Proofs.Ytejilonhdgfkbaa

/-
  Worlds that have only grown, and drawn: what slices.SortFunc asks of a closure. No type is named.
-/
namespace Go.Proofs.Ytejilonhdgfkbaa
open Go.RowKit

/-- w' has come of w by blocks laid and draws alone. -/
def Gr (w w' : World) : Prop := ∃ q os, w' = Sort.grow (w.drewN q) os
theorem Gr.refl (w : World) : Gr w w := ⟨0, #[], by rw [Sort.grow_empty]; rfl⟩
theorem Gr.trans {a b c : World} (h : Gr a b) (g : Gr b c) : Gr a c := by
  obtain ⟨q, os, rfl⟩ := h
  obtain ⟨q2, os2, rfl⟩ := g
  refine ⟨q + q2, os ++ os2, ?_⟩
  show Sort.grow (Sort.grow ((a.drewN q).drewN q2) os) os2 = _
  rw [Sort.grow_grow]
  congr 1
  simp [World.drewN, Nat.add_assoc]
theorem Gr.drewN {a b : World} (h : Gr a b) (n : Nat) : Gr a (b.drewN n) := h.trans ⟨n, #[], by rw [Sort.grow_empty]⟩
theorem Gr.drew {a b : World} (h : Gr a b) : Gr a b.drew := h.drewN 1
theorem Gr.alloc {a b : World} (h : Gr a b) (o : Obj) : Gr a (b.alloc o) := h.trans ⟨0, #[o], Sort.alloc_eq_grow b o⟩
theorem Gr.turn {a b : World} (h : Gr a b) : Turn (fun _ => False) a b := by
  obtain ⟨q, os, rfl⟩ := h
  refine ⟨rfl, rfl, rfl, ?_, ?_⟩
  · show a.heap.size ≤ (a.heap ++ os).size
    rw [Array.size_append]
    omega
  · intro k hk _
    show (a.heap ++ os)[k]? = a.heap[k]?
    rw [Array.getElem?_append_left hk]

end Go.Proofs.Ytejilonhdgfkbaa

/-
  Stage 9: the program's Compare (by cmp.Or, cmp.Compare, slices.Compare): the world has only grown.
-/
namespace Go.Proofs.Ytejilonhdgfkbaa
open Go.RowKit

set_option maxRecDepth 100000

/-- cmp.Compare of two numbers, of two texts. -/
def cmpI (a b : Int) : Int := if a < b then -1 else if b < a then 1 else 0
def cmpT (a b : List UInt8) : Int := if Op.bytesLess a b then -1 else if Op.bytesLess b a then 1 else 0

set_option maxHeartbeats 1000000 in
theorem cmp_num9 (a b : Int) (w : World) : Calls Try.prog 30 #[.int .i64 a, .int .i64 b] w fun e w' => e = .returned (.int .i64 (cmpI a b)) ∧ w' = w := by
  unfold cmpI
  have ha : (a == a) = true := beq_self_eq_true a
  have hb : (b == b) = true := beq_self_eq_true b
  by_cases h1 : a < b
  · rw [if_pos h1]
    go_enter Try.func30, Try.ntmps30
    go_wp2
    go_ret
    exact ⟨rfl, rfl⟩
  · by_cases h2 : b < a
    · rw [if_neg h1, if_pos h2]
      go_enter Try.func30, Try.ntmps30
      go_wp2
      go_ret
      exact ⟨rfl, rfl⟩
    · rw [if_neg h1, if_neg h2]
      go_enter Try.func30, Try.ntmps30
      go_wp2
      go_ret
      exact ⟨rfl, rfl⟩

set_option maxHeartbeats 1000000 in
theorem cmp_text9 (a b : List UInt8) (w : World) : Calls Try.prog 57 #[sv9 a, sv9 b] w fun e w' => e = .returned (.int .i64 (cmpT a b)) ∧ w' = w := by
  unfold cmpT sv9
  have ha : (a == a) = true := beq_self_eq_true a
  have hb : (b == b) = true := beq_self_eq_true b
  cases h1 : Op.bytesLess a b with
  | true =>
    go_enter Try.func57, Try.ntmps57
    go_wp2
    go_ret
    exact ⟨rfl, rfl⟩
  | false =>
    cases h2 : Op.bytesLess b a with
    | true =>
      have heq : (a == b) = false := by
        cases e : a == b with
        | false => rfl
        | true =>
          rw [eq_of_beq e, less_irr] at h2
          cases h2
      go_enter Try.func57, Try.ntmps57
      go_wp2
      go_ret
      exact ⟨rfl, rfl⟩
    | false =>
      have heq : (a == b) = true := by rw [bytes_same h1 h2]; exact beq_self_eq_true _
      go_enter Try.func57, Try.ntmps57
      go_wp2
      go_ret
      exact ⟨rfl, rfl⟩

theorem cmpI_cases (a b : Int) : (a < b ∧ cmpI a b = -1) ∨ (b < a ∧ cmpI a b = 1) ∨ (a = b ∧ cmpI a b = 0) := by
  unfold cmpI
  by_cases h1 : a < b
  · exact .inl ⟨h1, if_pos h1⟩
  · by_cases h2 : b < a
    · exact .inr (.inl ⟨h2, by rw [if_neg h1, if_pos h2]⟩)
    · exact .inr (.inr ⟨by omega, by rw [if_neg h1, if_neg h2]⟩)
theorem cmpT_cases (a b : List UInt8) : (Op.bytesLess a b = true ∧ cmpT a b = -1) ∨ (Op.bytesLess b a = true ∧ cmpT a b = 1) ∨ (a = b ∧ cmpT a b = 0) := by
  unfold cmpT
  cases h1 : Op.bytesLess a b with
  | true => exact .inl ⟨rfl, rfl⟩
  | false =>
    cases h2 : Op.bytesLess b a with
    | true => exact .inr (.inl ⟨rfl, rfl⟩)
    | false => exact .inr (.inr ⟨bytes_same h1 h2, rfl⟩)

/-- The dimensions' values, the first i of them, by slices.Compare. -/
def dimsC (p q : K9) : Nat → Int
  | 0 => 0
  | i + 1 => if dimsC p q i = 0 then cmpT (p.dim i) (q.dim i) else dimsC p q i
theorem dims_stay {p q : K9} {i : Nat} (h : dimsC p q i ≠ 0) : ∀ j, i ≤ j → dimsC p q j = dimsC p q i
  | 0, hj => by rw [Nat.le_zero.1 hj]
  | j + 1, hj => by
    by_cases e : i = j + 1
    · rw [e]
    · have ih := dims_stay h j (by omega)
      show (if dimsC p q j = 0 then cmpT (p.dim j) (q.dim j) else dimsC p q j) = _
      rw [ih, if_neg h]
theorem dims_is {p q : K9} (hh : p.h = q.h) : ∀ i, i ≤ 4 → (dimsC p q i = 0 ∧ ∀ k, k < i → p.dim k = q.dim k) ∨ (dimsC p q i ≠ 0 ∧ dimsC p q i = cmpK p q)
  | 0, _ => .inl ⟨rfl, fun k hk => absurd hk (Nat.not_lt_zero k)⟩
  | i + 1, hi => by
    rcases dims_is hh i (by omega) with ⟨h0, hd⟩ | ⟨h0, h⟩
    · unfold dimsC
      rw [if_pos h0]
      rcases cmpT_cases (p.dim i) (q.dim i) with ⟨h, e⟩ | ⟨h, e⟩ | ⟨h, e⟩
      · exact .inr ⟨by rw [e]; decide, by rw [e, cmpK_lt (key_dim (by omega) hh hd h)]⟩
      · exact .inr ⟨by rw [e]; decide, by rw [e, cmpK_gt (key_dim (by omega) hh.symm (fun k hk => (hd k hk).symm) h)]⟩
      · exact .inl ⟨e, fun k hk => by
          by_cases ek : k = i
          · rw [ek]; exact h
          · exact hd k (by omega)⟩
    · exact .inr ⟨by unfold dimsC; rwa [if_neg h0], by unfold dimsC; rwa [if_neg h0]⟩
/-- cmp.Or: the first that is not 0. -/
def orL : List Int → Int
  | [] => 0
  | x :: l => if x = 0 then orL l else x
theorem or_two (a b : Int) : orL [a, b] = if a = 0 then b else a := by
  unfold orL orL orL
  by_cases h : b = 0
  · subst h; simp
  · simp [h]
theorem or_key (p q : K9) : orL [cmpI p.h q.h, dimsC p q 4] = cmpK p q := by
  rw [or_two]
  rcases cmpI_cases p.h q.h with ⟨h, e⟩ | ⟨h, e⟩ | ⟨h, e⟩
  · rw [e, if_neg (by decide), cmpK_lt (key_hour h)]
  · rw [e, if_neg (by decide), cmpK_gt (key_hour h)]
  · rw [if_pos e]
    rcases dims_is h 4 (Nat.le_refl 4) with ⟨h0, hd⟩ | ⟨_, h1⟩
    · have e := key_same h hd
      subst e
      rw [h0, cmpK_self]
    · exact h1

set_option maxHeartbeats 4000000 in
theorem cmp_dims9 (p q : K9) (A1 A2 : Addr) (w : World) (h1 : ∀ i, i < 4 → w.cell? (A1.add i) = some (sv9 (p.dim i))) (h2 : ∀ i, i < 4 → w.cell? (A2.add i) = some (sv9 (q.dim i))) :
    Calls Try.prog 31 #[.slice (some A1) 4 4, .slice (some A2) 4 4] w fun e w' => e = .returned (.int .i64 (dimsC p q 4)) ∧ w' = w := by
  have H1 := Lib.hid h1
  have H2 := Lib.hid h2
  clear h1 h2
  go_enter Try.func31, Try.ntmps31
  go_wp2_with fail
  go_loopw [11] (fun x11 wr => ∃ i : Nat, x11 = .int .i64 (i : Int) ∧ i ≤ 4 ∧ dimsC p q i = 0 ∧ wr = w) (fun x11 _ => 4 - (intOf x11).toNat)
  case atStart => exact ⟨0, rfl, Nat.zero_le _, rfl, rfl⟩
  case round =>
    obtain ⟨i, rfl, hi, h0, rfl⟩ := hrel
    by_cases hlt : i < 4
    · have e1 := H1.out i hlt
      have e2 := H2.out i hlt
      have hil : (i : Int) < 4 := by omega
      have hni : ¬ ((4 : Int) ≤ (i : Int)) := by omega
      have hn1 : cmpT (p.dim i) (q.dim i) = dimsC p q (i + 1) := by
        show _ = if dimsC p q i = 0 then cmpT (p.dim i) (q.dim i) else dimsC p q i
        rw [if_pos h0]
      have HC : Hid (∀ W, Calls Try.prog 57 #[sv9 (p.dim i), sv9 (q.dim i)] W fun e w' => e = .returned (.int .i64 (dimsC p q (i + 1))) ∧ w' = W) := by
        rw [← hn1]
        exact fun W => cmp_text9 (p.dim i) (q.dim i) W
      have HST : Hid (dimsC p q (i + 1) ≠ 0 → dimsC p q 4 = dimsC p q (i + 1)) := fun h => dims_stay h 4 (by omega)
      clear hn1 h0
      obtain ⟨cn, hcn⟩ : ∃ cn, cn = dimsC p q (i + 1) := ⟨_, rfl⟩
      rw [← hcn] at HC HST
      have HCN := Lib.hid hcn
      clear hcn
      generalize p.dim i = T1 at *
      generalize q.dim i = T2 at *
      by_cases hz : cn = 0
      · subst hz
        go_wp2_with fail
        refine (HC.out _).mono ?_
        rintro e w2 ⟨rfl, rfl⟩
        go_wp2
        go_roundw
        case rel => exact ⟨i + 1, by go_num, hlt, HCN.out.symm, trivial⟩
        case measure => simp [intOf]; omega
      · have hzb : (cn != 0) = true := by simp [bne, hz]
        have HE := Lib.hid (HST.out hz)
        clear HST
        go_wp2_with fail
        refine (HC.out _).mono ?_
        rintro e w2 ⟨rfl, rfl⟩
        go_wp2
        go_ret
        rw [HE.out]
        exact ⟨rfl, rfl⟩
    · obtain rfl : i = 4 := by omega
      have HZ := Lib.hid h0
      clear h0
      go_wp2
      go_ret
      rw [HZ.out]
      exact ⟨rfl, rfl⟩

set_option maxHeartbeats 4000000 in
theorem or_two9 (a b : Int) (A1 : Addr) (w : World) (h0 : w.cell? A1 = some (.int .i64 a)) (h1 : w.cell? (A1.add 1) = some (.int .i64 b)) :
    Calls Try.prog 29 #[.slice (some A1) 2 2] w fun e w' => e = .returned (.int .i64 (orL [a, b])) ∧ w' = w := by
  have hc : ∀ i, i < 2 → w.cell? (A1.add i) = some (.int .i64 (if i = 0 then a else b)) := fun i hi => by
    match i, hi with
    | 0, _ => exact h0
    | 1, _ => exact h1
  have H1 := Lib.hid hc
  have HOR := Lib.hid (or_two a b)
  clear h0 h1 hc
  go_enter Try.func29, Try.ntmps29
  go_wp2_with fail
  go_loopw [8] (fun x8 wr => ∃ i : Nat, x8 = .int .i64 (i : Int) ∧ i ≤ 2 ∧ (0 < i → a = 0) ∧ (1 < i → b = 0) ∧ wr = w) (fun x8 _ => 2 - (intOf x8).toNat)
  case atStart => exact ⟨0, rfl, Nat.zero_le _, (fun h => absurd h (Nat.lt_irrefl 0)), (fun h => absurd h (by omega)), rfl⟩
  case round =>
    obtain ⟨i, rfl, hi, g0, g1, rfl⟩ := hrel
    have G0 := Lib.hid g0
    have G1 := Lib.hid g1
    clear g0 g1
    by_cases hlt : i < 2
    · have e1 := H1.out i hlt
      have hil : (i : Int) < 2 := by omega
      obtain ⟨x, hx⟩ : ∃ x, x = if i = 0 then a else b := ⟨_, rfl⟩
      rw [← hx] at e1
      have HX := Lib.hid hx
      clear hx
      by_cases hz : x = 0
      · subst hz
        go_wp2
        go_roundw
        case rel =>
          refine ⟨i + 1, by go_num, hlt, fun _ => ?_, fun h => ?_, trivial⟩
          · have h := HX.out
            by_cases e : i = 0
            · rw [if_pos e] at h; exact h.symm
            · exact G0.out (by omega)
          · have h2 := HX.out
            rw [if_neg (by omega)] at h2
            exact h2.symm
        case measure => simp [intOf]; omega
      · have hzb : (x != 0) = true := by simp [bne, hz]
        have HE : Hid (orL [a, b] = x) := by
          show _ = _
          rw [HOR.out]
          have h := HX.out
          by_cases e : i = 0
          · rw [if_pos e] at h
            rw [if_neg (by rw [← h]; exact hz)]
            exact h.symm
          · rw [if_neg e] at h
            rw [if_pos (G0.out (by omega))]
            exact h.symm
        go_wp2
        go_ret
        rw [HE.out]
        exact ⟨rfl, rfl⟩
    · obtain rfl : i = 2 := by omega
      have HE : Hid (orL [a, b] = 0) := by
        show _ = _
        rw [HOR.out, if_pos (G0.out (by omega))]
        exact G1.out (by omega)
      go_wp2
      go_ret
      rw [HE.out]
      exact ⟨rfl, rfl⟩

/-- Compare's answer out of the two answers, in whatever world the row is laid. -/
theorem or_row9 (a b : Int) (w : World) : Calls Try.prog 29 #[.slice (some ⟨w.heap.size, 0, none⟩) 2 2] (w.alloc (.cells #[.int .i64 a, .int .i64 b] 3)) fun e w' => e = .returned (.int .i64 (orL [a, b])) ∧ w' = w.alloc (.cells #[.int .i64 a, .int .i64 b] 3) := by
  have hb := Box.new w 3 #[.int .i64 a, .int .i64 b]
  exact or_two9 a b ⟨w.heap.size, 0, none⟩ _ (hb.cell 0) (by rw [own_add]; exact hb.cell 1)

set_option maxHeartbeats 8000000 in
theorem compare_gr9 (p q : K9) (w : World) : Calls Try.prog 8 #[kv9 p, kv9 q] w fun e w' => e = .returned (.int .i64 (cmpK p q)) ∧ Gr w w' := by
  unfold kv9
  obtain ⟨w0, hw0⟩ : ∃ w0, w0 = (w.alloc (.cells #[.int .i64 p.h, sv9 p.a, sv9 p.b, sv9 p.c, sv9 p.d] 24)).alloc (.cells #[.int .i64 q.h, sv9 q.a, sv9 q.b, sv9 q.c, sv9 q.d] 24) := ⟨_, rfl⟩
  have HT0 : Hid (Gr w w0) := by rw [hw0]; exact ((Gr.refl w).alloc _).alloc _
  have hb1 : Box w0 w.heap.size 24 #[.int .i64 p.h, sv9 p.a, sv9 p.b, sv9 p.c, sv9 p.d] := by rw [hw0]; exact (Box.new w _ _).alloc _
  have hb2 : Box w0 (w.heap.size + 1) 24 #[.int .i64 q.h, sv9 q.a, sv9 q.b, sv9 q.c, sv9 q.d] := by
    rw [hw0]
    have h := Box.new (w.alloc (.cells #[.int .i64 p.h, sv9 p.a, sv9 p.b, sv9 p.c, sv9 p.d] 24)) 24 #[.int .i64 q.h, sv9 q.a, sv9 q.b, sv9 q.c, sv9 q.d]
    rw [World.size_alloc] at h
    exact h
  have H1 : Hid (∀ W, Gr w0 W → W.cell? ⟨w.heap.size, 0, none⟩ = some (.int .i64 p.h)) := fun W ht => (hb1.turn ht.turn (fun f => f)).cell 0
  have H2 : Hid (∀ W, Gr w0 W → W.cell? ⟨w.heap.size + 1, 0, none⟩ = some (.int .i64 q.h)) := fun W ht => (hb2.turn ht.turn (fun f => f)).cell 0
  have HD1 : Hid (∀ W, Gr w0 W → ∀ i, i < 4 → W.cell? ((⟨w.heap.size, 1, none⟩ : Addr).add i) = some (sv9 (p.dim i))) := fun W ht i hi => by
    have h := dim_cell (o := 1) (hb1.turn ht.turn (fun f => f)) key_cells i hi
    unfold Addr.add
    split
    · rename_i e; subst e; exact h
    · exact h
  have HD2 : Hid (∀ W, Gr w0 W → ∀ i, i < 4 → W.cell? ((⟨w.heap.size + 1, 1, none⟩ : Addr).add i) = some (sv9 (q.dim i))) := fun W ht i hi => by
    have h := dim_cell (o := 1) (hb2.turn ht.turn (fun f => f)) key_cells i hi
    unfold Addr.add
    split
    · rename_i e; subst e; exact h
    · exact h
  have HW := Lib.hid hw0
  have HC : Hid (∀ W, Gr w0 W → Calls Try.prog 31 #[.slice (some ⟨w.heap.size, 1, none⟩) 4 4, .slice (some ⟨w.heap.size + 1, 1, none⟩) 4 4] W fun e w' => e = .returned (.int .i64 (dimsC p q 4)) ∧ w' = W) := fun W ht => cmp_dims9 p q _ _ W (HD1.out W ht) (HD2.out W ht)
  have HN : Hid (∀ W, Calls Try.prog 30 #[.int .i64 p.h, .int .i64 q.h] W fun e w' => e = .returned (.int .i64 (cmpI p.h q.h)) ∧ w' = W) := fun W => cmp_num9 p.h q.h W
  have HO : Hid (∀ W : World, Calls Try.prog 29 #[.slice (some ⟨W.heap.size, 0, none⟩) 2 2] (W.alloc (.cells #[.int .i64 (cmpI p.h q.h), .int .i64 (dimsC p q 4)] 3)) fun e w' => e = .returned (.int .i64 (cmpK p q)) ∧ w' = W.alloc (.cells #[.int .i64 (cmpI p.h q.h), .int .i64 (dimsC p q 4)] 3)) := fun W => by
    have h := or_row9 (cmpI p.h q.h) (dimsC p q 4) W
    rwa [or_key] at h
  generalize cmpI p.h q.h = ca at *
  generalize dimsC p q 4 = cb at *
  generalize cmpK p q = cc at *
  clear hb1 hb2 hw0 HD1 HD2
  go_enter Try.func8, Try.ntmps8
  go_wp2_with fail
  rw [← HW.out]
  refine drawn_region (fun V => Gr w0 V) [] (by kernel_rfl) ?_
  have ht0 : Gr w0 (World.drew w0) := (Gr.refl w0).drew
  generalize World.drew w0 = wd at *
  have HD := Lib.hid ht0
  have hS0 := ht0
  clear ht0
  refine drawn_take 0 5 (.pointer (some ⟨w.heap.size, 0, none⟩)) rfl rfl (by kernel_rfl) (by kernel_rfl) (by kernel_rfl) (by kernel_rfl) (fun _ _ _ h => h) (by rfl) (by assumption) (by intro w hSw; obtain hS1 := hSw; go_simp) ?_
  try simp only [List.setIfInBounds_toArray, List.set_cons_zero, List.set_cons_succ]
  refine drawn_take 1 6 (.int .i64 p.h) rfl rfl (by kernel_rfl) (by kernel_rfl) (by kernel_rfl) (by kernel_rfl) (fun _ _ _ h => h) (by rfl) (by assumption) (by intro w hSw; have a0 := H1.out w hSw; go_simp) ?_
  try simp only [List.setIfInBounds_toArray, List.set_cons_zero, List.set_cons_succ]
  refine drawn_take 2 7 (.pointer (some ⟨w.heap.size + 1, 0, none⟩)) rfl rfl (by kernel_rfl) (by kernel_rfl) (by kernel_rfl) (by kernel_rfl) (fun _ _ _ h => h) (by rfl) (by assumption) (by intro w hSw; obtain hS1 := hSw; go_simp) ?_
  try simp only [List.setIfInBounds_toArray, List.set_cons_zero, List.set_cons_succ]
  refine drawn_take 3 8 (.int .i64 q.h) rfl rfl (by kernel_rfl) (by kernel_rfl) (by kernel_rfl) (by kernel_rfl) (fun _ _ _ h => h) (by rfl) (by assumption) (by intro w hSw; have a0 := H2.out w hSw; go_simp) ?_
  try simp only [List.setIfInBounds_toArray, List.set_cons_zero, List.set_cons_succ]
  refine drawn_take 5 10 (.pointer (some ⟨w.heap.size, 1, none⟩)) rfl rfl (by kernel_rfl) (by kernel_rfl) (by kernel_rfl) (by kernel_rfl) (fun _ _ _ h => h) (by rfl) (by assumption) (by intro w hSw; obtain hS1 := hSw; go_simp) ?_
  try simp only [List.setIfInBounds_toArray, List.set_cons_zero, List.set_cons_succ]
  refine drawn_take 6 11 (.slice (some ⟨w.heap.size, 1, none⟩) 4 4) rfl rfl (by kernel_rfl) (by kernel_rfl) (by kernel_rfl) (by kernel_rfl) (fun _ _ _ h => h) (by rfl) (by assumption) (by intro w hSw; obtain hS1 := hSw; go_simp) ?_
  try simp only [List.setIfInBounds_toArray, List.set_cons_zero, List.set_cons_succ]
  refine drawn_take 7 12 (.pointer (some ⟨w.heap.size + 1, 1, none⟩)) rfl rfl (by kernel_rfl) (by kernel_rfl) (by kernel_rfl) (by kernel_rfl) (fun _ _ _ h => h) (by rfl) (by assumption) (by intro w hSw; obtain hS1 := hSw; go_simp) ?_
  try simp only [List.setIfInBounds_toArray, List.set_cons_zero, List.set_cons_succ]
  refine drawn_take 8 13 (.slice (some ⟨w.heap.size + 1, 1, none⟩) 4 4) rfl rfl (by kernel_rfl) (by kernel_rfl) (by kernel_rfl) (by kernel_rfl) (fun _ _ _ h => h) (by rfl) (by assumption) (by intro w hSw; obtain hS1 := hSw; go_simp) ?_
  try simp only [List.setIfInBounds_toArray, List.set_cons_zero, List.set_cons_succ]
  refine drawn_any [4] (by kernel_rfl) (by simp) ?_
  refine drawn_cons rfl (fun K hK => ?_) drawn_nil
  go_simp
  refine (HN.out wd).mono ?_
  rintro e w2 ⟨rfl, rfl⟩
  refine hK.out _ _ _ hS0 ?_
  clear hK K
  try simp only [List.setIfInBounds_toArray, List.set_cons_zero, List.set_cons_succ]
  refine drawn_any [9] (by kernel_rfl) (by simp) ?_
  refine drawn_cons rfl (fun K hK => ?_) drawn_nil
  go_simp
  refine (HC.out _ hS0).mono ?_
  rintro e w3 ⟨rfl, rfl⟩
  refine hK.out _ _ _ hS0 ?_
  clear hK K
  try simp only [List.setIfInBounds_toArray, List.set_cons_zero, List.set_cons_succ]
  refine drawn_any [10] (by kernel_rfl) (by simp) ?_
  refine drawn_cons rfl (fun K hK => ?_) drawn_nil
  go_simp
  have hS4 := hS0.alloc (.cells #[.int .i64 ca, .int .i64 cb] 3)
  refine hK.out _ _ _ hS4 ?_
  clear hK K
  try simp only [List.setIfInBounds_toArray, List.set_cons_zero, List.set_cons_succ]
  refine drawn_any [11] (by kernel_rfl) (by simp) ?_
  refine drawn_cons rfl (fun K hK => ?_) drawn_nil
  go_simp
  refine (HO.out _).mono ?_
  rintro e w5 ⟨rfl, rfl⟩
  refine hK.out _ _ _ hS4 ?_
  clear hK K
  try simp only [List.setIfInBounds_toArray, List.set_cons_zero, List.set_cons_succ]
  refine drawn_last1 12 4 (.int .i64 cc) rfl rfl (by kernel_rfl) (by kernel_rfl) (by rfl) (by intro w; go_simp) hS4 ?_
  try simp only [List.setIfInBounds_toArray, List.set_cons_zero, List.set_cons_succ]
  have HF := Lib.hid (HT0.out.trans hS4)
  clear hS0 hS4
  go_wp2
  go_ret
  exact ⟨rfl, HF.out⟩

theorem compare_any9 (p q : K9) (w : World) : Calls Try.prog 8 #[kv9 p, kv9 q] w fun e w' => e = .returned (.int .i64 (cmpK p q)) ∧ Turn (fun _ => False) w w' :=
  (compare_gr9 p q w).mono fun _ _ h => ⟨h.1, h.2.turn⟩

end Go.Proofs.Ytejilonhdgfkbaa

/-
  Stage 9: the closure by which the program's Sort compares: the world has only grown.
-/
namespace Go.Proofs.Ytejilonhdgfkbaa
open Go.RowKit

set_option maxRecDepth 100000

/-- What the closure answers. -/
def factCmp (f g : F9) : Int := if cmpK f.k g.k = 0 then cmpI f.v g.v else cmpK f.k g.k
theorem fact_or (f g : F9) : orL [cmpK f.k g.k, cmpI f.v g.v] = factCmp f g := or_two _ _

set_option maxHeartbeats 8000000 in
theorem closure9 (f g : F9) (w : World) : Calls Try.prog 40 #[fv9 f, fv9 g] w fun e w' => e = .returned (.int .i64 (factCmp f g)) ∧ Gr w w' := by
  unfold fv9
  obtain ⟨w0, hw0⟩ : ∃ w0, w0 = (w.alloc (.cells #[.int .i64 f.k.h, sv9 f.k.a, sv9 f.k.b, sv9 f.k.c, sv9 f.k.d, .int .i64 f.v] 33)).alloc (.cells #[.int .i64 g.k.h, sv9 g.k.a, sv9 g.k.b, sv9 g.k.c, sv9 g.k.d, .int .i64 g.v] 33) := ⟨_, rfl⟩
  have HT0 : Hid (Gr w w0) := by rw [hw0]; exact ((Gr.refl w).alloc _).alloc _
  have hb1 : Box w0 w.heap.size 33 #[.int .i64 f.k.h, sv9 f.k.a, sv9 f.k.b, sv9 f.k.c, sv9 f.k.d, .int .i64 f.v] := by rw [hw0]; exact (Box.new w _ _).alloc _
  have hb2 : Box w0 (w.heap.size + 1) 33 #[.int .i64 g.k.h, sv9 g.k.a, sv9 g.k.b, sv9 g.k.c, sv9 g.k.d, .int .i64 g.v] := by
    rw [hw0]
    have h := Box.new (w.alloc (.cells #[.int .i64 f.k.h, sv9 f.k.a, sv9 f.k.b, sv9 f.k.c, sv9 f.k.d, .int .i64 f.v] 33)) 33 #[.int .i64 g.k.h, sv9 g.k.a, sv9 g.k.b, sv9 g.k.c, sv9 g.k.d, .int .i64 g.v]
    rw [World.size_alloc] at h
    exact h
  have H1 : Hid (∀ W, Gr w0 W → (W.cell? ⟨w.heap.size, 0, none⟩ = some (.int .i64 f.k.h) ∧ W.cell? ⟨w.heap.size, 1, none⟩ = some (sv9 f.k.a) ∧ W.cell? ⟨w.heap.size, 2, none⟩ = some (sv9 f.k.b) ∧ W.cell? ⟨w.heap.size, 3, none⟩ = some (sv9 f.k.c) ∧ W.cell? ⟨w.heap.size, 4, none⟩ = some (sv9 f.k.d) ∧ W.cell? ⟨w.heap.size, 5, none⟩ = some (.int .i64 f.v))) := fun W ht => by
    have h := hb1.turn ht.turn (fun f => f)
    exact ⟨h.cell 0, h.cell 1, h.cell 2, h.cell 3, h.cell 4, h.cell 5⟩
  have H2 : Hid (∀ W, Gr w0 W → (W.cell? ⟨w.heap.size + 1, 0, none⟩ = some (.int .i64 g.k.h) ∧ W.cell? ⟨w.heap.size + 1, 1, none⟩ = some (sv9 g.k.a) ∧ W.cell? ⟨w.heap.size + 1, 2, none⟩ = some (sv9 g.k.b) ∧ W.cell? ⟨w.heap.size + 1, 3, none⟩ = some (sv9 g.k.c) ∧ W.cell? ⟨w.heap.size + 1, 4, none⟩ = some (sv9 g.k.d) ∧ W.cell? ⟨w.heap.size + 1, 5, none⟩ = some (.int .i64 g.v))) := fun W ht => by
    have h := hb2.turn ht.turn (fun f => f)
    exact ⟨h.cell 0, h.cell 1, h.cell 2, h.cell 3, h.cell 4, h.cell 5⟩
  have HW := Lib.hid hw0
  have HC : Hid (∀ W, Calls Try.prog 8 #[.agg #[.int .i64 f.k.h, sv9 f.k.a, sv9 f.k.b, sv9 f.k.c, sv9 f.k.d], .agg #[.int .i64 g.k.h, sv9 g.k.a, sv9 g.k.b, sv9 g.k.c, sv9 g.k.d]] W fun e w' => e = .returned (.int .i64 (cmpK f.k g.k)) ∧ Gr W w') := fun W => compare_gr9 f.k g.k W
  have HN : Hid (∀ W, Calls Try.prog 30 #[.int .i64 f.v, .int .i64 g.v] W fun e w' => e = .returned (.int .i64 (cmpI f.v g.v)) ∧ w' = W) := fun W => cmp_num9 f.v g.v W
  have HO : Hid (∀ W : World, Calls Try.prog 29 #[.slice (some ⟨W.heap.size, 0, none⟩) 2 2] (W.alloc (.cells #[.int .i64 (cmpK f.k g.k), .int .i64 (cmpI f.v g.v)] 3)) fun e w' => e = .returned (.int .i64 (factCmp f g)) ∧ w' = W.alloc (.cells #[.int .i64 (cmpK f.k g.k), .int .i64 (cmpI f.v g.v)] 3)) := fun W => by
    have h := or_row9 (cmpK f.k g.k) (cmpI f.v g.v) W
    rwa [fact_or] at h
  generalize cmpK f.k g.k = ca at *
  generalize cmpI f.v g.v = cb at *
  generalize factCmp f g = cc at *
  clear hb1 hb2 hw0
  go_enter Try.func40, Try.ntmps40
  go_wp2_with fail
  rw [← HW.out]
  refine drawn_region (fun V => Gr w0 V) [] (by kernel_rfl) ?_
  have ht0 : Gr w0 (World.drew w0) := (Gr.refl w0).drew
  generalize World.drew w0 = wd at *
  have HD := Lib.hid ht0
  have hS0 := ht0
  clear ht0
  refine drawn_take 0 5 (.pointer (some ⟨w.heap.size, 0, none⟩)) rfl rfl (by kernel_rfl) (by kernel_rfl) (by kernel_rfl) (by kernel_rfl) (fun _ _ _ h => h) (by rfl) (by assumption) (by intro w hSw; obtain hS1 := hSw; go_simp) ?_
  try simp only [List.setIfInBounds_toArray, List.set_cons_zero, List.set_cons_succ]
  refine drawn_take 1 6 (.agg #[.int .i64 f.k.h, sv9 f.k.a, sv9 f.k.b, sv9 f.k.c, sv9 f.k.d]) rfl rfl (by kernel_rfl) (by kernel_rfl) (by kernel_rfl) (by kernel_rfl) (fun _ _ _ h => h) (by rfl) (by assumption) (by intro w hSw; obtain ⟨a0, a1, a2, a3, a4, a5⟩ := H1.out w hSw; go_simp) ?_
  try simp only [List.setIfInBounds_toArray, List.set_cons_zero, List.set_cons_succ]
  refine drawn_take 2 7 (.pointer (some ⟨w.heap.size + 1, 0, none⟩)) rfl rfl (by kernel_rfl) (by kernel_rfl) (by kernel_rfl) (by kernel_rfl) (fun _ _ _ h => h) (by rfl) (by assumption) (by intro w hSw; obtain hS1 := hSw; go_simp) ?_
  try simp only [List.setIfInBounds_toArray, List.set_cons_zero, List.set_cons_succ]
  refine drawn_take 3 8 (.agg #[.int .i64 g.k.h, sv9 g.k.a, sv9 g.k.b, sv9 g.k.c, sv9 g.k.d]) rfl rfl (by kernel_rfl) (by kernel_rfl) (by kernel_rfl) (by kernel_rfl) (fun _ _ _ h => h) (by rfl) (by assumption) (by intro w hSw; obtain ⟨a0, a1, a2, a3, a4, a5⟩ := H2.out w hSw; go_simp) ?_
  try simp only [List.setIfInBounds_toArray, List.set_cons_zero, List.set_cons_succ]
  refine drawn_take 5 10 (.pointer (some ⟨w.heap.size, 5, none⟩)) rfl rfl (by kernel_rfl) (by kernel_rfl) (by kernel_rfl) (by kernel_rfl) (fun _ _ _ h => h) (by rfl) (by assumption) (by intro w hSw; obtain hS1 := hSw; go_simp) ?_
  try simp only [List.setIfInBounds_toArray, List.set_cons_zero, List.set_cons_succ]
  refine drawn_take 6 11 (.int .i64 f.v) rfl rfl (by kernel_rfl) (by kernel_rfl) (by kernel_rfl) (by kernel_rfl) (fun _ _ _ h => h) (by rfl) (by assumption) (by intro w hSw; obtain ⟨a0, a1, a2, a3, a4, a5⟩ := H1.out w hSw; go_simp) ?_
  try simp only [List.setIfInBounds_toArray, List.set_cons_zero, List.set_cons_succ]
  refine drawn_take 7 12 (.pointer (some ⟨w.heap.size + 1, 5, none⟩)) rfl rfl (by kernel_rfl) (by kernel_rfl) (by kernel_rfl) (by kernel_rfl) (fun _ _ _ h => h) (by rfl) (by assumption) (by intro w hSw; obtain hS1 := hSw; go_simp) ?_
  try simp only [List.setIfInBounds_toArray, List.set_cons_zero, List.set_cons_succ]
  refine drawn_take 8 13 (.int .i64 g.v) rfl rfl (by kernel_rfl) (by kernel_rfl) (by kernel_rfl) (by kernel_rfl) (fun _ _ _ h => h) (by rfl) (by assumption) (by intro w hSw; obtain ⟨a0, a1, a2, a3, a4, a5⟩ := H2.out w hSw; go_simp) ?_
  try simp only [List.setIfInBounds_toArray, List.set_cons_zero, List.set_cons_succ]
  refine drawn_any [4] (by kernel_rfl) (by simp) ?_
  refine drawn_cons rfl (fun K hK => ?_) drawn_nil
  go_simp
  refine (HC.out wd).mono ?_
  rintro e w2 ⟨rfl, t2⟩
  have hS2 := hS0.trans t2
  refine hK.out _ _ _ hS2 ?_
  clear hK K t2 hS0
  try simp only [List.setIfInBounds_toArray, List.set_cons_zero, List.set_cons_succ]
  refine drawn_any [9] (by kernel_rfl) (by simp) ?_
  refine drawn_cons rfl (fun K hK => ?_) drawn_nil
  go_simp
  refine (HN.out _).mono ?_
  rintro e w3 ⟨rfl, rfl⟩
  refine hK.out _ _ _ hS2 ?_
  clear hK K
  try simp only [List.setIfInBounds_toArray, List.set_cons_zero, List.set_cons_succ]
  refine drawn_any [10] (by kernel_rfl) (by simp) ?_
  refine drawn_cons rfl (fun K hK => ?_) drawn_nil
  go_simp
  have hS4 := hS2.alloc (.cells #[.int .i64 ca, .int .i64 cb] 3)
  refine hK.out _ _ _ hS4 ?_
  clear hK K
  try simp only [List.setIfInBounds_toArray, List.set_cons_zero, List.set_cons_succ]
  refine drawn_any [11] (by kernel_rfl) (by simp) ?_
  refine drawn_cons rfl (fun K hK => ?_) drawn_nil
  go_simp
  refine (HO.out _).mono ?_
  rintro e w5 ⟨rfl, rfl⟩
  refine hK.out _ _ _ hS4 ?_
  clear hK K
  try simp only [List.setIfInBounds_toArray, List.set_cons_zero, List.set_cons_succ]
  refine drawn_last1 12 4 (.int .i64 cc) rfl rfl (by kernel_rfl) (by kernel_rfl) (by rfl) (by intro w; go_simp) hS4 ?_
  try simp only [List.setIfInBounds_toArray, List.set_cons_zero, List.set_cons_succ]
  have HF := Lib.hid (HT0.out.trans hS4)
  clear hS2 hS4
  go_wp2
  go_ret
  exact ⟨rfl, HF.out⟩

end Go.Proofs.Ytejilonhdgfkbaa

/-
  In a region that draws its order: 'append(append(append([]T{}, a...), x), b...)', whatever order its parts come in; slices cut at their front and tail. No type is named here.
-/
namespace Go.Proofs.Ytejilonhdgfkbaa
open Go.RowKit

section
variable {P : Program} {T : Type} {E : El T} {tS e : TypeId}
/-- A slice's tail, as it is cut. -/
def tailV (E : El T) (A : Option Addr) (n c i : Nat) : Value := .slice (if c = i then A else A.map (fun a => a.add (i * E.sz))) (n - i) (c - i)
theorem rd_tailV {w : World} {A : Option Addr} {n c i : Nat} {L : List T} (h : RdE E w (.slice A n c) L) (hi : i ≤ n) : RdE E w (tailV E A n c i) (L.drop i) := by
  have hf := h.fits
  unfold tailV
  by_cases hc : c = i
  · rw [if_pos hc]
    have e : L.drop i = [] := List.eq_nil_of_length_eq_zero (by rw [List.length_drop]; omega)
    rw [e, show n - i = 0 by omega, show c - i = 0 by omega]
    cases A with
    | none => exact RdE.nil w
    | some ad => exact RdE.none_left _ (by simp) w 0 (Nat.zero_le _)
  · rw [if_neg hc]
    cases A with
    | none => have := (hf.2.2.2 rfl); omega
    | some ad => exact h.back i hi
theorem run_tailV (ht : P.underlying tS = some (.slice e)) (hz : (P.info? e).map (·.size) = some E.sz) (A : Option Addr) (n c i : Nat) (hi : i ≤ n) (w : World) :
    (Instr.slice tS (.slice A n c) (some (.int .i64 (i : Int))) none none).run P w = .ok (tailV E A n c i) w := by
  obtain ⟨j, hj, hz⟩ := Option.map_eq_some_iff.1 hz
  unfold tailV
  rw [← hz]
  simp [Instr.slice, Instr.sliceBounds, Instr.sliceBound, asIntOf, run_underlying ht, sizeOf, typeInfo, hj]
  intro h
  omega
theorem run_frontV (ht : P.underlying tS = some (.slice e)) (hz : (P.info? e).map (·.size) = some E.sz) (A : Option Addr) (n c i : Nat) (hi : i ≤ c) (w : World) :
    (Instr.slice tS (.slice A n c) none (some (.int .i64 (i : Int))) none).run P w = .ok (.slice A i c) w := by
  obtain ⟨j, hj, hz⟩ := Option.map_eq_some_iff.1 hz
  cases A
  all_goals
    simp [Instr.slice, Instr.sliceBounds, Instr.sliceBound, asIntOf, run_underlying ht, sizeOf, typeInfo, hj, Addr.add]
    intro h
    omega
theorem exec_tail {o : Oper} {a : Act} {xo ko : Operand} {A : Option Addr} {n c i : Nat} (ho : o.op = .slice tS xo (some ko) none none) (hx : a.eval xo = .slice A n c) (hk : a.eval ko = .int .i64 (i : Int)) (ht : P.underlying tS = some (.slice e)) (hz : (P.info? e).map (·.size) = some E.sz) (hi : i ≤ n) (w : World) :
    (execOp a.eval o).run P w = .ok (.value (tailV E A n c i)) w := by
  unfold execOp
  simp [ho, hx, hk, Instr.sliceAt, run_underlying ht, run_tailV (E := E) ht hz A n c i hi w]
theorem exec_front {o : Oper} {a : Act} {xo ko : Operand} {A : Option Addr} {n c i : Nat} (ho : o.op = .slice tS xo none (some ko) none) (hx : a.eval xo = .slice A n c) (hk : a.eval ko = .int .i64 (i : Int)) (ht : P.underlying tS = some (.slice e)) (hz : (P.info? e).map (·.size) = some E.sz) (hi : i ≤ c) (w : World) :
    (execOp a.eval o).run P w = .ok (.value (.slice A i c)) w := by
  unfold execOp
  simp [ho, hx, hk, Instr.sliceAt, run_underlying ht, run_frontV (E := E) ht hz A n c i hi w]
/-- append onto a row of one's own. -/
theorem run_appE {z : Value} {by' : Nat} (ht : P.underlying tS = some (.slice e)) (hi0 : (P.info? e).map (fun i => (i.zero, i.size, i.bytes)) = some (some z, E.sz, by')) (hz : z.cells.size = E.sz) (hby : by' ≤ 1000) (w : World) (ty : TypeId) (v : Value) (l : List T) (hown : OwE E e w v l)
    (y : Value) (m : List T) (hy : RdE E w y m) (hl : l.length + m.length ≤ 3000000) :
    ∃ A n c w', (Builtin.append_ #[tS, tS] ty #[v, y]).run P w = .ok (.slice A n c) w' ∧ OwE E e w' (.slice A n c) (l ++ m) ∧ Turn (fun k => v.ownBlock = some k) w w' ∧ ((Value.slice A n c).ownBlock = v.ownBlock ∨ (Value.slice A n c).ownBlock = some w.heap.size) := by
  obtain ⟨i, hi, hz0, h1, h2⟩ := info_parts hi0
  have hsrc := hy.src (P := P) ht
  unfold OwE at hown
  rw [← h1] at hown hsrc
  obtain ⟨A, n, c, w', hr, g1, g2, g3⟩ := run_app (P := P) w tS tS ty e i z ht hi hz0 (by rw [h1]; exact hz) v l.length _ hown y m.length _ hsrc (by simp only [maxLen]; omega) (by rw [h2]; exact Nat.le_trans (Nat.mul_le_mul hl hby) (by omega))
  refine ⟨A, n, c, w', hr, ?_, (Turn.refl _ w).grown g2 (fun k _ e => e), g3⟩
  unfold OwE
  rw [List.length_append, E.flat_append, ← h1]
  exact g1
end

section
variable {P : Program} {ops : Array Oper} {Q : Exit → Act → World → Prop} {S : World → Prop} {zs : List Nat}
theorem slot_ne {ts : Array Value} {d k : Nat} {v : Value} (h : d ≠ k) : (ts.setIfInBounds d v).getD k undef = ts.getD k undef := by
  simp [Array.getD_eq_getD_getElem?, Array.getElem?_setIfInBounds_ne h]
theorem slot_eq {ts : Array Value} {d : Nat} {v : Value} (h : d < ts.size) : (ts.setIfInBounds d v).getD d undef = v := by
  simp [Array.getD_eq_getD_getElem?, h]
/-- One that yields a value, in some world. -/
theorem drawn_does {fuel : Nat} {listed : Array Bool} {ts : Array Value} {ds : List Deferred} {w : World} {i d : Nat} {o : Oper} {rs : List Nat} (R : Value → World → Prop) (ho : nthL ops.toList i = some o) (hg : o.guard = none) (hd : o.dst = some d)
    (hr : ∃ v w', (execOp ({ tmps := ts, defers := ds } : Act).eval o).run P w = .ok (.value v) w' ∧ R v w')
    (h : ∀ v w', R v w' → S w' ∧ Drawn P ops Q S zs fuel (listed.setIfInBounds i true) (ts.setIfInBounds d v) ds w')
    (hs : DrawnAll P ops Q S zs fuel listed ts ds w rs) : DrawnAll P ops Q S zs fuel listed ts ds w (i :: rs) :=
  drawn_cons ho (fun K hK => by
    rw [if_pos (by simp [Region.wanted, hg])]
    obtain ⟨v, w', hrun, hR⟩ := hr
    unfold Oper.wp
    rw [hrun]
    show K (({ tmps := ts, defers := ds } : Act).put o.dst v) w'
    rw [hd]
    obtain ⟨h1, h2⟩ := h v w' hR
    exact hK.out _ _ _ h1 h2) hs
variable {T : Type} {E : El T} {tS e : TypeId}
theorem app_does {z : Value} {by' : Nat} (ht : P.underlying tS = some (.slice e)) (hi0 : (P.info? e).map (fun i => (i.zero, i.size, i.bytes)) = some (some z, E.sz, by')) (hz : z.cells.size = E.sz) (hby : by' ≤ 1000)
    {w0 w : World} {a : Act} {o : Oper} {s x : Operand} (ho : o.op = .call { callee := .builtin .append, args := #[s, x], argTypes := #[tS, tS] }) {v y : Value} {l m : List T} (hs : a.eval s = v) (hx : a.eval x = y) (hn : NewE E e w0 w v l) (hy : RdE E w y m) (hl : l.length + m.length ≤ 3000000) :
    ∃ u w', (execOp a.eval o).run P w = .ok (.value u) w' ∧ NewE E e w0 w' u (l ++ m) ∧ Turn (fun k => v.ownBlock = some k) w w' := by
  obtain ⟨A, n, c, w', hr, g1, g2, g3⟩ := run_appE (P := P) ht hi0 hz hby w o.type v l hn.own y m hy hl
  refine ⟨_, w', ?_, hn.step g1 g2 g3, g2⟩
  unfold execOp
  simp only [ho, resolve, invoke, builtin, Sem.run_bind, Sem.run_pure, Result.andThen_ok, List.map_toArray, List.map_cons, List.map_nil, hs, hx, hr]

/-- append(append(append([]T{}, a...), x), b...): all that is read lies in slots; whatever order the rest comes in. -/
theorem drawn_ins {z : Value} {by' : Nat} (ht : P.underlying tS = some (.slice e)) (hi0 : (P.info? e).map (fun i => (i.zero, i.size, i.bytes)) = some (some z, E.sz, by')) (hz : z.cells.size = E.sz) (hby : by' ≤ 1000)
    {w0 : World} (HS : ∀ W, Turn (fun _ => False) w0 W → S W) (ie i1 ix i2 i3 de d1 dx d2 d3 kf kx kt : Nat) {oe o1 ox o2 o3 : Oper}
    (he : nthL ops.toList ie = some oe) (ge : oe.guard = none) (te : oe.dst = some de) (pe : oe.op = .buildSlice tS 0 #[])
    (h1 : nthL ops.toList i1 = some o1) (g1 : o1.guard = none) (t1 : o1.dst = some d1) (p1 : o1.op = .call { callee := .builtin .append, args := #[.tmp de, .tmp kf], argTypes := #[tS, tS] })
    (hx : nthL ops.toList ix = some ox) (gx : ox.guard = none) (tx : ox.dst = some dx) (px : ox.op = .buildSlice tS 1 #[(0, .tmp kx)])
    (h2 : nthL ops.toList i2 = some o2) (g2 : o2.guard = none) (t2 : o2.dst = some d2) (p2 : o2.op = .call { callee := .builtin .append, args := #[.tmp d1, .tmp dx], argTypes := #[tS, tS] })
    (h3 : nthL ops.toList i3 = some o3) (g3 : o3.guard = none) (t3 : o3.dst = some d3) (p3 : o3.op = .call { callee := .builtin .append, args := #[.tmp d2, .tmp kt], argTypes := #[tS, tS] })
    {fuel : Nat} {listed : Array Bool} {ts : Array Value} {ds : List Deferred} {w : World}
    (r0 : Region.ready .any ops listed = [ie, ix]) (re : Region.ready .any ops (listed.setIfInBounds ie true) = [i1, ix]) (re1 : Region.ready .any ops ((listed.setIfInBounds ie true).setIfInBounds i1 true) = [ix])
    (rex : Region.ready .any ops ((listed.setIfInBounds ie true).setIfInBounds ix true) = [i1]) (rx : Region.ready .any ops (listed.setIfInBounds ix true) = [ie])
    (r3 : Region.ready .any ops (((listed.setIfInBounds ie true).setIfInBounds i1 true).setIfInBounds ix true) = [i2]) (r4 : Region.ready .any ops ((((listed.setIfInBounds ie true).setIfInBounds i1 true).setIfInBounds ix true).setIfInBounds i2 true) = [i3])
    (hd : (ie ≠ i1 ∧ ie ≠ ix ∧ i1 ≠ ix) ∧ (de ≠ d1 ∧ de ≠ dx ∧ d1 ≠ dx ∧ de ≠ kf ∧ de ≠ kx ∧ dx ≠ kf ∧ d1 ≠ kx) ∧ (de ≠ kt ∧ d1 ≠ kt ∧ dx ≠ kt ∧ d2 ≠ kt) ∧ de < ts.size ∧ d1 < ts.size ∧ dx < ts.size ∧ d2 < ts.size)
    {vf vt xv : Value} {l1 l3 : List T} {x : T} (kf' : ts.getD kf undef = vf) (kt' : ts.getD kt undef = vt) (kx' : ts.getD kx undef = xv)
    (HF : ∀ W, Turn (fun _ => False) w0 W → RdE E W vf l1) (HT : ∀ W, Turn (fun _ => False) w0 W → RdE E W vt l3) (hl : l1.length + l3.length ≤ 2000000)
    (hE : ∀ W, (Instr.buildSlice tS 0 #[]).run P W = .ok (.slice (some ⟨W.heap.size, 0, none⟩) 0 0) (W.alloc (.cells #[] e)))
    (hX : ∀ W, (Instr.buildSlice tS 1 #[(0, xv)]).run P W = .ok (.slice (some ⟨W.heap.size, 0, none⟩) 1 1) (W.alloc (.cells (E.enc x).toArray e)))
    (hw : Turn (fun _ => False) w0 w)
    (h : ∀ W v a b c d, NewE E e w0 W v (l1 ++ x :: l3) → Drawn P ops Q S zs fuel (((((listed.setIfInBounds ie true).setIfInBounds i1 true).setIfInBounds ix true).setIfInBounds i2 true).setIfInBounds i3 true) (((((ts.setIfInBounds de a).setIfInBounds d1 b).setIfInBounds dx c).setIfInBounds d2 d).setIfInBounds d3 v) ds W) :
    Drawn P ops Q S zs (fuel + 5) listed ts ds w := by
  obtain ⟨⟨n1, n2, n3⟩, ⟨m1, m2, m3, m4, m5, m6, m7⟩, ⟨q1, q2, q3, q4⟩, s1, s2, s3, s4⟩ := hd
  have EE : ∀ (ts : Array Value) W, ∃ v w', (execOp ({ tmps := ts, defers := ds } : Act).eval oe).run P W = .ok (.value v) w' ∧ (v = .slice (some ⟨W.heap.size, 0, none⟩) 0 0 ∧ w' = W.alloc (.cells #[] e)) := fun ts W =>
    ⟨_, _, by unfold execOp; simp [pe, hE], rfl, rfl⟩
  have EX : ∀ (ts : Array Value) W, ts.getD kx undef = xv → ∃ v w', (execOp ({ tmps := ts, defers := ds } : Act).eval ox).run P W = .ok (.value v) w' ∧ (v = .slice (some ⟨W.heap.size, 0, none⟩) 1 1 ∧ w' = W.alloc (.cells (E.enc x).toArray e)) := fun ts W hk =>
    ⟨_, _, by rw [Array.getD_eq_getD_getElem?] at hk; unfold execOp; simp [px, Act.eval, hk, hX], rfl, rfl⟩
  have tail : ∀ (W : World) (a b c : Value), NewE E e w0 W b l1 → RdE E W c [x] →
      Drawn P ops Q S zs (fuel + 2) (((listed.setIfInBounds ie true).setIfInBounds i1 true).setIfInBounds ix true) (((ts.setIfInBounds de a).setIfInBounds d1 b).setIfInBounds dx c) ds W := fun W a b c hn hc => by
    refine drawn_any [i2] r3 (by simp) (drawn_does (fun u w' => NewE E e w0 w' u (l1 ++ [x])) h2 g2 t2 ?_ (fun u w' hu => ⟨HS _ hu.turn, ?_⟩) drawn_nil)
    · obtain ⟨u, w', e1, e2, -⟩ := app_does (P := P) ht hi0 hz hby (a := ({ tmps := ((ts.setIfInBounds de a).setIfInBounds d1 b).setIfInBounds dx c, defers := ds } : Act)) p2 (v := b) (y := c) (by simp only [Act.eval]; rw [slot_ne (Ne.symm m3), slot_eq (by simpa using s2)]) (by simp only [Act.eval]; rw [slot_eq (by simpa using s3)]) hn hc (by simp; omega)
      exact ⟨u, w', e1, e2⟩
    · refine drawn_any [i3] r4 (by simp) (drawn_does (fun v w' => NewE E e w0 w' v (l1 ++ x :: l3)) h3 g3 t3 ?_ (fun v w' hv => ⟨HS _ hv.turn, h w' v a b c u hv⟩) drawn_nil)
      obtain ⟨v, w'', e1, e2, -⟩ := app_does (P := P) ht hi0 hz hby (a := ({ tmps := (((ts.setIfInBounds de a).setIfInBounds d1 b).setIfInBounds dx c).setIfInBounds d2 u, defers := ds } : Act)) p3 (v := u) (y := vt) (by simp only [Act.eval]; rw [slot_eq (by simpa using s4)]) (by simp only [Act.eval]; rw [slot_ne q4, slot_ne q3, slot_ne q2, slot_ne q1, kt']) hu (HT _ hu.turn) (by simp; omega)
      exact ⟨v, w'', e1, by simpa using e2⟩
  refine drawn_any [ie, ix] r0 (by simp) (drawn_does (fun v w' => v = .slice (some ⟨w.heap.size, 0, none⟩) 0 0 ∧ w' = w.alloc (.cells #[] e)) he ge te (EE ts w) ?_ (drawn_does (fun v w' => v = .slice (some ⟨w.heap.size, 0, none⟩) 1 1 ∧ w' = w.alloc (.cells (E.enc x).toArray e)) hx gx tx (EX ts w kx') ?_ drawn_nil))
  · rintro v w' ⟨rfl, rfl⟩
    have hn := NewE.empty (E := E) (e := e) w0 w hw
    refine ⟨HS _ hn.turn, drawn_any [i1, ix] re (by simp) (drawn_does (fun u w' => NewE E e w0 w' u l1) h1 g1 t1 ?_ (fun u w' hu => ⟨HS _ hu.turn, ?_⟩) (drawn_does (fun v w' => v = .slice (some ⟨(w.alloc (.cells #[] e)).heap.size, 0, none⟩) 1 1 ∧ w' = (w.alloc (.cells #[] e)).alloc (.cells (E.enc x).toArray e)) hx gx tx (EX _ _ (by rw [slot_ne m5, kx'])) ?_ drawn_nil))⟩
    · obtain ⟨u, w', e1, e2, -⟩ := app_does (P := P) ht hi0 hz hby (a := ({ tmps := ts.setIfInBounds de (.slice (some ⟨w.heap.size, 0, none⟩) 0 0), defers := ds } : Act)) p1 (y := vf) (by simp only [Act.eval]; rw [slot_eq s1]) (by simp only [Act.eval]; rw [slot_ne m4, kf']) hn (HF _ hn.turn) (by simp; omega)
      exact ⟨u, w', e1, by simpa using e2⟩
    · refine drawn_any [ix] re1 (by simp) (drawn_does (fun v w2 => v = .slice (some ⟨w'.heap.size, 0, none⟩) 1 1 ∧ w2 = w'.alloc (.cells (E.enc x).toArray e)) hx gx tx (EX _ _ (by rw [slot_ne m7, slot_ne m5, kx'])) ?_ drawn_nil)
      rintro v w2 ⟨rfl, rfl⟩
      exact ⟨HS _ (hu.alloc _).turn, tail _ _ _ _ (hu.alloc _) (one_row E e w' x)⟩
    · rintro v w2 ⟨rfl, rfl⟩
      have hn2 := hn.alloc (.cells (E.enc x).toArray e)
      have hr := one_row E e (w.alloc (.cells #[] e)) x
      refine ⟨HS _ hn2.turn, drawn_any [i1] rex (by simp) (drawn_does (fun u w3 => NewE E e w0 w3 u l1 ∧ RdE E w3 (.slice (some ⟨(w.alloc (.cells #[] e)).heap.size, 0, none⟩) 1 1) [x]) h1 g1 t1 ?_ (fun u w3 hu => ⟨HS _ hu.1.turn, ?_⟩) drawn_nil)⟩
      · obtain ⟨u, w3, e1, e2, e3⟩ := app_does (P := P) ht hi0 hz hby (a := ({ tmps := (ts.setIfInBounds de (.slice (some ⟨w.heap.size, 0, none⟩) 0 0)).setIfInBounds dx (.slice (some ⟨(w.alloc (.cells #[] e)).heap.size, 0, none⟩) 1 1), defers := ds } : Act)) p1 (v := .slice (some ⟨w.heap.size, 0, none⟩) 0 0) (y := vf) (by simp only [Act.eval]; rw [slot_ne (Ne.symm m2), slot_eq s1]) (by simp only [Act.eval]; rw [slot_ne m6, slot_ne m4, kf']) hn2 (HF _ hn2.turn) (by simp; omega)
        refine ⟨u, w3, e1, by simpa using e2, hr.turn e3 (fun k h1 h2 => ?_)⟩
        rw [World.size_alloc] at h1
        simp [Value.ownBlock] at h1 h2
        omega
      · rw [Array.setIfInBounds_comm _ _ (Ne.symm n3), Array.setIfInBounds_comm _ _ (Ne.symm m3)]
        exact tail _ _ _ _ hu.1 hu.2
  · rintro v w' ⟨rfl, rfl⟩
    have hr := one_row E e w x
    have hw1 : Turn (fun _ => False) w0 (w.alloc (.cells (E.enc x).toArray e)) := hw.alloc _
    refine ⟨HS _ hw1, drawn_any [ie] rx (by simp) (drawn_does (fun v w' => v = .slice (some ⟨(w.alloc (.cells (E.enc x).toArray e)).heap.size, 0, none⟩) 0 0 ∧ w' = (w.alloc (.cells (E.enc x).toArray e)).alloc (.cells #[] e)) he ge te (EE _ _) ?_ drawn_nil)⟩
    rintro v w2 ⟨rfl, rfl⟩
    have hn := NewE.empty (E := E) (e := e) w0 _ hw1
    have hr2 := hr.later ((Turn.refl _ (w.alloc (.cells (E.enc x).toArray e))).alloc (.cells #[] e))
    rw [Array.setIfInBounds_comm _ _ (Ne.symm n2), Array.setIfInBounds_comm _ _ (Ne.symm m2)]
    refine ⟨HS _ hn.turn, drawn_any [i1] rex (by simp) (drawn_does (fun u w3 => NewE E e w0 w3 u l1 ∧ RdE E w3 (.slice (some ⟨w.heap.size, 0, none⟩) 1 1) [x]) h1 g1 t1 ?_ (fun u w3 hu => ⟨HS _ hu.1.turn, ?_⟩) drawn_nil)⟩
    · obtain ⟨u, w3, e1, e2, e3⟩ := app_does (P := P) ht hi0 hz hby (a := ({ tmps := (ts.setIfInBounds de (.slice (some ⟨(w.alloc (.cells (E.enc x).toArray e)).heap.size, 0, none⟩) 0 0)).setIfInBounds dx (.slice (some ⟨w.heap.size, 0, none⟩) 1 1), defers := ds } : Act)) p1 (v := .slice (some ⟨(w.alloc (.cells (E.enc x).toArray e)).heap.size, 0, none⟩) 0 0) (y := vf) (by simp only [Act.eval]; rw [slot_ne (Ne.symm m2), slot_eq s1]) (by simp only [Act.eval]; rw [slot_ne m6, slot_ne m4, kf']) hn (HF _ hn.turn) (by simp; omega)
      refine ⟨u, w3, e1, by simpa using e2, hr2.turn e3 (fun k h1 h2 => ?_)⟩
      rw [World.size_alloc] at h2
      simp [Value.ownBlock] at h1 h2
      omega
    · rw [Array.setIfInBounds_comm _ _ (Ne.symm n3), Array.setIfInBounds_comm _ _ (Ne.symm m3)]
      exact tail _ _ _ _ hu.1 hu.2
end

end Go.Proofs.Ytejilonhdgfkbaa

/-
  Stage 9: the document's ahead and Sort.
-/
namespace Go.Proofs.Ytejilonhdgfkbaa
open Go.RowKit

set_option maxRecDepth 100000

set_option maxHeartbeats 4000000 in
theorem ref_ahead9 (f g : F9) (w : World) : Calls Try.prog 41 #[fv9 f, fv9 g] w fun e w' => e = .returned (.bool (factLt f g)) ∧ Turn (fun _ => False) w w' := by
  rw [factLt_iff]
  unfold fv9
  obtain ⟨w0, hw0⟩ : ∃ w0, w0 = (w.alloc (.cells #[.int .i64 f.k.h, sv9 f.k.a, sv9 f.k.b, sv9 f.k.c, sv9 f.k.d, .int .i64 f.v] 33)).alloc (.cells #[.int .i64 g.k.h, sv9 g.k.a, sv9 g.k.b, sv9 g.k.c, sv9 g.k.d, .int .i64 g.v] 33) := ⟨_, rfl⟩
  have HT0 : Hid (Turn (fun _ => False) w w0) := by rw [hw0]; exact ((Turn.refl _ w).alloc _).alloc _
  have hb1 : Box w0 w.heap.size 33 #[.int .i64 f.k.h, sv9 f.k.a, sv9 f.k.b, sv9 f.k.c, sv9 f.k.d, .int .i64 f.v] := by rw [hw0]; exact (Box.new w _ _).alloc _
  have hb2 : Box w0 (w.heap.size + 1) 33 #[.int .i64 g.k.h, sv9 g.k.a, sv9 g.k.b, sv9 g.k.c, sv9 g.k.d, .int .i64 g.v] := by
    rw [hw0]
    have h := Box.new (w.alloc (.cells #[.int .i64 f.k.h, sv9 f.k.a, sv9 f.k.b, sv9 f.k.c, sv9 f.k.d, .int .i64 f.v] 33)) 33 #[.int .i64 g.k.h, sv9 g.k.a, sv9 g.k.b, sv9 g.k.c, sv9 g.k.d, .int .i64 g.v]
    rw [World.size_alloc] at h
    exact h
  have HB1 := Lib.hid hb1
  have HB2 := Lib.hid hb2
  have c0 := hb1.cell 0
  have c1 := hb1.cell 1
  have c2 := hb1.cell 2
  have c3 := hb1.cell 3
  have c4 := hb1.cell 4
  have d0 := hb2.cell 0
  have d1 := hb2.cell 1
  have d2 := hb2.cell 2
  have d3 := hb2.cell 3
  have d4 := hb2.cell 4
  have HW := Lib.hid hw0
  have HCK := Lib.hid (ref_compare9 f.k g.k w0)
  clear hb1 hb2 hw0
  go_enter Try.func41, Try.ntmps41
  go_wp2_with fail
  rw [← HW.out]
  refine HCK.out.mono ?_
  rintro e w2 ⟨rfl, t2⟩
  have HT2 : Hid (Turn (fun _ => False) w w2) := HT0.out.trans t2 (fun _ _ f => f)
  have x5 := (HB1.out.turn t2 (fun f => f)).cell 5
  have y5 := (HB2.out.turn t2 (fun f => f)).cell 5
  clear t2 c0 c1 c2 c3 c4 d0 d1 d2 d3 d4
  have h3 : cmpK f.k g.k = -1 ∨ cmpK f.k g.k = 0 ∨ cmpK f.k g.k = 1 := by
    rcases cmpK_cases f.k g.k with ⟨_, h, _⟩ | ⟨_, h, _⟩ | ⟨_, h⟩ <;> omega
  generalize hcc : cmpK f.k g.k = cc at *
  have HCC := Lib.hid hcc
  clear hcc
  rcases h3 with rfl | rfl | rfl
  · go_wp2
    go_ret
    rw [HCC.out]
    exact ⟨rfl, HT2.out⟩
  · by_cases hv : f.v < g.v
    · go_wp2
      go_ret
      rw [HCC.out]
      exact ⟨by simp [hv], HT2.out⟩
    · go_wp2
      go_ret
      rw [HCC.out]
      exact ⟨by simp, HT2.out⟩
  · go_wp2
    go_ret
    rw [HCC.out]
    exact ⟨rfl, HT2.out⟩

/-- Where a fact is put, from the end. -/
def downF (f : F9) (l : List F9) : Nat → Nat
  | 0 => 0
  | k + 1 => match l[k]? with
    | some g => if factLt f g then downF f l k else k + 1
    | none => k + 1
def putF9 (f : F9) (l : List F9) : List F9 := l.take (downF f l l.length) ++ f :: l.drop (downF f l l.length)
def sortL (l : List F9) : List F9 := l.foldl (fun out f => putF9 f out) []
theorem downF_le (f : F9) (l : List F9) : ∀ k, downF f l k ≤ k
  | 0 => Nat.le_refl _
  | k + 1 => by
    unfold downF
    split
    · split
      · have := downF_le f l k; omega
      · exact Nat.le_refl _
    · exact Nat.le_refl _
theorem sort_take {l : List F9} {i : Nat} {f : F9} (h : l[i]? = some f) : sortL (l.take (i + 1)) = putF9 f (sortL (l.take i)) := by
  obtain ⟨h0, e⟩ := List.getElem?_eq_some_iff.1 h
  rw [List.take_succ_eq_append_getElem h0, e]
  unfold sortL
  rw [List.foldl_append]
  rfl
theorem putF9_len (f : F9) (l : List F9) : (putF9 f l).length = l.length + 1 := by
  unfold putF9
  rw [List.length_append, List.length_cons, List.length_take, List.length_drop]
  have := downF_le f l l.length
  omega
theorem sort_len (l : List F9) : ∀ i, (sortL (l.take i)).length ≤ i
  | 0 => by simp [sortL]
  | i + 1 => by
    have ih := sort_len l i
    cases h : l[i]? with
    | none => rw [List.take_of_length_le (by have := List.getElem?_eq_none_iff.1 h; omega)]; rw [List.take_of_length_le (by have := List.getElem?_eq_none_iff.1 h; omega)] at ih; omega
    | some f =>
      rw [sort_take h, putF9_len]
      omega

end Go.Proofs.Ytejilonhdgfkbaa

/-
  Stage 9: the document's Sort.
-/
namespace Go.Proofs.Ytejilonhdgfkbaa
open Go.RowKit

set_option maxRecDepth 100000

/-- Behind a list of facts laid in new memory. -/
def Facts9 (w : World) (l : List F9) (e : Ending) (w' : World) : Prop := ∃ v, e = .returned v ∧ RdE EF w' v l ∧ Turn (fun _ => False) w w'

set_option maxHeartbeats 8000000 in
theorem ref_sort9 (v : Value) (l : List F9) (w : World) (hv : RdE EF w v l) (hl : l.length ≤ 1000) : Calls Try.prog 23 #[v] w fun e w' => Facts9 w (sortL l) e w' := by
  have HV := Lib.hid hv
  obtain ⟨A, c, rfl⟩ := hv.shape
  clear hv
  have HN0 : Hid (RdE EF w (.slice none 0 0) (sortL (l.take 0)) ∧ Turn (fun _ => False) w w) := ⟨RdE.nil w, Turn.refl _ w⟩
  have hE : ∀ W, (Instr.buildSlice 28 0 #[]).run Try.prog W = .ok (.slice (some ⟨W.heap.size, 0, none⟩) 0 0) (W.alloc (.cells #[] 33)) := fun W => by go_simp
  have hX : ∀ (f : F9) W, (Instr.buildSlice 28 1 #[(0, fv9 f)]).run Try.prog W = .ok (.slice (some ⟨W.heap.size, 0, none⟩) 1 1) (W.alloc (.cells (EF.enc f).toArray 33)) := fun f W => by go_simp; rfl
  have HE := Lib.hid hE
  have HX := Lib.hid hX
  have hz : (Try.prog.info? 33).map (·.size) = some EF.sz := by kernel_rfl
  have HZ := Lib.hid hz
  clear hE hX hz
  go_enter Try.func23, Try.ntmps23
  go_wp2_with fail
  go_loopw [3, 4] (fun x3 x4 wr => ∃ i : Nat, x4 = .int .i64 (i : Int) ∧ i ≤ l.length ∧ RdE EF wr x3 (sortL (l.take i)) ∧ Turn (fun _ => False) w wr) (fun _ x4 _ => l.length - (intOf x4).toNat)
  case atStart => exact ⟨0, rfl, Nat.zero_le _, HN0.out⟩
  case round =>
    obtain ⟨i, rfl, hi, hm, ht⟩ := hrel
    have HM := Lib.hid hm
    have HT := Lib.hid ht
    have hln := sort_len l i
    by_cases hlt : i < l.length
    · obtain ⟨f, hf⟩ : ∃ f, l[i]? = some f := ⟨_, List.getElem?_eq_getElem hlt⟩
      obtain ⟨ad, rfl, hc⟩ := fact_at6 HV.out hf
      have HC : Hid (∀ W, Turn (fun _ => False) wr W → _) := fun W hw => hc W (ht.trans hw (fun _ _ f => f))
      have hil : (i : Int) < l.length := by omega
      have HTK := Lib.hid (sort_take hf)
      generalize hO : sortL (l.take i) = O at *
      obtain ⟨B, d, hv⟩ := hm.shape
      subst hv
      have hfit := hm.fits
      have hod : O.length ≤ d := hfit.2.1
      have HTW := Lib.hid hm
      clear hc hf hm ht hO hfit
      obtain ⟨wo, hwo⟩ : ∃ wo, wo = wr := ⟨_, rfl⟩
      subst hwo
      go_wp2_with fail
      go_loopw [5] (fun x5 wk => ∃ k : Nat, x5 = .int .i64 (k : Int) ∧ k ≤ O.length ∧ downF f O O.length = downF f O k ∧ Turn (fun _ => False) wo wk) (fun x5 _ => (intOf x5).toNat)
      case atStart => exact ⟨O.length, rfl, Nat.le_refl _, rfl, Turn.refl _ _⟩
      case round =>
        obtain ⟨k, rfl, hk, hd, htk⟩ := hrel
        have HD := Lib.hid hd
        have HTR := Lib.hid htk
        clear hd htk
        have HPUT : Hid (downF f O k = k → putF9 f O = O.take k ++ f :: O.drop k) := fun e => by unfold putF9; rw [HD.out, e]
        have hkd : k ≤ d := by omega
        by_cases hk0 : k = 0
        · have HDK : Hid (downF f O k = k) := by rw [hk0]; rfl
          have hk00 : decide (0 < k) = false := by simp [hk0]
          clear hk0
          go_wp2_with fail
          go_quiet (fail)
          go_wp2_with fail
          have htx : Turn (fun _ => False) wo (wr.drewN nq) := HTR.out.drewN _
          generalize wr.drewN nq = wx at *
          have HTX := Lib.hid htx
          clear htx
          refine drawn_region (fun W => Turn (fun _ => False) wo W) [] (by kernel_rfl) ?_
          have ht0 : Turn (fun _ => False) wo (World.drew wx) := HTX.out.drew
          generalize World.drew wx = wd at *
          have hS0 := ht0
          refine drawn_take 1 31 (.slice B O.length d) rfl rfl (by kernel_rfl) (by kernel_rfl) (by kernel_rfl) (by kernel_rfl) (fun _ _ _ h => h) (by rfl) (by assumption) (by intro w hSw; obtain hS1 := hSw; go_simp) ?_
          try simp only [List.setIfInBounds_toArray, List.set_cons_zero, List.set_cons_succ]
          refine drawn_take 2 32 (.int .i64 (k : Int)) rfl rfl (by kernel_rfl) (by kernel_rfl) (by kernel_rfl) (by kernel_rfl) (fun _ _ _ h => h) (by rfl) (by assumption) (by intro w hSw; obtain hS1 := hSw; go_simp) ?_
          try simp only [List.setIfInBounds_toArray, List.set_cons_zero, List.set_cons_succ]
          refine drawn_take 3 33 (.slice B k d) rfl rfl (by kernel_rfl) (by kernel_rfl) (by kernel_rfl) (by kernel_rfl) (fun _ _ _ h => h) (by rfl) (by assumption) (fun w _ => exec_front (E := EF) rfl rfl rfl Try.underlying28 HZ.out hkd w) ?_
          try simp only [List.setIfInBounds_toArray, List.set_cons_zero, List.set_cons_succ]
          refine drawn_take 5 35 (.slice (some ad) l.length c) rfl rfl (by kernel_rfl) (by kernel_rfl) (by kernel_rfl) (by kernel_rfl) (fun _ _ _ h => h) (by rfl) (by assumption) (by intro w hSw; obtain hS1 := hSw; go_simp) ?_
          try simp only [List.setIfInBounds_toArray, List.set_cons_zero, List.set_cons_succ]
          refine drawn_take 6 36 (.int .i64 (i : Int)) rfl rfl (by kernel_rfl) (by kernel_rfl) (by kernel_rfl) (by kernel_rfl) (fun _ _ _ h => h) (by rfl) (by assumption) (by intro w hSw; obtain hS1 := hSw; go_simp) ?_
          try simp only [List.setIfInBounds_toArray, List.set_cons_zero, List.set_cons_succ]
          refine drawn_take 7 37 (.pointer (some (ad.add (i * 6)))) rfl rfl (by kernel_rfl) (by kernel_rfl) (by kernel_rfl) (by kernel_rfl) (fun _ _ _ h => h) (by rfl) (by assumption) (by intro w hSw; obtain hS1 := hSw; go_simp) ?_
          try simp only [List.setIfInBounds_toArray, List.set_cons_zero, List.set_cons_succ]
          refine drawn_take 8 38 (fv9 f) rfl rfl (by kernel_rfl) (by kernel_rfl) (by kernel_rfl) (by kernel_rfl) (fun _ _ _ h => h) (by rfl) (by assumption) (by intro w hSw; obtain ⟨a0, a1, a2, a3, a4, a5⟩ := HC.out w hSw; go_simp) ?_
          try simp only [List.setIfInBounds_toArray, List.set_cons_zero, List.set_cons_succ]
          refine drawn_take 11 41 (.slice B O.length d) rfl rfl (by kernel_rfl) (by kernel_rfl) (by kernel_rfl) (by kernel_rfl) (fun _ _ _ h => h) (by rfl) (by assumption) (by intro w hSw; obtain hS1 := hSw; go_simp) ?_
          try simp only [List.setIfInBounds_toArray, List.set_cons_zero, List.set_cons_succ]
          refine drawn_take 12 42 (.int .i64 (k : Int)) rfl rfl (by kernel_rfl) (by kernel_rfl) (by kernel_rfl) (by kernel_rfl) (fun _ _ _ h => h) (by rfl) (by assumption) (by intro w hSw; obtain hS1 := hSw; go_simp) ?_
          try simp only [List.setIfInBounds_toArray, List.set_cons_zero, List.set_cons_succ]
          refine drawn_take 13 43 (tailV EF B O.length d k) rfl rfl (by kernel_rfl) (by kernel_rfl) (by kernel_rfl) (by kernel_rfl) (fun _ _ _ h => h) (by rfl) (by assumption) (fun w _ => exec_tail (E := EF) rfl rfl rfl Try.underlying28 HZ.out hk w) ?_
          try simp only [List.setIfInBounds_toArray, List.set_cons_zero, List.set_cons_succ]
          refine drawn_ins (E := EF) (l1 := O.take k) (l3 := O.drop k) (x := f) Try.underlying28 fact_info fact_zero (by omega) (fun W h => h) 0 4 9 10 14 30 34 39 40 44 33 38 43 rfl rfl rfl rfl rfl rfl rfl rfl rfl rfl rfl rfl rfl rfl rfl rfl rfl rfl rfl rfl
            (by kernel_rfl) (by kernel_rfl) (by kernel_rfl) (by kernel_rfl) (by kernel_rfl) (by kernel_rfl) (by kernel_rfl) (by simp) rfl rfl rfl (fun W ht => (HM.out.later ht).front k hk) (fun W ht => rd_tailV (HM.out.later ht) hk) (by simp; omega) HE.out (HX.out f) hS0 ?_
          intro W v a b c d hn
          try simp only [List.setIfInBounds_toArray, List.set_cons_zero, List.set_cons_succ]
          refine drawn_last1 15 3 v rfl rfl (by kernel_rfl) (by kernel_rfl) (by rfl) (by intro w; go_simp) hn.turn ?_
          try simp only [List.setIfInBounds_toArray, List.set_cons_zero, List.set_cons_succ]
          have HR3 : Hid (RdE EF W v (sortL (l.take (i + 1))) ∧ Turn (fun _ => False) w W) := ⟨by rw [HTK.out, HPUT.out HDK.out]; exact hn.own.rd, HT.out.trans hn.turn (fun _ _ f => f)⟩
          clear hn hS0 ht0
          go_wp2
          go_roundw
          case rel => exact ⟨i + 1, by go_num, hlt, HR3.out⟩
          case measure => simp [intOf]; omega
        · obtain ⟨m, hkm⟩ : ∃ m, k = m + 1 := ⟨k - 1, by omega⟩
          have hmO : m < O.length := by omega
          obtain ⟨y, hy⟩ : ∃ y, O[m]? = some y := ⟨_, List.getElem?_eq_getElem hmO⟩
          obtain ⟨bd, hB, hb⟩ := fact_at6 HM.out hy
          have HB : Hid (∀ W, Turn (fun _ => False) wo W → _) := hb
          have hmi : (m : Int) < O.length := by omega
          have hm0 : 0 < k := by omega
          have hwm : IntKind.i64.wrap (m : Int) = (m : Int) := IntWalk.i64_in _ (by omega)
          have hm1 : (k : Int) - 1 = (m : Int) := by omega
          have HKM := Lib.hid hkm
          clear hb hk0 hkm
          subst hB
          go_wp2_with fail
          refine drawn_region (fun W => Turn (fun _ => False) wo W) [] (by kernel_rfl) ?_
          have ht0 : Turn (fun _ => False) wo (World.drew wr) := HTR.out.drew
          generalize World.drew wr = wd at *
          have HT0 := Lib.hid ht0
          have hS0 := ht0
          refine drawn_take 0 14 (.int .i64 (k : Int)) rfl rfl (by kernel_rfl) (by kernel_rfl) (by kernel_rfl) (by kernel_rfl) (fun _ _ _ h => h) (by rfl) (by assumption) (by intro w hSw; obtain hS1 := hSw; go_simp) ?_
          try simp only [List.setIfInBounds_toArray, List.set_cons_zero, List.set_cons_succ]
          refine drawn_take 1 15 (.bool true) rfl rfl (by kernel_rfl) (by kernel_rfl) (by kernel_rfl) (by kernel_rfl) (fun _ _ _ h => h) (by rfl) (by assumption) (by intro w hSw; obtain hS1 := hSw; go_simp) ?_
          try simp only [List.setIfInBounds_toArray, List.set_cons_zero, List.set_cons_succ]
          refine drawn_take 2 16 (.bool true) rfl rfl (by kernel_rfl) (by kernel_rfl) (by kernel_rfl) (by kernel_rfl) (fun _ _ _ h => h) (by rfl) (by assumption) (by intro w hSw; obtain hS1 := hSw; go_simp) ?_
          try simp only [List.setIfInBounds_toArray, List.set_cons_zero, List.set_cons_succ]
          refine drawn_take 3 17 (.slice (some ad) l.length c) rfl rfl (by kernel_rfl) (by kernel_rfl) (by kernel_rfl) (by kernel_rfl) (fun _ _ _ h => h) (by rfl) (by assumption) (by intro w hSw; obtain hS1 := hSw; go_simp) ?_
          try simp only [List.setIfInBounds_toArray, List.set_cons_zero, List.set_cons_succ]
          refine drawn_take 4 18 (.int .i64 (i : Int)) rfl rfl (by kernel_rfl) (by kernel_rfl) (by kernel_rfl) (by kernel_rfl) (fun _ _ _ h => h) (by rfl) (by assumption) (by intro w hSw; obtain hS1 := hSw; go_simp) ?_
          try simp only [List.setIfInBounds_toArray, List.set_cons_zero, List.set_cons_succ]
          refine drawn_take 5 19 (.pointer (some (ad.add (i * 6)))) rfl rfl (by kernel_rfl) (by kernel_rfl) (by kernel_rfl) (by kernel_rfl) (fun _ _ _ h => h) (by rfl) (by assumption) (by intro w hSw; obtain hS1 := hSw; go_simp) ?_
          try simp only [List.setIfInBounds_toArray, List.set_cons_zero, List.set_cons_succ]
          refine drawn_take 6 20 (fv9 f) rfl rfl (by kernel_rfl) (by kernel_rfl) (by kernel_rfl) (by kernel_rfl) (fun _ _ _ h => h) (by rfl) (by assumption) (by intro w hSw; obtain ⟨a0, a1, a2, a3, a4, a5⟩ := HC.out w hSw; go_simp) ?_
          try simp only [List.setIfInBounds_toArray, List.set_cons_zero, List.set_cons_succ]
          refine drawn_take 7 21 (.slice (some bd) O.length d) rfl rfl (by kernel_rfl) (by kernel_rfl) (by kernel_rfl) (by kernel_rfl) (fun _ _ _ h => h) (by rfl) (by assumption) (by intro w hSw; obtain hS1 := hSw; go_simp) ?_
          try simp only [List.setIfInBounds_toArray, List.set_cons_zero, List.set_cons_succ]
          refine drawn_take 8 22 (.int .i64 (k : Int)) rfl rfl (by kernel_rfl) (by kernel_rfl) (by kernel_rfl) (by kernel_rfl) (fun _ _ _ h => h) (by rfl) (by assumption) (by intro w hSw; obtain hS1 := hSw; go_simp) ?_
          try simp only [List.setIfInBounds_toArray, List.set_cons_zero, List.set_cons_succ]
          refine drawn_take 9 23 (.int .i64 (m : Int)) rfl rfl (by kernel_rfl) (by kernel_rfl) (by kernel_rfl) (by kernel_rfl) (fun _ _ _ h => h) (by rfl) (by assumption) (by intro w hSw; obtain hS1 := hSw; go_simp) ?_
          try simp only [List.setIfInBounds_toArray, List.set_cons_zero, List.set_cons_succ]
          refine drawn_take 10 24 (.pointer (some (bd.add (m * 6)))) rfl rfl (by kernel_rfl) (by kernel_rfl) (by kernel_rfl) (by kernel_rfl) (fun _ _ _ h => h) (by rfl) (by assumption) (by intro w hSw; obtain hS1 := hSw; go_simp) ?_
          try simp only [List.setIfInBounds_toArray, List.set_cons_zero, List.set_cons_succ]
          refine drawn_take 11 25 (fv9 y) rfl rfl (by kernel_rfl) (by kernel_rfl) (by kernel_rfl) (by kernel_rfl) (fun _ _ _ h => h) (by rfl) (by assumption) (by intro w hSw; obtain ⟨a0, a1, a2, a3, a4, a5⟩ := HB.out w hSw; go_simp) ?_
          try simp only [List.setIfInBounds_toArray, List.set_cons_zero, List.set_cons_succ]
          refine drawn_any [12] (by kernel_rfl) (by simp) ?_
          refine drawn_cons rfl (fun K hK => ?_) drawn_nil
          go_simp
          have hah := ref_ahead9 f y wd
          by_cases hfy : factLt f y = true
          · rw [hfy] at hah
            refine hah.mono ?_
            rintro e w2 ⟨rfl, t2⟩
            have hS2 : Turn (fun _ => False) wo w2 := HT0.out.trans t2 (fun _ _ f => f)
            refine hK.out _ _ _ hS2 ?_
            clear hK K hS0 t2 hah
            have HTX := Lib.hid hS2
            try simp only [List.setIfInBounds_toArray, List.set_cons_zero, List.set_cons_succ]
            refine drawn_last1 13 27 (.bool true) rfl rfl (by kernel_rfl) (by kernel_rfl) (by rfl) (by intro w; go_simp) hS2 ?_
            try simp only [List.setIfInBounds_toArray, List.set_cons_zero, List.set_cons_succ]
            clear hS2 ht0
            have HD2 : Hid (downF f O O.length = downF f O m) := by
              refine HD.out.trans ?_
              rw [HKM.out]
              show (match O[m]? with | some g => if factLt f g then downF f O m else m + 1 | none => m + 1) = _
              rw [hy]
              simp [hfy]
            clear hy hfy
            go_wp2_with fail
            go_roundw
            case rel => exact ⟨m, by go_num, by omega, HD2.out, HTX.out⟩
            case measure => have := HKM.out; simp [intOf]; omega
          · have hfy' : factLt f y = false := by simpa using hfy
            rw [hfy'] at hah
            refine hah.mono ?_
            rintro e w2 ⟨rfl, t2⟩
            have hS2 : Turn (fun _ => False) wo w2 := HT0.out.trans t2 (fun _ _ f => f)
            refine hK.out _ _ _ hS2 ?_
            clear hK K hS0 t2 hah
            have HTX := Lib.hid hS2
            try simp only [List.setIfInBounds_toArray, List.set_cons_zero, List.set_cons_succ]
            refine drawn_last1 13 27 (.bool false) rfl rfl (by kernel_rfl) (by kernel_rfl) (by rfl) (by intro w; go_simp) hS2 ?_
            try simp only [List.setIfInBounds_toArray, List.set_cons_zero, List.set_cons_succ]
            clear hS2 ht0
            have HDK : Hid (downF f O k = k) := by
              rw [HKM.out]
              show (match O[m]? with | some g => if factLt f g then downF f O m else m + 1 | none => m + 1) = _
              rw [hy]
              simp [hfy]
            clear hy hfy
            go_wp2_with fail
            obtain ⟨wx, hwx⟩ : ∃ wx, wx = w2 := ⟨_, rfl⟩
            subst hwx
            obtain ⟨B, hB⟩ : ∃ B, B = some bd := ⟨_, rfl⟩
            rw [← hB] at HM ⊢
            refine drawn_region (fun W => Turn (fun _ => False) wo W) [] (by kernel_rfl) ?_
            have ht0 : Turn (fun _ => False) wo (World.drew wx) := HTX.out.drew
            generalize World.drew wx = wd at *
            have hS0 := ht0
            refine drawn_take 1 31 (.slice B O.length d) rfl rfl (by kernel_rfl) (by kernel_rfl) (by kernel_rfl) (by kernel_rfl) (fun _ _ _ h => h) (by rfl) (by assumption) (by intro w hSw; obtain hS1 := hSw; go_simp) ?_
            try simp only [List.setIfInBounds_toArray, List.set_cons_zero, List.set_cons_succ]
            refine drawn_take 2 32 (.int .i64 (k : Int)) rfl rfl (by kernel_rfl) (by kernel_rfl) (by kernel_rfl) (by kernel_rfl) (fun _ _ _ h => h) (by rfl) (by assumption) (by intro w hSw; obtain hS1 := hSw; go_simp) ?_
            try simp only [List.setIfInBounds_toArray, List.set_cons_zero, List.set_cons_succ]
            refine drawn_take 3 33 (.slice B k d) rfl rfl (by kernel_rfl) (by kernel_rfl) (by kernel_rfl) (by kernel_rfl) (fun _ _ _ h => h) (by rfl) (by assumption) (fun w _ => exec_front (E := EF) rfl rfl rfl Try.underlying28 HZ.out hkd w) ?_
            try simp only [List.setIfInBounds_toArray, List.set_cons_zero, List.set_cons_succ]
            refine drawn_take 5 35 (.slice (some ad) l.length c) rfl rfl (by kernel_rfl) (by kernel_rfl) (by kernel_rfl) (by kernel_rfl) (fun _ _ _ h => h) (by rfl) (by assumption) (by intro w hSw; obtain hS1 := hSw; go_simp) ?_
            try simp only [List.setIfInBounds_toArray, List.set_cons_zero, List.set_cons_succ]
            refine drawn_take 6 36 (.int .i64 (i : Int)) rfl rfl (by kernel_rfl) (by kernel_rfl) (by kernel_rfl) (by kernel_rfl) (fun _ _ _ h => h) (by rfl) (by assumption) (by intro w hSw; obtain hS1 := hSw; go_simp) ?_
            try simp only [List.setIfInBounds_toArray, List.set_cons_zero, List.set_cons_succ]
            refine drawn_take 7 37 (.pointer (some (ad.add (i * 6)))) rfl rfl (by kernel_rfl) (by kernel_rfl) (by kernel_rfl) (by kernel_rfl) (fun _ _ _ h => h) (by rfl) (by assumption) (by intro w hSw; obtain hS1 := hSw; go_simp) ?_
            try simp only [List.setIfInBounds_toArray, List.set_cons_zero, List.set_cons_succ]
            refine drawn_take 8 38 (fv9 f) rfl rfl (by kernel_rfl) (by kernel_rfl) (by kernel_rfl) (by kernel_rfl) (fun _ _ _ h => h) (by rfl) (by assumption) (by intro w hSw; obtain ⟨a0, a1, a2, a3, a4, a5⟩ := HC.out w hSw; go_simp) ?_
            try simp only [List.setIfInBounds_toArray, List.set_cons_zero, List.set_cons_succ]
            refine drawn_take 11 41 (.slice B O.length d) rfl rfl (by kernel_rfl) (by kernel_rfl) (by kernel_rfl) (by kernel_rfl) (fun _ _ _ h => h) (by rfl) (by assumption) (by intro w hSw; obtain hS1 := hSw; go_simp) ?_
            try simp only [List.setIfInBounds_toArray, List.set_cons_zero, List.set_cons_succ]
            refine drawn_take 12 42 (.int .i64 (k : Int)) rfl rfl (by kernel_rfl) (by kernel_rfl) (by kernel_rfl) (by kernel_rfl) (fun _ _ _ h => h) (by rfl) (by assumption) (by intro w hSw; obtain hS1 := hSw; go_simp) ?_
            try simp only [List.setIfInBounds_toArray, List.set_cons_zero, List.set_cons_succ]
            refine drawn_take 13 43 (tailV EF B O.length d k) rfl rfl (by kernel_rfl) (by kernel_rfl) (by kernel_rfl) (by kernel_rfl) (fun _ _ _ h => h) (by rfl) (by assumption) (fun w _ => exec_tail (E := EF) rfl rfl rfl Try.underlying28 HZ.out hk w) ?_
            try simp only [List.setIfInBounds_toArray, List.set_cons_zero, List.set_cons_succ]
            refine drawn_ins (E := EF) (l1 := O.take k) (l3 := O.drop k) (x := f) Try.underlying28 fact_info fact_zero (by omega) (fun W h => h) 0 4 9 10 14 30 34 39 40 44 33 38 43 rfl rfl rfl rfl rfl rfl rfl rfl rfl rfl rfl rfl rfl rfl rfl rfl rfl rfl rfl rfl
              (by kernel_rfl) (by kernel_rfl) (by kernel_rfl) (by kernel_rfl) (by kernel_rfl) (by kernel_rfl) (by kernel_rfl) (by simp) rfl rfl rfl (fun W ht => (HM.out.later ht).front k hk) (fun W ht => rd_tailV (HM.out.later ht) hk) (by simp; omega) HE.out (HX.out f) hS0 ?_
            intro W v a b c d hn
            try simp only [List.setIfInBounds_toArray, List.set_cons_zero, List.set_cons_succ]
            refine drawn_last1 15 3 v rfl rfl (by kernel_rfl) (by kernel_rfl) (by rfl) (by intro w; go_simp) hn.turn ?_
            try simp only [List.setIfInBounds_toArray, List.set_cons_zero, List.set_cons_succ]
            have HR3 : Hid (RdE EF W v (sortL (l.take (i + 1))) ∧ Turn (fun _ => False) w W) := ⟨by rw [HTK.out, HPUT.out HDK.out]; exact hn.own.rd, HT.out.trans hn.turn (fun _ _ f => f)⟩
            clear hn hS0 ht0
            go_wp2
            go_roundw
            case rel => exact ⟨i + 1, by go_num, hlt, HR3.out⟩
            case measure => simp [intOf]; omega
    · obtain rfl : i = l.length := by omega
      have HM2 := HM.out
      rw [List.take_length] at HM2
      go_wp2
      go_ret
      exact ⟨_, rfl, HM2, HT.out⟩

end Go.Proofs.Ytejilonhdgfkbaa
