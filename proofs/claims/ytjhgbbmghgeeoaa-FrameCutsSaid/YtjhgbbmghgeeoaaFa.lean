
/-
  Frames, on lists of bytes: what is taken of bytes, all frames with which bytes begin, and those that are left of cut ones.
-/
import Derived.Test.YtjhgbbmghgeeoaaOk
import Derived.Test.YtjhgbbmghgeeoaaCe
namespace Go.Proofs.Ytjhgbbmghgeeoaa
open Go.RowKit

theorem rdF_take : ∀ (g i acc : Nat) (l : List UInt8), rdF g i acc (l.take g) = rdF g i acc l
  | 0, _, _, _ => rfl
  | _ + 1, _, _, [] => rfl
  | g + 1, i, acc, b :: l => by
    rw [List.take_succ_cons]
    show (if 128 ≤ b.toNat then rdF g (i + 1) _ (l.take g) else _) = if 128 ≤ b.toNat then rdF g (i + 1) _ l else _
    rw [rdF_take g]
theorem rdNum_take (l : List UInt8) : rdNum (l.take 10) = rdNum l := rdF_take 10 0 0 l
theorem rdCount_take (most : Nat) (l : List UInt8) : rdCount most (l.take 10) = rdCount most l := by
  unfold rdCount
  rw [rdNum_take]

theorem rdF_long : ∀ (g i acc : Nat) (l : List UInt8), (rdF g i acc l).2.2 ≤ i + l.length
  | 0, i, _, _ => Nat.le_add_right _ _
  | _ + 1, i, _, [] => Nat.le_refl _
  | g + 1, i, acc, b :: l => by
    have h := rdF_long g (i + 1) (acc + (b.toNat - 128) * 128 ^ i) l
    show (if 128 ≤ b.toNat then _ else if _ then _ else _ : Nat × Nat × Nat).2.2 ≤ i + (l.length + 1)
    split
    · omega
    · split
      · show i + 1 ≤ _
        omega
      · show i + 1 ≤ _
        omega
theorem rdNum_long (l : List UInt8) : (rdNum l).2.2 ≤ l.length := by
  have := rdF_long 10 0 0 l
  unfold rdNum
  omega
theorem rdCount_at (most : Nat) (l : List UInt8) : (rdCount most l).2.2 = (rdNum l).2.2 := by
  unfold rdCount
  split
  · rfl
  · split <;> rfl
theorem rdNum_ten (l : List UInt8) : (rdNum l).2.2 ≤ 10 := by
  have := rdNum_long (l.take 10)
  rw [rdNum_take, List.length_take] at this
  omega

/-- What is read is just what would be put. -/
theorem rdF_canon : ∀ (g i acc : Nat) (l : List UInt8), (rdF g i acc l).2.1 = 0 →
    ∃ q, (rdF g i acc l).1 = acc + q * 128 ^ i ∧ (rdF g i acc l).2.2 = i + (encF (g - 1) q).length ∧ (0 < i → 0 < q)
  | 0, _, _, _, h => by cases h
  | _ + 1, _, _, [], h => by cases h
  | g + 1, i, acc, b :: l, h => by
    have e : rdF (g + 1) i acc (b :: l) = if 128 ≤ b.toNat then rdF g (i + 1) (acc + (b.toNat - 128) * 128 ^ i) l
      else if (0 < i ∧ b.toNat = 0) ∨ (i = 9 ∧ 1 < b.toNat) then (0, 4, i + 1) else (acc + b.toNat * 128 ^ i, 0, i + 1) := rfl
    rw [e] at h ⊢
    by_cases hb : 128 ≤ b.toNat
    · rw [if_pos hb] at h ⊢
      obtain ⟨q, h1, h2, h3⟩ := rdF_canon g (i + 1) _ l h
      have hq := h3 (by omega)
      have hlt : b.toNat < 256 := UInt8.toNat_lt b
      cases g with
      | zero => cases h
      | succ g =>
        refine ⟨b.toNat - 128 + q * 128, ?_, ?_, fun _ => by omega⟩
        · rw [h1, Nat.pow_succ, Nat.add_mul, Nat.mul_assoc q 128, Nat.mul_comm 128 (128 ^ i)]
          omega
        · have e2 : encF (g + 1) (b.toNat - 128 + q * 128) = mid (b.toNat - 128 + q * 128) :: encF g ((b.toNat - 128 + q * 128) / 128) := by
            show (if _ < 128 then _ else _) = _
            rw [if_neg (by omega)]
          show _ = i + (encF (g + 1) _).length
          rw [h2, e2, show (b.toNat - 128 + q * 128) / 128 = q by omega, List.length_cons]
          show i + 1 + (encF g q).length = _
          omega
    · rw [if_neg hb] at h ⊢
      by_cases hz : (0 < i ∧ b.toNat = 0) ∨ (i = 9 ∧ 1 < b.toNat)
      · rw [if_pos hz] at h
        cases h
      · rw [if_neg hz]
        refine ⟨b.toNat, rfl, ?_, fun hi => by omega⟩
        show i + 1 = i + (encF g b.toNat).length
        cases g with
        | zero => rfl
        | succ g =>
          have e2 : encF (g + 1) b.toNat = [low b.toNat] := by
            show (if _ < 128 then _ else _) = _
            rw [if_pos (by omega)]
          rw [e2]
          rfl
theorem rdNum_canon (l : List UInt8) (h : (rdNum l).2.1 = 0) : (rdNum l).2.2 = (enc (rdNum l).1).length := by
  obtain ⟨q, h1, h2, _⟩ := rdF_canon 10 0 0 l h
  have e : (rdNum l).1 = q := by
    show (rdF 10 0 0 l).1 = q
    rw [h1]
    simp
  rw [e]
  show (rdF 10 0 0 l).2.2 = _
  rw [h2]
  show 0 + (encF 9 q).length = (encF 9 q).length
  omega

theorem encF_ten : ∀ (g n : Nat), (encF g n).length ≤ g + 1
  | 0, n => Nat.le_refl _
  | g + 1, n => by
    show (if n < 128 then [low n] else mid n :: encF g (n / 128)).length ≤ _
    have := encF_ten g (n / 128)
    split
    · simp
    · rw [List.length_cons]
      omega
theorem enc_ten (n : Nat) : (enc n).length ≤ 10 := encF_ten 9 n

/-- How many bytes a frame has; a payload's frame. -/
def sz (n : Nat) : Nat := (enc n).length + n + 4
def fr (p : List UInt8) : List UInt8 := enc p.length ++ (p ++ tl (more 0 p))
theorem fr_len (p : List UInt8) : (fr p).length = sz p.length := by
  unfold fr sz
  rw [List.length_append, List.length_append, tl_len]
  omega
theorem sz_pos (n : Nat) : 5 ≤ sz n := by
  have := enc_pos n
  unfold sz
  omega

/-- The payload of the frame with which bytes begin, how many bytes the frame has, the fault. -/
def takes (l : List UInt8) : List UInt8 × Nat × Nat :=
  if (rdCount 4194304 l).2.1 ≠ 0 then ([], 0, (rdCount 4194304 l).2.1)
  else if l.length < (rdCount 4194304 l).2.2 + (rdCount 4194304 l).1 + 4 then ([], 0, 3)
  else if (gets ((l.drop (rdCount 4194304 l).2.2).take ((rdCount 4194304 l).1 + 4))).2 ≠ 0 then ([], 0, (gets ((l.drop (rdCount 4194304 l).2.2).take ((rdCount 4194304 l).1 + 4))).2)
  else ((gets ((l.drop (rdCount 4194304 l).2.2).take ((rdCount 4194304 l).1 + 4))).1, (rdCount 4194304 l).2.2 + (rdCount 4194304 l).1 + 4, 0)

theorem gets_put (p : List UInt8) : gets (p ++ tl (more 0 p)) = (p, 0) := by
  have e : (p ++ tl (more 0 p)).length = p.length + 4 := by rw [List.length_append, tl_len]
  unfold gets
  rw [if_neg (by omega), e, show p.length + 4 - 4 = p.length by omega, List.drop_left, List.take_left, if_pos (by simp)]
theorem gets_len (x : List UInt8) (h : (gets x).2 = 0) : (gets x).1.length + 4 = x.length := by
  unfold gets at h ⊢
  by_cases h4 : x.length < 4
  · rw [if_pos h4] at h
    cases h
  · rw [if_neg h4] at h ⊢
    split at h
    · rw [if_pos ‹_›]
      show (x.take (x.length - 4)).length + 4 = x.length
      rw [List.length_take]
      omega
    · cases h

theorem rdCount_fr (n : Nat) (rest : List UInt8) (h : n ≤ 4194304) : rdCount 4194304 (enc n ++ rest) = (n, 0, (enc n).length) := by
  unfold rdCount
  rw [rdNum_enc n rest (by show n < 18446744073709551616; omega)]
  show (if (0 : Nat) ≠ 0 then _ else if 4194304 < n then _ else _) = _
  rw [if_neg (by omega), if_neg (by omega)]

theorem takes_fr (p rest : List UInt8) (h : p.length ≤ 4194304) : takes (fr p ++ rest) = (p, sz p.length, 0) := by
  have e : fr p ++ rest = enc p.length ++ ((p ++ tl (more 0 p)) ++ rest) := by unfold fr; rw [List.append_assoc]
  have e1 := rdCount_fr p.length ((p ++ tl (more 0 p)) ++ rest) h
  have e2 : (p ++ tl (more 0 p)).length = p.length + 4 := by rw [List.length_append, tl_len]
  have e3 : gets (((enc p.length ++ ((p ++ tl (more 0 p)) ++ rest)).drop (enc p.length).length).take (p.length + 4)) = (p, 0) := by
    rw [List.drop_left, ← e2, List.take_left, gets_put]
  unfold takes
  rw [e, e1]
  show (if (0 : Nat) ≠ 0 then _ else _) = _
  rw [if_neg (by omega)]
  show (if _ < (enc p.length).length + p.length + 4 then _ else _) = _
  rw [if_neg (by rw [List.length_append, List.length_append, e2]; omega)]
  show (if (gets (((enc p.length ++ ((p ++ tl (more 0 p)) ++ rest)).drop (enc p.length).length).take (p.length + 4))).2 ≠ 0 then _ else ((gets (((enc p.length ++ ((p ++ tl (more 0 p)) ++ rest)).drop (enc p.length).length).take (p.length + 4))).1, (enc p.length).length + p.length + 4, 0)) = _
  rw [e3, if_neg (by simp)]
  rfl

theorem takes_cut (p : List UInt8) (m : Nat) (h : p.length ≤ 4194304) (hm : m < (fr p).length) : (takes ((fr p).take m)).2.2 ≠ 0 := by
  rw [fr_len] at hm
  by_cases hc : m < (enc p.length).length
  · have e : (fr p).take m = (enc p.length).take m := by
      unfold fr
      rw [List.take_append_of_le_length (by omega)]
    have e1 : (rdCount 4194304 ((enc p.length).take m)).2.1 = 3 := by
      unfold rdCount
      rw [rdNum_cut _ _ hc]
      rfl
    unfold takes
    rw [e, if_pos (by rw [e1]; omega)]
    show (rdCount 4194304 ((enc p.length).take m)).2.1 ≠ 0
    rw [e1]
    omega
  · have e : (fr p).take m = enc p.length ++ (p ++ tl (more 0 p)).take (m - (enc p.length).length) := by
      unfold fr
      rw [List.take_append, List.take_of_length_le (by omega)]
    have e1 := rdCount_fr p.length ((p ++ tl (more 0 p)).take (m - (enc p.length).length)) h
    have e2 : (p ++ tl (more 0 p)).length = p.length + 4 := by rw [List.length_append, tl_len]
    unfold takes
    rw [e, e1]
    show (if (0 : Nat) ≠ 0 then _ else if _ < (enc p.length).length + p.length + 4 then _ else _ : List UInt8 × Nat × Nat).2.2 ≠ 0
    unfold sz at hm
    rw [if_neg (by omega), if_pos (by rw [List.length_append, List.length_take, e2]; omega)]
    show (3 : Nat) ≠ 0
    omega

theorem takes_nil : (takes []).2.2 ≠ 0 := by decide

/-- A frame that is taken has as many bytes as its payload's frame has. -/
theorem takes_sz (l : List UInt8) (h : (takes l).2.2 = 0) : (takes l).2.1 = sz (takes l).1.length ∧ (takes l).2.1 ≤ l.length ∧ (takes l).1.length ≤ 4194304 := by
  unfold takes at h ⊢
  by_cases h1 : (rdCount 4194304 l).2.1 ≠ 0
  · rw [if_pos h1] at h
    exact absurd h h1
  · rw [if_neg h1] at h ⊢
    by_cases h2 : l.length < (rdCount 4194304 l).2.2 + (rdCount 4194304 l).1 + 4
    · rw [if_pos h2] at h
      cases h
    · rw [if_neg h2] at h ⊢
      by_cases h3 : (gets ((l.drop (rdCount 4194304 l).2.2).take ((rdCount 4194304 l).1 + 4))).2 ≠ 0
      · rw [if_pos h3] at h
        exact absurd h h3
      · rw [if_neg h3]
        have h4 : (gets ((l.drop (rdCount 4194304 l).2.2).take ((rdCount 4194304 l).1 + 4))).2 = 0 := by omega
        have h5 := gets_len _ h4
        rw [List.length_take, List.length_drop] at h5
        have h6 : (rdCount 4194304 l).2.1 = 0 := by omega
        have h7 : (rdNum l).2.1 = 0 ∧ (rdCount 4194304 l).1 = (rdNum l).1 ∧ (rdNum l).1 ≤ 4194304 := by
          unfold rdCount at h6 ⊢
          split at h6
          · exact absurd h6 (by assumption)
          · rename_i h8
            rw [if_neg h8]
            split at h6
            · cases h6
            · rename_i h9
              rw [if_neg h9]
              exact ⟨by omega, rfl, by omega⟩
        have h8 := rdNum_canon l h7.1
        have h9 := rdCount_at 4194304 l
        show (rdCount 4194304 l).2.2 + (rdCount 4194304 l).1 + 4 = sz _ ∧ _ ∧ _
        have h10 : (gets ((l.drop (rdCount 4194304 l).2.2).take ((rdCount 4194304 l).1 + 4))).1.length = (rdCount 4194304 l).1 := by omega
        rw [h10, h9, h8, ← h7.2.1]
        refine ⟨rfl, ?_, by omega⟩
        rw [h9, h8, ← h7.2.1] at h2
        show (enc (rdCount 4194304 l).1).length + (rdCount 4194304 l).1 + 4 ≤ l.length
        omega

/-- All frames with which the bytes l begin, from place i on; where they end. -/
def allF : Nat → Nat → List UInt8 → List (Nat × List UInt8)
  | 0, _, _ => []
  | f + 1, i, l => if (takes l).2.2 ≠ 0 then [] else (i, (takes l).1) :: allF f (i + (takes l).2.1) (l.drop (takes l).2.1)
def allOf (l : List UInt8) : List (Nat × List UInt8) := allF (l.length + 1) 0 l
/-- Where frames end that begin one behind the other at place i. -/
def endOf : Nat → List (Nat × List UInt8) → Nat
  | i, [] => i
  | _, x :: t => endOf (x.1 + sz x.2.length) t

theorem allF_stop {f i : Nat} {l : List UInt8} (h : (takes l).2.2 ≠ 0) : allF f i l = [] := by
  cases f with
  | zero => rfl
  | succ f =>
    show (if (takes l).2.2 ≠ 0 then [] else _) = _
    rw [if_pos h]
theorem allF_step {f i : Nat} {l : List UInt8} (h : (takes l).2.2 = 0) : allF (f + 1) i l = (i, (takes l).1) :: allF f (i + (takes l).2.1) (l.drop (takes l).2.1) := by
  show (if (takes l).2.2 ≠ 0 then [] else _) = _
  rw [if_neg (by omega)]
/-- Enough is enough. -/
theorem allF_fuel : ∀ (f g i : Nat) (l : List UInt8), l.length < f → l.length < g → allF f i l = allF g i l
  | 0, _, _, _, h, _ => absurd h (by omega)
  | _, 0, _, _, _, h => absurd h (by omega)
  | f + 1, g + 1, i, l, hf, hg => by
    by_cases h : (takes l).2.2 = 0
    · have hs := takes_sz l h
      have hp := sz_pos (takes l).1.length
      rw [allF_step h, allF_step h, allF_fuel f g _ _ (by rw [List.length_drop]; omega) (by rw [List.length_drop]; omega)]
    · rw [allF_stop h, allF_stop h]

/-- Those of payloads whose frames are whole within m bytes. -/
def upto : Nat → List (List UInt8) → List (List UInt8)
  | _, [] => []
  | m, p :: L => if sz p.length ≤ m then p :: upto (m - sz p.length) L else []
def joined (L : List (List UInt8)) : List UInt8 := L.flatMap fr
/-- All bytes that frames of payloads have. -/
def total (L : List (List UInt8)) : Nat := (L.map fun p => sz p.length).sum

theorem joined_len : ∀ (L : List (List UInt8)), (joined L).length = total L
  | [] => rfl
  | p :: L => by
    have := joined_len L
    unfold joined total at this ⊢
    rw [List.flatMap_cons, List.length_append, this, fr_len, List.map_cons, List.sum_cons]

/-- How frames of payloads lie, from place i on. -/
def laid : Nat → List (List UInt8) → List (Nat × List UInt8)
  | _, [] => []
  | i, p :: L => (i, p) :: laid (i + sz p.length) L
theorem laid_map : ∀ (i : Nat) (L : List (List UInt8)), (laid i L).map (·.2) = L
  | _, [] => rfl
  | i, p :: L => by
    show p :: (laid _ L).map (·.2) = p :: L
    rw [laid_map]
theorem laid_end : ∀ (i : Nat) (L : List (List UInt8)), endOf i (laid i L) = i + total L
  | _, [] => rfl
  | i, p :: L => by
    show endOf (i + sz p.length) (laid (i + sz p.length) L) = _
    rw [laid_end]
    unfold total
    rw [List.map_cons, List.sum_cons]
    omega

theorem allF_cut : ∀ (L : List (List UInt8)) (f i m : Nat), (∀ p ∈ L, p.length ≤ 4194304) → ((joined L).take m).length < f → allF f i ((joined L).take m) = laid i (upto m L)
  | [], f, i, m, _, _ => by
    have e : (joined []).take m = [] := List.take_nil
    rw [e]
    exact allF_stop takes_nil
  | p :: L, 0, _, _, _, h => absurd h (by omega)
  | p :: L, f + 1, i, m, hL, hf => by
    have hp := hL p (by simp)
    have hl := fr_len p
    have hz := sz_pos p.length
    have e : joined (p :: L) = fr p ++ joined L := List.flatMap_cons
    by_cases hm : sz p.length ≤ m
    · have e1 : (joined (p :: L)).take m = fr p ++ (joined L).take (m - sz p.length) := by
        rw [e, List.take_append, List.take_of_length_le (by omega), hl]
      have e2 := takes_fr p ((joined L).take (m - sz p.length)) hp
      rw [e1] at hf ⊢
      rw [allF_step (by rw [e2])]
      rw [e2]
      show (i, p) :: allF f (i + sz p.length) ((fr p ++ (joined L).take (m - sz p.length)).drop (sz p.length)) = _
      rw [← hl, List.drop_left, hl]
      rw [allF_cut L f _ _ (fun q hq => hL q (List.mem_cons_of_mem _ hq)) (by rw [List.length_append] at hf; omega)]
      rw [show upto m (p :: L) = if sz p.length ≤ m then p :: upto (m - sz p.length) L else [] from rfl, if_pos hm]
      rfl
    · have e1 : (joined (p :: L)).take m = (fr p).take m := by
        rw [e, List.take_append_of_le_length (by omega)]
      rw [e1, allF_stop (takes_cut p m hp (by omega))]
      rw [show upto m (p :: L) = if sz p.length ≤ m then p :: upto (m - sz p.length) L else [] from rfl, if_neg hm]
      rfl

theorem upto_prefix : ∀ (m : Nat) (L : List (List UInt8)), upto m L <+: L
  | _, [] => List.prefix_refl _
  | m, p :: L => by
    unfold upto
    split
    · exact List.cons_prefix_cons.2 ⟨rfl, upto_prefix _ L⟩
    · exact List.nil_prefix
theorem upto_total : ∀ (m : Nat) (L : List (List UInt8)), total (upto m L) ≤ m
  | _, [] => Nat.zero_le _
  | m, p :: L => by
    unfold upto
    split
    · have := upto_total (m - sz p.length) L
      unfold total at this ⊢
      rw [List.map_cons, List.sum_cons]
      omega
    · exact Nat.zero_le _
/-- The next one is not whole. -/
theorem upto_more : ∀ (m : Nat) (L : List (List UInt8)) (p : List UInt8), L[(upto m L).length]? = some p → m < total (upto m L) + sz p.length
  | _, [], p, h => by simp [upto] at h
  | m, q :: L, p, h => by
    unfold upto at h ⊢
    by_cases hm : sz q.length ≤ m
    · rw [if_pos hm] at h ⊢
      have := upto_more (m - sz q.length) L p (by simpa using h)
      unfold total at this ⊢
      rw [List.map_cons, List.sum_cons]
      omega
    · rw [if_neg hm] at h ⊢
      have e : q = p := by simpa using h
      subst e
      show m < 0 + sz q.length
      omega

end Go.Proofs.Ytjhgbbmghgeeoaa
