/-
  Texts laid one behind the other: Zl Zm Zp Q1a Zk Es Q1b Q1c.
-/
import Derived.Test.YtklpmajaihmmfaaJocac
import Derived.Test.YtklpmajaihmmfaaJocad
import Derived.Test.YtklpmajaihmmfaaJocaa
import Derived.Test.YtklpmajaihmmfaaJocab
import Derived.Laws.StructEq
import Derived.Laws.OwnMore
import Derived.Laws.ResultCell
import Derived.Laws.IdiomArrays

/-
  Stage 9: the document's reader, by its state; its Count.
-/
namespace Go.Proofs.Ytklpmajaihmmfaa
open Go.RowKit

set_option maxRecDepth 100000

theorem rdF_bad : ∀ (k i acc : Nat) (l : List UInt8), (rdF k i acc l).2.1 ≠ 0 → (rdF k i acc l).1 = 0
  | 0, _, _, _, _ => rfl
  | _ + 1, _, _, [], _ => rfl
  | k + 1, i, acc, b :: l, h => by
    unfold rdF at h ⊢
    split
    · rename_i hb
      rw [if_pos hb] at h
      exact rdF_bad k _ _ l h
    · rename_i hb
      rw [if_neg hb] at h
      split
      · rfl
      · rename_i hc
        rw [if_neg hc] at h
        exact absurd rfl h
theorem rdNum_bad {l : List UInt8} (h : (rdNum l).2.1 ≠ 0) : (rdNum l).1 = 0 := rdF_bad 10 0 0 l h

/-- A reader's state: the bytes that are left, the fault. -/
abbrev RS9 := List UInt8 × Nat
def sNum (s : RS9) : Nat := if s.2 = 0 then (rdNum s.1).1 else 0
def sNum' (s : RS9) : RS9 := if s.2 = 0 then (s.1.drop (rdNum s.1).2.2, (rdNum s.1).2.1) else s
def sInt (s : RS9) : Int := if s.2 = 0 then zag (rdNum s.1).1 else 0
def sText (s : RS9) : List UInt8 := if s.2 = 0 then (rdText 16 s.1).1 else []
def sText' (s : RS9) : RS9 := if s.2 = 0 then (s.1.drop (rdText 16 s.1).2.2, (rdText 16 s.1).2.1) else s
def sCount (s : RS9) : Nat := if s.2 = 0 then (rdCount 50 s.1).1 else 0
def sCount' (s : RS9) : RS9 := if s.2 = 0 then (s.1.drop (rdCount 50 s.1).2.2, (rdCount 50 s.1).2.1) else s
section
variable {q B : Nat} {s : RS9} {w : World}
end

end Go.Proofs.Ytklpmajaihmmfaa

/-
  Stage 9: the document's Read.
-/
namespace Go.Proofs.Ytklpmajaihmmfaa
open Go.RowKit

set_option maxRecDepth 100000

/-- The texts that are read into a key; a fact; all facts. -/
def textsK (k0 : K9) (s : RS9) : Nat → K9 × RS9
  | 0 => (k0, s)
  | i + 1 => ((textsK k0 s i).1.put i (sText (textsK k0 s i).2), sText' (textsK k0 s i).2)
def oneF (n h : Nat) (s : RS9) : F9 × RS9 := (⟨(textsK ⟨h, [], [], [], []⟩ s n).1, sInt (textsK ⟨h, [], [], [], []⟩ s n).2⟩, sNum' (textsK ⟨h, [], [], [], []⟩ s n).2)
def readR (n : Nat) : Nat → RS9 → List F9 → Int × List F9
  | 0, s, out => if s.2 ≠ 0 then ((s.2 : Int), []) else if 0 < s.1.length then (4, []) else if (allB out n).1 ≠ 0 then ((allB out n).1, []) else (0, out)
  | i + 1, s, out => if 16777216 < sNum s then (2, []) else if (oneF n (sNum s) (sNum' s)).2.2 ≠ 0 then (((oneF n (sNum s) (sNum' s)).2.2 : Int), []) else readR n i (oneF n (sNum s) (sNum' s)).2 (out ++ [(oneF n (sNum s) (sNum' s)).1])
def readB (m : List UInt8) (n : Int) : Int × List F9 := if okDims n then readR n.toNat (sCount (m, 0)) (sCount' (m, 0)) [] else (1, [])
/-- Behind Read: the facts, or none. -/
def Readed (w : World) (m : List UInt8) (n : Int) (e : Ending) (w' : World) : Prop := ∃ v, e = .returned (.tuple #[v, .int .i64 (readB m n).1]) ∧ RdE EF w' v (readB m n).2 ∧ Turn (fun _ => False) w w'

/-- A fact's cells, in the block that a round has made. -/
abbrev cells9 (k : K9) (v : Int) : Array Value := #[.int .i64 k.h, sv9 k.a, sv9 k.b, sv9 k.c, sv9 k.d, .int .i64 v]
section
variable {w W W2 : World} {q B b : Nat} {x8 : Value} {out : List F9} {k : K9} {v : Int} {s s2 : RS9}
theorem new_over {S : Nat → Prop} (h : NewE EF 46 w W x8 out) (ht : Turn S W W2) (h1 : ∀ k, x8.ownBlock = some k → ¬ S k) (h2 : ∀ k, S k → w.heap.size ≤ k) : NewE EF 46 w W2 x8 out :=
  ⟨h.own.turn ht h1, h.new, h.turn.trans ht (fun k hk e => by have := h2 k e; omega)⟩
theorem put_cells9 (k : K9) (v : Int) {i : Nat} (hi : i < 4) (t : List UInt8) : (cells9 k v).setIfInBounds (1 + i) (sv9 t) = cells9 (k.put i t) v := by
  match i, hi with
  | 0, _ => rfl
  | 1, _ => rfl
  | 2, _ => rfl
  | 3, _ => rfl
end

theorem wpList_facts9 (w : World) {ops : Array Oper} {rest : List Oper} {o : Oper} {a : Act} {Q : Exit → Act → World → Prop} (hgd : o.guard = none) (s x : Operand)
    (ho : o.op = .call { callee := .builtin .append, args := #[s, x], argTypes := #[39, 39] }) (v : Value) (l : List F9) (hs : a.eval s = v) (hown : OwE EF 46 w v l)
    (y : Value) (hx : a.eval x = y) (m : List F9) (hy : RdE EF w y m) (hl : l.length + m.length ≤ 1000000)
    (h : ∀ A n c w', OwE EF 46 w' (.slice A n c) (l ++ m) → Turn (fun k => v.ownBlock = some k) w w' → ((Value.slice A n c).ownBlock = v.ownBlock ∨ (Value.slice A n c).ownBlock = some w.heap.size) → wpList Try.prog ops Q rest (a.put o.dst (.slice A n c)) w') :
    wpList Try.prog ops Q (o :: rest) a w :=
  wpList_appE Try.underlying39 fact_info fact_zero w hgd s x _ ho v l hs hown y hx m (hy.src Try.underlying39) (by simp only [maxLen]; omega) (by omega) h

end Go.Proofs.Ytklpmajaihmmfaa

/-
  Stage 9, plain: there and back.
-/
namespace Go.Proofs.Ytklpmajaihmmfaa
open Go.RowKit

theorem zig_zag9 (n : Nat) : zig (zag n) = n := by
  unfold zig zag
  by_cases h : n % 2 = 0
  · rw [if_pos h, if_pos (by omega)]
    omega
  · rw [if_neg h, if_neg (by omega)]
    omega
theorem mid_of (b : UInt8) (q : Nat) (hb : 128 ≤ b.toNat) : mid (b.toNat - 128 + q * 128) = b := by
  have hlt : b.toNat < 256 := UInt8.toNat_lt b
  apply UInt8.toNat_inj.1
  unfold mid
  rw [UInt8.toNat_ofNat']
  omega
theorem low_of (b : UInt8) : low b.toNat = b := by
  apply UInt8.toNat_inj.1
  exact low_toNat _ (UInt8.toNat_lt b)
/-- What is read as a number is just what would be put, and what is left. -/
theorem rdF_exact : ∀ (g i acc : Nat) (l : List UInt8), (rdF g i acc l).2.1 = 0 →
    ∃ q, (rdF g i acc l).1 = acc + q * 128 ^ i ∧ i ≤ (rdF g i acc l).2.2 ∧ l = encF (g - 1) q ++ l.drop ((rdF g i acc l).2.2 - i) ∧ (0 < i → 0 < q)
  | 0, _, _, _, h => by cases h
  | _ + 1, _, _, [], h => by cases h
  | g + 1, i, acc, b :: l, h => by
    have e : rdF (g + 1) i acc (b :: l) = if 128 ≤ b.toNat then rdF g (i + 1) (acc + (b.toNat - 128) * 128 ^ i) l
      else if (0 < i ∧ b.toNat = 0) ∨ (i = 9 ∧ 1 < b.toNat) then (0, 4, i + 1) else (acc + b.toNat * 128 ^ i, 0, i + 1) := rfl
    rw [e] at h ⊢
    by_cases hb : 128 ≤ b.toNat
    · rw [if_pos hb] at h ⊢
      obtain ⟨q, h1, h2, h3, h4⟩ := rdF_exact g (i + 1) _ l h
      have hq := h4 (by omega)
      have hlt : b.toNat < 256 := UInt8.toNat_lt b
      cases g with
      | zero => cases h
      | succ g =>
        refine ⟨b.toNat - 128 + q * 128, ?_, by omega, ?_, fun _ => by omega⟩
        · rw [h1, Nat.pow_succ, Nat.add_mul, Nat.mul_assoc q 128, Nat.mul_comm 128 (128 ^ i)]
          omega
        · have e2 : encF (g + 1) (b.toNat - 128 + q * 128) = b :: encF g q := by
            show (if _ < 128 then _ else _) = _
            rw [if_neg (by omega), mid_of b q hb, show (b.toNat - 128 + q * 128) / 128 = q by omega]
          show b :: l = encF (g + 1) _ ++ _
          rw [e2]
          generalize (rdF (g + 1) (i + 1) (acc + (b.toNat - 128) * 128 ^ i) l).2.2 = n at *
          rw [show n - i = (n - (i + 1)) + 1 by omega, List.drop_succ_cons, List.cons_append]
          congr 1
    · rw [if_neg hb] at h ⊢
      by_cases hz : (0 < i ∧ b.toNat = 0) ∨ (i = 9 ∧ 1 < b.toNat)
      · rw [if_pos hz] at h
        cases h
      · rw [if_neg hz]
        refine ⟨b.toNat, rfl, by show i ≤ i + 1; omega, ?_, fun hi => by omega⟩
        have e2 : encF g b.toNat = [b] := by
          cases g with
          | zero => show [low b.toNat] = [b]; rw [low_of]
          | succ g =>
            show (if _ < 128 then _ else _) = _
            rw [if_pos (by omega), low_of]
        show b :: l = encF g b.toNat ++ _
        rw [e2, show i + 1 - i = 1 by omega]
        rfl
theorem rdNum_exact {l : List UInt8} (h : (rdNum l).2.1 = 0) : l = enc (rdNum l).1 ++ l.drop (rdNum l).2.2 := by
  obtain ⟨q, h1, _, h2, _⟩ := rdF_exact 10 0 0 l h
  have e : (rdNum l).1 = q := by
    show (rdF 10 0 0 l).1 = q
    rw [h1]
    simp
  rw [e]
  exact h2
theorem num_there {s : RS9} (h : (sNum' s).2 = 0) : s.2 = 0 ∧ s.1 = enc (sNum s) ++ (sNum' s).1 := by
  unfold sNum sNum' at *
  by_cases hs : s.2 = 0
  · rw [if_pos hs] at h
    rw [if_pos hs, if_pos hs]
    exact ⟨hs, rdNum_exact h⟩
  · rw [if_neg hs] at h
    exact absurd h hs
theorem text_there {s : RS9} (h : (sText' s).2 = 0) : s.2 = 0 ∧ s.1 = textB (sText s) ++ (sText' s).1 ∧ (sText s).length ≤ 16 := by
  unfold sText sText' at *
  by_cases hs : s.2 = 0
  · rw [if_pos hs] at h
    rw [if_pos hs, if_pos hs]
    refine ⟨hs, ?_⟩
    unfold rdText rdCount at h ⊢
    by_cases h1 : (rdNum s.1).2.1 = 0
    · by_cases h2 : 16 < (rdNum s.1).1
      · simp [h1, h2] at h
      · by_cases h3 : (s.1.drop (rdNum s.1).2.2).length < (rdNum s.1).1
        · simp only [h1, h2, ne_eq, not_true_eq_false, if_false, h3, if_true] at h
          cases h
        · simp only [h1, h2, ne_eq, not_true_eq_false, if_false, h3]
          have hl : ((s.1.drop (rdNum s.1).2.2).take (rdNum s.1).1).length = (rdNum s.1).1 := by rw [List.length_take]; omega
          refine ⟨?_, by omega⟩
          unfold textB
          rw [hl]
          have e := rdNum_exact h1
          conv => lhs; rw [e]
          rw [List.append_assoc, ← List.drop_drop, List.take_append_drop]
    · simp only [ne_eq, h1, not_false_eq_true, if_true] at h
  · rw [if_neg hs] at h
    exact absurd h hs
theorem count_there {s : RS9} (h : (sCount' s).2 = 0) : s.2 = 0 ∧ s.1 = enc (sCount s) ++ (sCount' s).1 ∧ sCount s ≤ 50 := by
  unfold sCount sCount' at *
  by_cases hs : s.2 = 0
  · rw [if_pos hs] at h
    rw [if_pos hs, if_pos hs]
    refine ⟨hs, ?_⟩
    unfold rdCount at h ⊢
    by_cases h1 : (rdNum s.1).2.1 = 0
    · by_cases h2 : 50 < (rdNum s.1).1
      · simp [h1, h2] at h
      · simp only [h1, h2, ne_eq, not_true_eq_false, if_false]
        exact ⟨rdNum_exact h1, by omega⟩
    · simp only [ne_eq, h1, not_false_eq_true, if_true] at h
  · rw [if_neg hs] at h
    exact absurd h hs


theorem dim_put {k : K9} {i j : Nat} (hi : i < 4) (hj : j < 4) (t : List UInt8) : (k.put i t).dim j = if i = j then t else k.dim j := by
  match i, hi, j, hj with
  | 0, _, 0, _ => rfl
  | 0, _, 1, _ => rfl
  | 0, _, 2, _ => rfl
  | 0, _, 3, _ => rfl
  | 1, _, 0, _ => rfl
  | 1, _, 1, _ => rfl
  | 1, _, 2, _ => rfl
  | 1, _, 3, _ => rfl
  | 2, _, 0, _ => rfl
  | 2, _, 1, _ => rfl
  | 2, _, 2, _ => rfl
  | 2, _, 3, _ => rfl
  | 3, _, 0, _ => rfl
  | 3, _, 1, _ => rfl
  | 3, _, 2, _ => rfl
  | 3, _, 3, _ => rfl
theorem put_h {k : K9} {i : Nat} (t : List UInt8) : (k.put i t).h = k.h := by
  unfold K9.put
  split <;> rfl
theorem texts_same {k k' : K9} : ∀ n, (∀ j, j < n → k.dim j = k'.dim j) → textsB k n = textsB k' n
  | 0, _ => rfl
  | n + 1, h => by
    show textsB k n ++ textB (k.dim n) = textsB k' n ++ textB (k'.dim n)
    rw [texts_same n (fun j hj => h j (by omega)), h n (by omega)]
theorem textsK_h (k0 : K9) (s : RS9) : ∀ n, (textsK k0 s n).1.h = k0.h
  | 0 => rfl
  | n + 1 => by
    show ((textsK k0 s n).1.put n _).h = k0.h
    rw [put_h, textsK_h k0 s n]
theorem texts_there (k0 : K9) (s : RS9) : ∀ n, n ≤ 4 → (textsK k0 s n).2.2 = 0 → s.2 = 0 ∧ s.1 = textsB (textsK k0 s n).1 n ++ (textsK k0 s n).2.1
  | 0, _, h => ⟨h, rfl⟩
  | n + 1, hn, h => by
    obtain ⟨h1, h2, _⟩ := text_there (s := (textsK k0 s n).2) h
    obtain ⟨g1, g2⟩ := texts_there k0 s n (by omega) h1
    refine ⟨g1, ?_⟩
    have e1 : textsB (textsK k0 s (n + 1)).1 (n + 1) = textsB (textsK k0 s n).1 n ++ textB (sText (textsK k0 s n).2) := by
      show textsB ((textsK k0 s n).1.put n _) n ++ textB (((textsK k0 s n).1.put n _).dim n) = _
      rw [dim_put (by omega) (by omega), if_pos rfl, texts_same n (k' := (textsK k0 s n).1) (fun j hj => by rw [dim_put (by omega) (by omega), if_neg (by omega)])]
    have e2 : (textsK k0 s (n + 1)).2.1 = (sText' (textsK k0 s n).2).1 := rfl
    rw [e1, e2, List.append_assoc, ← h2]
    exact g2
theorem one_there {n h : Nat} {s : RS9} (hn : n ≤ 4) (hf : (oneF n h s).2.2 = 0) : s.2 = 0 ∧ enc h ++ s.1 = factB n (oneF n h s).1 ++ (oneF n h s).2.1 := by
  obtain ⟨h1, h2⟩ := num_there (s := (textsK ⟨h, [], [], [], []⟩ s n).2) hf
  obtain ⟨g1, g2⟩ := texts_there _ s n hn h1
  refine ⟨g1, ?_⟩
  have e1 : (oneF n h s).1.k.h.toNat = h := by
    show (textsK _ s n).1.h.toNat = h
    rw [textsK_h]
    simp
  have e2 : zig (oneF n h s).1.v = sNum (textsK ⟨h, [], [], [], []⟩ s n).2 := by
    show zig (sInt _) = _
    unfold sInt sNum
    rw [if_pos h1, if_pos h1, zig_zag9]
  unfold factB
  rw [e1, e2, g2]
  have e3 : (oneF n h s).2.1 = (sNum' (textsK ⟨h, [], [], [], []⟩ s n).2).1 := rfl
  rw [e3]
  conv => lhs; rw [h2]
  simp only [List.append_assoc]
  rfl
theorem readR_there {n : Nat} (hn : n ≤ 4) : ∀ (i : Nat) (s : RS9) (out res : List F9), readR n i s out = (0, res) → s.2 = 0 ∧ ∃ new, res = out ++ new ∧ new.length = i ∧ s.1 = new.flatMap (factB n) ∧ (allB res n).1 = 0
  | 0, s, out, res, h => by
    unfold readR at h
    split at h
    · rename_i hs
      have := congrArg Prod.fst h
      simp at this
      exact absurd this hs
    · rename_i hs
      split at h
      · cases congrArg Prod.fst h
      · rename_i hl
        split at h
        · rename_i ha
          exact absurd (congrArg Prod.fst h) ha
        · rename_i ha
          have e : out = res := congrArg Prod.snd h
          subst e
          exact ⟨by omega, [], by simp, rfl, List.eq_nil_of_length_eq_zero (by omega), by omega⟩
  | i + 1, s, out, res, h => by
    unfold readR at h
    split at h
    · cases congrArg Prod.fst h
    · rename_i hb
      split at h
      · rename_i hf
        have := congrArg Prod.fst h
        simp at this
        exact absurd this hf
      · rename_i hf
        have hf0 : (oneF n (sNum s) (sNum' s)).2.2 = 0 := by omega
        obtain ⟨h1, new, h2, h3, h4, h5⟩ := readR_there hn i _ _ res h
        obtain ⟨g1, g2⟩ := one_there hn hf0
        obtain ⟨k1, k2⟩ := num_there g1
        refine ⟨k1, (oneF n (sNum s) (sNum' s)).1 :: new, by rw [h2]; simp, by rw [List.length_cons, h3], ?_, h5⟩
        rw [k2, g2, h4]
        rfl
theorem readB_there {m : List UInt8} {n : Int} {res : List F9} (h : readB m n = (0, res)) : m = batchB res n.toNat ∧ (allB res n).1 = 0 := by
  unfold readB at h
  split at h
  · rename_i hd
    unfold okDims at hd
    simp only [Bool.and_eq_true, decide_eq_true_iff] at hd
    obtain ⟨N, rfl⟩ := Int.eq_ofNat_of_zero_le (show 0 ≤ n by omega)
    rw [Int.toNat_natCast] at h ⊢
    obtain ⟨h1, new, h2, h3, h4, h5⟩ := readR_there (by omega) _ _ _ _ h
    rw [List.nil_append] at h2
    subst h2
    obtain ⟨_, g2, _⟩ := count_there h1
    refine ⟨?_, h5⟩
    unfold batchB
    rw [h3, ← h4]
    exact g2
  · cases congrArg Prod.fst h
theorem readB_none {m : List UInt8} {n : Int} (h : (readB m n).1 ≠ 0) : (readB m n).2 = [] := by
  have key : ∀ (N i : Nat) (s : RS9) (out : List F9), (readR N i s out).1 ≠ 0 → (readR N i s out).2 = [] := by
    intro N i
    induction i with
    | zero =>
      intro s out h
      unfold readR at h ⊢
      split
      · rfl
      · rename_i h1
        rw [if_neg h1] at h
        split
        · rfl
        · rename_i h2
          rw [if_neg h2] at h
          split
          · rfl
          · rename_i h3
            rw [if_neg h3] at h
            exact absurd rfl h
    | succ i ih =>
      intro s out h
      unfold readR at h ⊢
      split
      · rfl
      · rename_i h1
        rw [if_neg h1] at h
        split
        · rfl
        · rename_i h2
          rw [if_neg h2] at h
          exact ih _ _ h
  unfold readB at h ⊢
  split
  · rename_i h1
    rw [if_pos h1] at h
    exact key _ _ _ _ h
  · rfl

theorem num_back {n : Nat} (hn : Hid (n < 18446744073709551616)) (r : List UInt8) : sNum (enc n ++ r, 0) = n ∧ sNum' (enc n ++ r, 0) = (r, 0) := by
  unfold sNum sNum'
  simp only [if_true]
  rw [rdNum_enc n r hn]
  exact ⟨rfl, by simp⟩
theorem int_back {v : Int} (h1 : Hid (-9223372036854775808 ≤ v)) (h2 : Hid (v ≤ 9223372036854775807)) (r : List UInt8) : sInt (enc (zig v) ++ r, 0) = v ∧ sNum' (enc (zig v) ++ r, 0) = (r, 0) := by
  have hz := zig_lt v h1 h2
  refine ⟨?_, (num_back hz r).2⟩
  unfold sInt
  simp only [if_true]
  rw [rdNum_enc _ r hz, zag_zig]
theorem text_back {t : List UInt8} (ht : t.length ≤ 16) (r : List UInt8) : sText (textB t ++ r, 0) = t ∧ sText' (textB t ++ r, 0) = (r, 0) := by
  have hn : Hid (t.length < 18446744073709551616) := by show _ < _; omega
  have e : rdNum (textB t ++ r) = (t.length, 0, (enc t.length).length) := by
    unfold textB
    rw [List.append_assoc]
    exact rdNum_enc t.length (t ++ r) hn
  have ed : (textB t ++ r).drop (enc t.length).length = t ++ r := by
    unfold textB
    rw [List.append_assoc, List.drop_left]
  have e2 : rdText 16 (textB t ++ r) = (t, 0, (enc t.length).length + t.length) := by
    unfold rdText rdCount
    rw [e]
    have h16 : ¬ 16 < t.length := by omega
    simp only [ne_eq, not_true_eq_false, if_false, h16, ed]
    rw [if_neg (by rw [List.length_append]; omega), List.take_left]
  unfold sText sText'
  simp only [if_true]
  rw [e2]
  refine ⟨rfl, ?_⟩
  show ((textB t ++ r).drop ((enc t.length).length + t.length), 0) = _
  rw [← List.drop_drop, ed, List.drop_left]
theorem count_back {n : Nat} (hn : n ≤ 50) (r : List UInt8) : sCount (enc n ++ r, 0) = n ∧ sCount' (enc n ++ r, 0) = (r, 0) := by
  have e := rdNum_enc n r (by show _ < _; omega)
  have e2 : rdCount 50 (enc n ++ r) = (n, 0, (enc n).length) := by
    unfold rdCount
    rw [e]
    have h50 : ¬ 50 < n := by omega
    simp [h50]
  unfold sCount sCount'
  simp only [if_true]
  rw [e2]
  exact ⟨rfl, by simp⟩
/-- A key's first texts put into another. -/
def putN (k0 k : K9) : Nat → K9
  | 0 => k0
  | i + 1 => (putN k0 k i).put i (k.dim i)
theorem texts_back (k0 k : K9) (hk : ∀ i, i < 4 → (k.dim i).length ≤ 16) : ∀ (n : Nat) (r : List UInt8), n ≤ 4 → textsK k0 (textsB k n ++ r, 0) n = (putN k0 k n, (r, 0))
  | 0, _, _ => rfl
  | n + 1, r, hn => by
    have ih := texts_back k0 k hk n (textB (k.dim n) ++ r) (by omega)
    have e : textsB k (n + 1) ++ r = textsB k n ++ (textB (k.dim n) ++ r) := by
      show textsB k n ++ textB (k.dim n) ++ r = _
      rw [List.append_assoc]
    rw [e]
    show ((textsK k0 (textsB k n ++ (textB (k.dim n) ++ r), 0) n).1.put n (sText (textsK k0 (textsB k n ++ (textB (k.dim n) ++ r), 0) n).2), sText' (textsK k0 (textsB k n ++ (textB (k.dim n) ++ r), 0) n).2) = _
    rw [ih]
    obtain ⟨t1, t2⟩ := text_back (hk n (by omega)) r
    rw [t1, t2]
    rfl
theorem putN_all {k : K9} {n : Nat} (hn1 : 1 ≤ n) (hn : n ≤ 4) (hk : ∀ i, i < 4 → n ≤ i → k.dim i = []) : putN ⟨k.h, [], [], [], []⟩ k n = k := by
  obtain ⟨h, a, b, c, d⟩ := k
  match n, hn1, hn with
  | 1, _, _ =>
    have e1 := hk 1 (by omega) (by omega)
    have e2 := hk 2 (by omega) (by omega)
    have e3 := hk 3 (by omega) (by omega)
    simp only [K9.dim] at e1 e2 e3
    subst e1 e2 e3
    rfl
  | 2, _, _ =>
    have e2 := hk 2 (by omega) (by omega)
    have e3 := hk 3 (by omega) (by omega)
    simp only [K9.dim] at e2 e3
    subst e2 e3
    rfl
  | 3, _, _ =>
    have e3 := hk 3 (by omega) (by omega)
    simp only [K9.dim] at e3
    subst e3
    rfl
  | 4, _, _ => rfl
theorem chk_empty {f : F9} {n : Nat} (h : chkF f (n : Int) = 0) : ∀ i, i < 4 → n ≤ i → f.k.dim i = [] := by
  unfold chkF at h
  split at h
  · split at h
    · split at h
      · rename_i ht
        simp only [okTexts, okText, Bool.and_eq_true, Bool.or_eq_true, decide_eq_true_iff, List.isEmpty_iff] at ht
        intro i hi hn
        match i, hi with
        | 0, _ => rcases ht.1.1.1.2 with g | g; · omega
                  · exact g
        | 1, _ => rcases ht.1.1.2.2 with g | g; · omega
                  · exact g
        | 2, _ => rcases ht.1.2.2 with g | g; · omega
                  · exact g
        | 3, _ => rcases ht.2.2 with g | g; · omega
                  · exact g
      · cases h
    · cases h
  · cases h
theorem one_back {f : F9} {n : Nat} (hn1 : 1 ≤ n) (hn : n ≤ 4) (h : chkF f (n : Int) = 0) (r : List UInt8) : sNum (factB n f ++ r, 0) = f.k.h.toNat ∧ oneF n f.k.h.toNat (sNum' (factB n f ++ r, 0)) = (f, (r, 0)) := by
  have hg := good_chk h
  have hh : Hid (f.k.h.toNat < 18446744073709551616) := by have := hg.h1; show _ < _; omega
  have e : factB n f ++ r = enc f.k.h.toNat ++ (textsB f.k n ++ (enc (zig f.v) ++ r)) := by
    unfold factB
    simp only [List.append_assoc]
  obtain ⟨a1, a2⟩ := num_back hh (textsB f.k n ++ (enc (zig f.v) ++ r))
  rw [e, a1, a2]
  refine ⟨rfl, ?_⟩
  have et := texts_back ⟨(f.k.h.toNat : Int), [], [], [], []⟩ f.k hg.t n (enc (zig f.v) ++ r) hn
  obtain ⟨i1, i2⟩ := int_back (v := f.v) (by have := hg.v0; show _ ≤ _; omega) (by have := hg.v1; show _ ≤ _; omega) r
  unfold oneF
  rw [et]
  show ((⟨putN _ f.k n, sInt (enc (zig f.v) ++ r, 0)⟩ : F9), sNum' (enc (zig f.v) ++ r, 0)) = _
  rw [i1, i2, Int.toNat_of_nonneg hg.h0, putN_all hn1 hn (chk_empty h)]
theorem readR_back {n : Nat} (hn1 : 1 ≤ n) (hn : n ≤ 4) : ∀ (fs out : List F9), (∀ f ∈ fs, chkF f (n : Int) = 0) → (allB (out ++ fs) n).1 = 0 → readR n fs.length (fs.flatMap (factB n), 0) out = (0, out ++ fs)
  | [], out, _, ha => by
    rw [List.append_nil] at ha ⊢
    show (if (0 : Nat) ≠ 0 then _ else if 0 < ([] : List UInt8).length then _ else if (allB out n).1 ≠ 0 then _ else (0, out)) = _
    simp [ha]
  | f :: fs, out, hc, ha => by
    have hf := hc f (by simp)
    obtain ⟨h1, h2⟩ := one_back hn1 hn hf (fs.flatMap (factB n))
    have hg := good_chk hf
    have ih := readR_back hn1 hn fs (out ++ [f]) (fun g hg => hc g (by simp [hg])) (by simpa using ha)
    show readR n (fs.length + 1) (factB n f ++ fs.flatMap (factB n), 0) out = _
    unfold readR
    rw [h1, h2, if_neg (by have := hg.h1; omega), if_neg (by simp), ih]
    simp
theorem readB_back {l : List F9} {n : Int} (h : (allB l n).1 = 0) : readB (batchB l n.toNat) n = (0, l) := by
  obtain ⟨⟨n1, n4⟩, ⟨l1, l50⟩, hc, _⟩ := all_good h
  obtain ⟨N, rfl⟩ := Int.eq_ofNat_of_zero_le (show 0 ≤ n by omega)
  have hd : okDims (N : Int) = true := by unfold okDims; simp [n1, n4]
  unfold readB
  rw [if_pos hd, Int.toNat_natCast]
  obtain ⟨c1, c2⟩ := count_back l50 (l.flatMap (factB N))
  have e : batchB l N = enc l.length ++ l.flatMap (factB N) := rfl
  rw [e, c1, c2]
  have := readR_back (by omega) (by omega) l [] hc (by simpa using h)
  simpa using this

end Go.Proofs.Ytklpmajaihmmfaa

/-
  Stage 13, plain: four things; queries, what is right, what matches, groups, cuts.
-/
namespace Go.Proofs.Ytklpmajaihmmfaa
open Go.RowKit

/-- Four things. -/
structure V4 (A : Type) where
  a : A
  b : A
  c : A
  d : A
deriving DecidableEq
def V4.nth {A : Type} (v : V4 A) : Nat → A
  | 0 => v.a
  | 1 => v.b
  | 2 => v.c
  | _ => v.d
def V4.put {A : Type} (v : V4 A) (i : Nat) (x : A) : V4 A :=
  match i with
  | 0 => { v with a := x }
  | 1 => { v with b := x }
  | 2 => { v with c := x }
  | _ => { v with d := x }
def V4.fill {A : Type} (x : A) : V4 A := ⟨x, x, x, x⟩
section
variable {A : Type} {v u : V4 A} {x : A}
theorem V4.same (h : ∀ i, i < 4 → v.nth i = u.nth i) : v = u := by
  have e0 := h 0 (by omega)
  have e1 := h 1 (by omega)
  have e2 := h 2 (by omega)
  have e3 := h 3 (by omega)
  cases v; cases u
  simp only [V4.nth] at e0 e1 e2 e3
  rw [e0, e1, e2, e3]
theorem V4.iff : v = u ↔ ∀ i, i < 4 → v.nth i = u.nth i := ⟨fun e _ _ => by rw [e], V4.same⟩
theorem V4.nth_put {i j : Nat} (hi : i < 4) (hj : j < 4) : (v.put i x).nth j = if i = j then x else v.nth j := by
  match i, hi, j, hj with
  | 0, _, 0, _ => rfl
  | 0, _, 1, _ => rfl
  | 0, _, 2, _ => rfl
  | 0, _, 3, _ => rfl
  | 1, _, 0, _ => rfl
  | 1, _, 1, _ => rfl
  | 1, _, 2, _ => rfl
  | 1, _, 3, _ => rfl
  | 2, _, 0, _ => rfl
  | 2, _, 1, _ => rfl
  | 2, _, 2, _ => rfl
  | 2, _, 3, _ => rfl
  | 3, _, 0, _ => rfl
  | 3, _, 1, _ => rfl
  | 3, _, 2, _ => rfl
  | 3, _, 3, _ => rfl
theorem V4.nth_fill (i : Nat) : (V4.fill x).nth i = x := by
  unfold V4.nth
  split <;> rfl
end

/-- What stands in those dimensions, and nothing in the others; so far as it has been laid. -/
def onlyP {A : Type} (z : A) (t : V4 A) (w : V4 Bool) : V4 A := ⟨if w.a then t.a else z, if w.b then t.b else z, if w.c then t.c else z, if w.d then t.d else z⟩
def onlyN {A : Type} (z : A) (t : V4 A) (w : V4 Bool) : Nat → V4 A
  | 0 => V4.fill z
  | i + 1 => if w.nth i then (onlyN z t w i).put i (t.nth i) else onlyN z t w i
theorem only_nth {A : Type} (z : A) (t : V4 A) (w : V4 Bool) {i : Nat} (hi : i < 4) : (onlyP z t w).nth i = if w.nth i then t.nth i else z := by
  match i, hi with
  | 0, _ => rfl
  | 1, _ => rfl
  | 2, _ => rfl
  | 3, _ => rfl
theorem onlyN_four {A : Type} (z : A) (t : V4 A) (w : V4 Bool) : onlyN z t w 4 = onlyP z t w := by
  obtain ⟨a, b, c, d⟩ := w
  cases a <;> cases b <;> cases c <;> cases d <;> rfl
/-- The first dimensions, so many of them. -/
def firstN : Nat → V4 Bool
  | 0 => V4.fill false
  | i + 1 => (firstN i).put i true
theorem first_nth {n i : Nat} (hn : n ≤ 4) (hi : i < 4) : (firstN n).nth i = decide (i < n) := by
  induction n with
  | zero => rw [firstN, V4.nth_fill]; simp
  | succ n ih =>
    rw [firstN, V4.nth_put (by omega) hi, ih (by omega)]
    by_cases e : n = i
    · subst e; simp
    · rw [if_neg e]
      by_cases h : i < n
      · rw [decide_eq_true h, decide_eq_true (show i < n + 1 by omega)]
      · rw [decide_eq_false h, decide_eq_false (show ¬ i < n + 1 by omega)]

/-- A query. -/
structure Q13 where
  lo : Int
  hi : Int
  g : V4 Bool
  h : V4 Bool
  f : V4 (List UInt8)
deriving DecidableEq
def zeroQ : Q13 := ⟨0, 0, V4.fill false, V4.fill false, V4.fill []⟩
/-- Texts as a key's, and a key's texts. -/
def kOf (t : V4 (List UInt8)) : K9 := ⟨0, t.a, t.b, t.c, t.d⟩
def txOf (k : K9) : V4 (List UInt8) := ⟨k.a, k.b, k.c, k.d⟩
theorem kOf_dim (t : V4 (List UInt8)) : ∀ i : Nat, (kOf t).dim i = t.nth i
  | 0 => rfl
  | 1 => rfl
  | 2 => rfl
  | _ + 3 => rfl
theorem txOf_nth (k : K9) : ∀ i : Nat, (txOf k).nth i = k.dim i
  | 0 => rfl
  | 1 => rfl
  | 2 => rfl
  | _ + 3 => rfl
theorem kOf_put (t : V4 (List UInt8)) (x : List UInt8) : ∀ i : Nat, (kOf t).put i x = kOf (t.put i x)
  | 0 => rfl
  | 1 => rfl
  | 2 => rfl
  | _ + 3 => rfl

/-- What is right in a dimension. -/
def okD (n : Int) (i : Nat) (g h : Bool) (t : List UInt8) : Bool := !((decide (n ≤ (i : Int)) && (g || h || !t.isEmpty)) || decide (16 < t.length) || (!h && !t.isEmpty))
def okQ (n : Int) (q : Q13) : Bool := okD n 0 q.g.a q.h.a q.f.a && okD n 1 q.g.b q.h.b q.f.b && okD n 2 q.g.c q.h.c q.f.c && okD n 3 q.g.d q.h.d q.f.d
def chkQ (q : Q13) (n : Int) : Int :=
  if okDims n then if 0 ≤ q.lo ∧ q.lo ≤ q.hi ∧ q.hi ≤ 16777217 then if okQ n q then 0 else 4 else 2 else 1
theorem okQ_iff {n : Int} {q : Q13} : okQ n q = true ↔ ∀ i, i < 4 → okD n i (q.g.nth i) (q.h.nth i) (q.f.nth i) = true := by
  refine ⟨fun h i hi => ?_, fun h => ?_⟩
  · simp only [okQ, Bool.and_eq_true] at h
    match i, hi with
    | 0, _ => exact h.1.1.1
    | 1, _ => exact h.1.1.2
    | 2, _ => exact h.1.2
    | 3, _ => exact h.2
  · have e0 := h 0 (by omega)
    have e1 := h 1 (by omega)
    have e2 := h 2 (by omega)
    have e3 := h 3 (by omega)
    simp only [V4.nth] at e0 e1 e2 e3
    simp [okQ, e0, e1, e2, e3]
theorem okQ_not {n : Int} {q : Q13} {i : Nat} (hi : i < 4) (h : okD n i (q.g.nth i) (q.h.nth i) (q.f.nth i) = false) : okQ n q = false := by
  cases e : okQ n q with
  | false => rfl
  | true => rw [okQ_iff.1 e i hi] at h; cases h
theorem okTexts_iff {n : Int} {k : K9} : okTexts n k = true ↔ ∀ i, i < 4 → okText n i (k.dim i) = true := by
  refine ⟨fun h i hi => ?_, okTexts_all⟩
  cases e : okText n i (k.dim i) with
  | true => rfl
  | false => rw [okTexts_not hi e] at h; cases h
theorem okD_parts {n : Nat} {i : Nat} {g h : Bool} {t : List UInt8} : okD n i g h t = true ↔ g = (if decide (i < n) then g else false) ∧ h = (if decide (i < n) then h else false) ∧ t = (if h then t else []) ∧ okText n i t = true := by
  by_cases hi : i < n
  · have h1 : ¬ ((n : Int) ≤ (i : Int)) := by omega
    have h2 : (i : Int) < n := by omega
    cases h <;> cases t <;> simp [okD, okText, hi, h1, h2]
  · have h1 : (n : Int) ≤ (i : Int) := by omega
    have h2 : ¬ ((i : Int) < n) := by omega
    cases g <;> cases h <;> cases t <;> simp [okD, okText, hi, h1, h2]
theorem okQ_parts {n : Nat} (hn : n ≤ 4) {q : Q13} : okQ n q = (decide (q.g = onlyP false q.g (firstN n)) && decide (q.h = onlyP false q.h (firstN n)) && decide (q.f = onlyP [] q.f q.h) && okTexts n (kOf q.f)) := by
  rw [Bool.eq_iff_iff]
  simp only [Bool.and_eq_true, decide_eq_true_iff, okTexts_iff, okQ_iff]
  rw [V4.iff (v := q.g), V4.iff (v := q.h), V4.iff (v := q.f)]
  refine ⟨fun h => ⟨⟨⟨fun i hi => ?_, fun i hi => ?_⟩, fun i hi => ?_⟩, fun i hi => ?_⟩, fun h i hi => ?_⟩
  · rw [only_nth _ _ _ hi, first_nth hn hi]; exact (okD_parts.1 (h i hi)).1
  · rw [only_nth _ _ _ hi, first_nth hn hi]; exact (okD_parts.1 (h i hi)).2.1
  · rw [only_nth _ _ _ hi]; exact (okD_parts.1 (h i hi)).2.2.1
  · rw [kOf_dim]; exact (okD_parts.1 (h i hi)).2.2.2
  · have h1 := h.1.1.1 i hi
    have h2 := h.1.1.2 i hi
    have h3 := h.1.2 i hi
    have h4 := h.2 i hi
    rw [only_nth _ _ _ hi, first_nth hn hi] at h1 h2
    rw [only_nth _ _ _ hi] at h3
    rw [kOf_dim] at h4
    exact okD_parts.2 ⟨h1, h2, h3, h4⟩
theorem okDims_nat {n : Int} (h : 1 ≤ n ∧ n ≤ 4) : okDims n = true := by simp [okDims, h]
theorem okDims_no {n : Int} (h : ¬ (1 ≤ n ∧ n ≤ 4)) : okDims n = false := by unfold okDims; simpa using h
theorem chkQ_dims {q : Q13} {n : Int} (h : ¬ (1 ≤ n ∧ n ≤ 4)) : chkQ q n = 1 := by unfold chkQ; rw [okDims_no h]; rfl
theorem chkQ_range {q : Q13} {n : Int} (h : 1 ≤ n ∧ n ≤ 4) (hr : ¬ (0 ≤ q.lo ∧ q.lo ≤ q.hi ∧ q.hi ≤ 16777217)) : chkQ q n = 2 := by unfold chkQ; rw [okDims_nat h, if_pos rfl, if_neg hr]
theorem chkQ_text {q : Q13} {n : Int} (h : 1 ≤ n ∧ n ≤ 4) (hr : 0 ≤ q.lo ∧ q.lo ≤ q.hi ∧ q.hi ≤ 16777217) (ho : okQ n q = false) : chkQ q n = 4 := by unfold chkQ; rw [okDims_nat h, if_pos rfl, if_pos hr, ho]; rfl
theorem chkQ_ok {q : Q13} {n : Int} (h : 1 ≤ n ∧ n ≤ 4) (hr : 0 ≤ q.lo ∧ q.lo ≤ q.hi ∧ q.hi ≤ 16777217) (ho : okQ n q = true) : chkQ q n = 0 := by unfold chkQ; rw [okDims_nat h, if_pos rfl, if_pos hr, ho]; rfl
theorem chkQ_good {q : Q13} {n : Int} (h : chkQ q n = 0) : (1 ≤ n ∧ n ≤ 4) ∧ (0 ≤ q.lo ∧ q.lo ≤ q.hi ∧ q.hi ≤ 16777217) ∧ okQ n q = true := by
  by_cases h1 : 1 ≤ n ∧ n ≤ 4
  · by_cases h2 : 0 ≤ q.lo ∧ q.lo ≤ q.hi ∧ q.hi ≤ 16777217
    · cases h3 : okQ n q with
      | true => exact ⟨h1, h2, rfl⟩
      | false => rw [chkQ_text h1 h2 h3] at h; cases h
    · rw [chkQ_range h1 h2] at h; cases h
  · rw [chkQ_dims h1] at h; cases h

/-- Does a key match; its group; what is cut. -/
def matchB (q : Q13) (k : K9) : Bool := decide (q.lo ≤ k.h) && decide (k.h < q.hi) && decide (onlyP [] (txOf k) q.h = onlyP [] q.f q.h)
def groupK (q : Q13) (k : K9) : K9 := kOf (onlyP [] (txOf k) q.g)
def cutQ (q : Q13) (x : Int) : Q13 := { q with lo := max q.lo x, hi := max q.hi (max q.lo x) }
theorem match_iff {q : Q13} {k : K9} : onlyP [] (txOf k) q.h = onlyP [] q.f q.h ↔ ∀ i, i < 4 → q.h.nth i = true → q.f.nth i = k.dim i := by
  rw [V4.iff]
  refine ⟨fun h i hi ht => ?_, fun h i hi => ?_⟩
  · have := h i hi
    rw [only_nth _ _ _ hi, only_nth _ _ _ hi, ht, txOf_nth] at this
    exact this.symm
  · rw [only_nth _ _ _ hi, only_nth _ _ _ hi, txOf_nth]
    cases ht : q.h.nth i with
    | false => rfl
    | true => simp [h i hi ht]
theorem match_cut (q : Q13) (k : K9) (x : Int) : matchB (cutQ q x) k = (matchB q k && decide (x ≤ k.h)) := by
  have e : (max q.lo x ≤ k.h ∧ k.h < max q.hi (max q.lo x)) ↔ (q.lo ≤ k.h ∧ k.h < q.hi) ∧ x ≤ k.h := by omega
  have e1 : matchB (cutQ q x) k = (decide (max q.lo x ≤ k.h) && decide (k.h < max q.hi (max q.lo x)) && decide (onlyP [] (txOf k) q.h = onlyP [] q.f q.h)) := rfl
  rw [e1, Bool.eq_iff_iff]
  unfold matchB
  simp only [Bool.and_eq_true, decide_eq_true_iff]
  constructor
  · rintro ⟨h1, h2⟩
    have := e.1 h1
    exact ⟨⟨this.1, h2⟩, this.2⟩
  · rintro ⟨⟨h1, h2⟩, h3⟩
    exact ⟨e.2 ⟨h1, h3⟩, h2⟩

end Go.Proofs.Ytklpmajaihmmfaa

/-
  Stage 9: keys and facts held against each other by ==.
-/
namespace Go.Proofs.Ytklpmajaihmmfaa
open Go.RowKit

theorem bytes_beq9 (a b : List UInt8) : ((⟨a.toArray⟩ : ByteArray).toList == (⟨b.toArray⟩ : ByteArray).toList) = decide (a = b) := by
  rw [ByteArray.toList_eq, ByteArray.toList_eq]
  by_cases h : a = b
  · subst h; simp
  · simp [h]
theorem eq_texts9 (d : Nat) (a0 a1 a2 a3 b0 b1 b2 b3 : List UInt8) (w : World) :
    (Op.equalIn (d + 2) 23 (.agg #[sv9 a0, sv9 a1, sv9 a2, sv9 a3]) (.agg #[sv9 b0, sv9 b1, sv9 b2, sv9 b3])).run Try.prog w = .ok (decide (a0 = b0) && decide (a1 = b1) && decide (a2 = b2) && decide (a3 = b3)) w := by
  have u3 := Try.underlying9
  have a3' := Try.isAgg9
  have z3 := Try.sizeOf9
  rw [Op.equalIn]
  simp only [Sem.run_bind, run_underlying Try.underlying23, Result.andThen_ok]
  simp only [Std.Legacy.Range.forIn_eq_forIn_range', Std.Legacy.Range.size, Nat.sub_zero, Nat.add_sub_cancel, Nat.div_one, List.range'_succ, List.range'_zero, List.forIn_cons, List.forIn_nil]
  go_simp
  by_cases h0 : a0 = b0 <;> by_cases h1 : a1 = b1 <;> by_cases h2 : a2 = b2 <;> by_cases h3 : a3 = b3 <;> simp [h0, h1, h2, h3]

theorem eq_key9 (d : Nat) (p q : K9) (w : World) : (Op.equalIn (d + 3) 44 (kv9 p) (kv9 q)).run Try.prog w = .ok (decide (p = q)) w := by
  have hS : Try.prog.underlying 44 = some (.struct (Try.prog.fieldsOf 44)) := by kernel_rfl
  have hp : Try.prog.stoodInHeld 44 = false := by kernel_rfl
  have u2 := Try.underlying2
  have i2 := Try.isAgg2
  have z2 := Try.sizeOf2
  have i4 := Try.isAgg23
  have z4 := Try.sizeOf23
  have key := eq_texts9 d p.a p.b p.c p.d q.a q.b q.c q.d
  rw [run_equalIn_agg w (d + 2) 44 _ _ hS hp]
  simp only [Program.fieldsOf, Try.underlying44]
  go_simp
  obtain ⟨h, a, b, c, e⟩ := p
  obtain ⟨h', a', b', c', e'⟩ := q
  by_cases h0 : h = h' <;> by_cases h1 : a = a' <;> by_cases h2 : b = b' <;> by_cases h3 : c = c' <;> by_cases h4 : e = e' <;> simp [h0, h1, h2, h3, h4]
theorem eq_fact9 (d : Nat) (f g : F9) (w : World) : (Op.equalIn (d + 4) 46 (fv9 f) (fv9 g)).run Try.prog w = .ok (decide (f = g)) w := by
  have hS : Try.prog.underlying 46 = some (.struct (Try.prog.fieldsOf 46)) := by kernel_rfl
  have hp : Try.prog.stoodInHeld 46 = false := by kernel_rfl
  have u2 := Try.underlying2
  have i2 := Try.isAgg2
  have z2 := Try.sizeOf2
  have i4 := Try.isAgg44
  have z4 := Try.sizeOf44
  have key := eq_key9 d f.k g.k
  rw [run_equalIn_agg w (d + 3) 46 _ _ hS hp]
  simp only [Program.fieldsOf, Try.underlying46]
  go_simp
  obtain ⟨k, v⟩ := f
  obtain ⟨k', v'⟩ := g
  by_cases h0 : k = k' <;> by_cases h1 : v = v' <;> simp [h0, h1]
theorem run_neq_fact (f g : F9) (w : World) : (binOp .neq 46 (fv9 f) (fv9 g)).run Try.prog w = .ok (.bool (!decide (f = g))) w := by
  rw [run_neq_struct, show (10000 : Nat) = 9996 + 4 from rfl, eq_fact9]
  rfl
theorem run_eql_fact (f g : F9) (w : World) : (binOp .eql 46 (fv9 f) (fv9 g)).run Try.prog w = .ok (.bool (decide (f = g))) w := by
  rw [run_eql_struct, show (10000 : Nat) = 9996 + 4 from rfl, eq_fact9]
  rfl
theorem run_neq_key (p q : K9) (w : World) : (binOp .neq 44 (kv9 p) (kv9 q)).run Try.prog w = .ok (.bool (!decide (p = q))) w := by
  rw [run_neq_struct, show (10000 : Nat) = 9997 + 3 from rfl, eq_key9]
  rfl
theorem run_eql_key (p q : K9) (w : World) : (binOp .eql 44 (kv9 p) (kv9 q)).run Try.prog w = .ok (.bool (decide (p = q))) w := by
  rw [run_eql_struct, show (10000 : Nat) = 9997 + 3 from rfl, eq_key9]
  rfl
theorem guard_fact9 (op : BinOp) (x y : Operand) (f g : F9) (w : World) : (eqGuard op 46 x y (fv9 f) (fv9 g)).run Try.prog w = .ok () w := run_eqGuard_agg w op _ x y _ _ (by kernel_rfl)
theorem guard_key9 (op : BinOp) (x y : Operand) (p q : K9) (w : World) : (eqGuard op 44 x y (kv9 p) (kv9 q)).run Try.prog w = .ok () w := run_eqGuard_agg w op _ x y _ _ (by kernel_rfl)

end Go.Proofs.Ytklpmajaihmmfaa

/-
  A struct stored whole into a box, in a region that draws. No type is named here.
-/
namespace Go.Proofs.Ytklpmajaihmmfaa
open Go.RowKit

theorem put_box {P : Program} {ops : Array Oper} {ty rt : TypeId} {pos : String} {af : Array Edge} {px vx : Operand} {a : Act} {w : World} {K : Act → World → Prop} {Q : Exit → Act → World → Prop} {F : Prop}
    (b o : Nat) (cs : Array Value) (ht : w.there b o cs.size) (hp : a.eval px = .pointer (some ⟨b, o, none⟩)) (hv : a.eval vx = .agg cs) (hi : (P.info? ty).map (·.size) = some cs.size) (h1 : cs.all (·.oneCell') = true)
    (h : K a (w.setCells b o cs.toList)) :
    if Region.wanted { dst := none, op := .store ty px vx, type := rt, pos := pos, after := af, guard := none } (yielded ops a.tmps) = true then Oper.wp P { dst := none, op := .store ty px vx, type := rt, pos := pos, after := af, guard := none } a w K Q else F := by
  rw [if_pos (by rfl)]
  exact wp_store_mid ty px vx rfl b o cs hp hv ht hi h1 h
/-- A box, whole: there to be stored into. -/
theorem Box.there {w : World} {g : Nat} {t : TypeId} {cs : Array Value} (h : Box w g t cs) {n : Nat} (hn : n ≤ cs.size) : w.there g 0 n := fun i hi => by
  refine ⟨?_, h.free _⟩
  rw [h.cell, Nat.zero_add, Array.getElem?_eq_getElem (by omega)]
  rfl
/-- A box stored whole. -/
theorem Box.all {w : World} {g : Nat} {t : TypeId} {cs : Array Value} (h : Box w g t cs) (ds : Array Value) (hd : ds.size = cs.size) : Box (w.setCells g 0 ds.toList) g t ds := by
  have h1 := h.setCells ds.toList 0 cs w (by rw [Array.length_toList]; omega)
  have e : (cs.toList.take 0 ++ ds.toList ++ cs.toList.drop (0 + ds.toList.length)).toArray = ds := by
    rw [List.take_zero, List.nil_append, Nat.zero_add, List.drop_of_length_le (by rw [Array.length_toList, Array.length_toList]; omega), List.append_nil, Array.toArray_toList]
  rwa [e] at h1

section
variable {T : Type} {E : El T} {e : TypeId} {w : World} {ad : Addr} {n c : Nat} {L : List T}
/-- One element stored into a row, in a region that draws nothing. -/
theorem wpList_put {P : Program} {ops : Array Oper} {rest : List Oper} {op : Oper} {a : Act} {Q : Exit → Act → World → Prop} (hgd : op.guard = none) (ty : TypeId) (x y : Operand) (ho : op.op = .store ty x y)
    (hown : OwE E e w (.slice (some ad) n c) L) (j : Nat) (t : T) (hj : j < L.length) (hx : a.eval x = .pointer (some (ad.add (j * E.sz)))) (hy : a.eval y = .agg (E.enc t).toArray) (hi : (P.info? ty).map (·.size) = some E.sz)
    (h : ∀ w', OwE E e w' (.slice (some ad) n c) (L.set j t) → Turn (fun k => k = ad.block) w w' → wpList P ops Q rest (a.put op.dst undef) w') : wpList P ops Q (op :: rest) a w := by
  obtain ⟨cur, ha, -⟩ := hown.home
  have hadd : ad.add (j * E.sz) = ⟨ad.block, ad.off + j * E.sz, none⟩ := by
    obtain ⟨b, o, s⟩ := ad
    simp only [Addr.mk.injEq, true_and] at ha
    obtain ⟨rfl, rfl⟩ := ha
    rw [own_add, Nat.zero_add]
  refine wpList_store_mid hgd ty x y ho ad.block (ad.off + j * E.sz) (E.enc t).toArray (by rw [hx, hadd]) hy (by rw [List.size_toArray, E.len]; exact hown.there hj) (by rw [List.size_toArray, E.len]; exact hi) (all_oneCell_toArray (E.one t)) ?_
  exact h _ (hown.put hj t) (turn_setCells (S := fun k => k = ad.block) rfl _ _ _)
/-- The cells that make lays: so many zeros. -/
theorem made_flat (t : T) (h0 : 0 < E.sz) (N : Nat) : (madeCells (E.enc t).toArray (N * E.sz)).toList = E.flat (List.replicate N t) := by
  refine List.ext_getElem? fun j => ?_
  have hfl : (E.flat (List.replicate N t)).length = N * E.sz := by rw [E.flat_len, List.length_replicate]
  by_cases hj : j < N * E.sz
  · have hm : j % E.sz < E.sz := Nat.mod_lt _ h0
    have hd : j / E.sz < N := Nat.div_lt_of_lt_mul (by rw [Nat.mul_comm]; exact hj)
    have e := E.flat_at (l := List.replicate N t) (j := j / E.sz) (t := t) (by rw [List.getElem?_replicate, if_pos hd]) hm
    rw [Nat.mul_comm, Nat.div_add_mod] at e
    rw [e]
    have hmz : j % E.sz < (E.enc t).length := by rw [E.len]; exact hm
    simp [madeCells, hj, E.len]
    rw [List.getElem?_eq_getElem hmz]
    rfl
  · rw [List.getElem?_eq_none (by rw [Array.length_toList, size_madeCells]; omega), List.getElem?_eq_none (by omega)]
end

end Go.Proofs.Ytklpmajaihmmfaa

/-
  Stage 13: queries and keys in memory, held against each other by ==.
-/
namespace Go.Proofs.Ytklpmajaihmmfaa
open Go.RowKit

/-- Four flags, four texts, a query, as cells. -/
abbrev bs13 (v : V4 Bool) : Array Value := #[.bool v.a, .bool v.b, .bool v.c, .bool v.d]
abbrev ts13 (v : V4 (List UInt8)) : Array Value := #[sv9 v.a, sv9 v.b, sv9 v.c, sv9 v.d]
abbrev cells13 (q : Q13) : Array Value := #[.int .i64 q.lo, .int .i64 q.hi, .bool q.g.a, .bool q.g.b, .bool q.g.c, .bool q.g.d, .bool q.h.a, .bool q.h.b, .bool q.h.c, .bool q.h.d, sv9 q.f.a, sv9 q.f.b, sv9 q.f.c, sv9 q.f.d]
abbrev qv13 (q : Q13) : Value := .agg (cells13 q)

theorem eq_bools13 (d : Nat) (v u : V4 Bool) (w : World) :
    (Op.equalIn (d + 2) 22 (.agg (bs13 v)) (.agg (bs13 u))).run Try.prog w = .ok (decide (v = u)) w := by
  have u3 := Try.underlying4
  have a3' := Try.isAgg4
  have z3 := Try.sizeOf4
  obtain ⟨a0, a1, a2, a3⟩ := v
  obtain ⟨b0, b1, b2, b3⟩ := u
  rw [Op.equalIn]
  simp only [Sem.run_bind, run_underlying Try.underlying22, Result.andThen_ok]
  simp only [Std.Legacy.Range.forIn_eq_forIn_range', Std.Legacy.Range.size, Nat.sub_zero, Nat.add_sub_cancel, Nat.div_one, List.range'_succ, List.range'_zero, List.forIn_cons, List.forIn_nil]
  go_simp
  by_cases h0 : a0 = b0 <;> by_cases h1 : a1 = b1 <;> by_cases h2 : a2 = b2 <;> by_cases h3 : a3 = b3 <;> simp [h0, h1, h2, h3]
theorem eq_four13 (d : Nat) (v u : V4 (List UInt8)) (w : World) :
    (Op.equalIn (d + 2) 23 (.agg (ts13 v)) (.agg (ts13 u))).run Try.prog w = .ok (decide (v = u)) w := by
  rw [eq_texts9]
  obtain ⟨a0, a1, a2, a3⟩ := v
  obtain ⟨b0, b1, b2, b3⟩ := u
  by_cases h0 : a0 = b0 <;> by_cases h1 : a1 = b1 <;> by_cases h2 : a2 = b2 <;> by_cases h3 : a3 = b3 <;> simp [h0, h1, h2, h3]
theorem eq_query13 (d : Nat) (p q : Q13) (w : World) : (Op.equalIn (d + 3) 25 (qv13 p) (qv13 q)).run Try.prog w = .ok (decide (p = q)) w := by
  have hS : Try.prog.underlying 25 = some (.struct (Try.prog.fieldsOf 25)) := by kernel_rfl
  have hp : Try.prog.stoodInHeld 25 = false := by kernel_rfl
  have u2 := Try.underlying2
  have i2 := Try.isAgg2
  have z2 := Try.sizeOf2
  have i4 := Try.isAgg23
  have z4 := Try.sizeOf23
  have i5 := Try.isAgg22
  have z5 := Try.sizeOf22
  have k1 := eq_bools13 d p.g q.g
  have k2 := eq_bools13 d p.h q.h
  have k3 := eq_four13 d p.f q.f
  rw [run_equalIn_agg w (d + 2) 25 _ _ hS hp]
  simp only [Program.fieldsOf, Try.underlying25]
  go_simp
  obtain ⟨lo, hi, g, h, f⟩ := p
  obtain ⟨lo', hi', g', h', f'⟩ := q
  by_cases h0 : lo = lo' <;> by_cases h1 : hi = hi' <;> by_cases h2 : g = g' <;> by_cases h3 : h = h' <;> by_cases h4 : f = f' <;> simp [h0, h1, h2, h3, h4]
theorem run_neq_query13 (p q : Q13) (w : World) : (binOp .neq 25 (qv13 p) (qv13 q)).run Try.prog w = .ok (.bool (!decide (p = q))) w := by
  rw [run_neq_struct, show (10000 : Nat) = 9997 + 3 from rfl, eq_query13]
  rfl
theorem run_eql_query13 (p q : Q13) (w : World) : (binOp .eql 25 (qv13 p) (qv13 q)).run Try.prog w = .ok (.bool (decide (p = q))) w := by
  rw [run_eql_struct, show (10000 : Nat) = 9997 + 3 from rfl, eq_query13]
  rfl
theorem run_neq_bools13 (p q : V4 Bool) (w : World) : (binOp .neq 22 (.agg (bs13 p)) (.agg (bs13 q))).run Try.prog w = .ok (.bool (!decide (p = q))) w := by
  rw [run_neq_struct, show (10000 : Nat) = 9998 + 2 from rfl, eq_bools13]
  rfl
theorem run_neq_four13 (p q : V4 (List UInt8)) (w : World) : (binOp .neq 23 (.agg (ts13 p)) (.agg (ts13 q))).run Try.prog w = .ok (.bool (!decide (p = q))) w := by
  rw [run_neq_struct, show (10000 : Nat) = 9998 + 2 from rfl, eq_four13]
  rfl
theorem run_eql_four13 (p q : V4 (List UInt8)) (w : World) : (binOp .eql 23 (.agg (ts13 p)) (.agg (ts13 q))).run Try.prog w = .ok (.bool (decide (p = q))) w := by
  rw [run_eql_struct, show (10000 : Nat) = 9998 + 2 from rfl, eq_four13]
  rfl
theorem guard_query13 (op : BinOp) (x y : Operand) (f g : Q13) (w : World) : (eqGuard op 25 x y (qv13 f) (qv13 g)).run Try.prog w = .ok () w := run_eqGuard_agg w op _ x y _ _ (by kernel_rfl)
theorem guard_bools13 (op : BinOp) (x y : Operand) (f g : V4 Bool) (w : World) : (eqGuard op 22 x y (.agg (bs13 f)) (.agg (bs13 g))).run Try.prog w = .ok () w := run_eqGuard_agg w op _ x y _ _ (by kernel_rfl)
theorem guard_four13 (op : BinOp) (x y : Operand) (f g : V4 (List UInt8)) (w : World) : (eqGuard op 23 x y (.agg (ts13 f)) (.agg (ts13 g))).run Try.prog w = .ok () w := run_eqGuard_agg w op _ x y _ _ (by kernel_rfl)

theorem nth_bs13 (v : V4 Bool) {i : Nat} (hi : i < 4) : (bs13 v)[i]? = some (.bool (v.nth i)) := by
  match i, hi with
  | 0, _ => rfl
  | 1, _ => rfl
  | 2, _ => rfl
  | 3, _ => rfl
theorem nth_ts13 (v : V4 (List UInt8)) {i : Nat} (hi : i < 4) : (ts13 v)[i]? = some (sv9 (v.nth i)) := by
  match i, hi with
  | 0, _ => rfl
  | 1, _ => rfl
  | 2, _ => rfl
  | 3, _ => rfl
theorem put_bs13 (v : V4 Bool) (x : Bool) {i : Nat} (hi : i < 4) : (bs13 v).setIfInBounds i (.bool x) = bs13 (v.put i x) := by
  match i, hi with
  | 0, _ => rfl
  | 1, _ => rfl
  | 2, _ => rfl
  | 3, _ => rfl
theorem put_ts13 (v : V4 (List UInt8)) (x : List UInt8) {i : Nat} (hi : i < 4) : (ts13 v).setIfInBounds i (sv9 x) = ts13 (v.put i x) := by
  match i, hi with
  | 0, _ => rfl
  | 1, _ => rfl
  | 2, _ => rfl
  | 3, _ => rfl
set_option maxRecDepth 100000 in
theorem index_bs13 (v : V4 Bool) {i : Nat} (hi : i < 4) (W : World) : Sem.run Try.prog (Instr.index 22 (.agg (bs13 v)) (.int .i64 (i : Int))) W = .ok (.bool (v.nth i)) W := by
  match i, hi with
  | 0, _ => rfl
  | 1, _ => rfl
  | 2, _ => rfl
  | 3, _ => rfl
/-- A query's parts, by their places. -/
theorem q_group13 (q : Q13) {i : Nat} (hi : i < 4) : (cells13 q)[2 + i]? = some (.bool (q.g.nth i)) := by
  match i, hi with
  | 0, _ => rfl
  | 1, _ => rfl
  | 2, _ => rfl
  | 3, _ => rfl
theorem q_has13 (q : Q13) {i : Nat} (hi : i < 4) : (cells13 q)[6 + i]? = some (.bool (q.h.nth i)) := by
  match i, hi with
  | 0, _ => rfl
  | 1, _ => rfl
  | 2, _ => rfl
  | 3, _ => rfl
theorem q_text13 (q : Q13) {i : Nat} (hi : i < 4) : (cells13 q)[10 + i]? = some (sv9 (q.f.nth i)) := by
  match i, hi with
  | 0, _ => rfl
  | 1, _ => rfl
  | 2, _ => rfl
  | 3, _ => rfl
theorem put_group13 (q : Q13) (x : Bool) {i : Nat} (hi : i < 4) : (cells13 q).setIfInBounds (2 + i) (.bool x) = cells13 { q with g := q.g.put i x } := by
  match i, hi with
  | 0, _ => rfl
  | 1, _ => rfl
  | 2, _ => rfl
  | 3, _ => rfl
theorem put_has13 (q : Q13) (x : Bool) {i : Nat} (hi : i < 4) : (cells13 q).setIfInBounds (6 + i) (.bool x) = cells13 { q with h := q.h.put i x } := by
  match i, hi with
  | 0, _ => rfl
  | 1, _ => rfl
  | 2, _ => rfl
  | 3, _ => rfl
theorem put_text13 (q : Q13) (x : List UInt8) {i : Nat} (hi : i < 4) : (cells13 q).setIfInBounds (10 + i) (sv9 x) = cells13 { q with f := q.f.put i x } := by
  match i, hi with
  | 0, _ => rfl
  | 1, _ => rfl
  | 2, _ => rfl
  | 3, _ => rfl
/-- A query's box, cell by cell. -/
theorem box_query13 {w : World} {g : Nat} {q : Q13} (h : Box w g 25 (cells13 q)) : w.cell? ⟨g, 0, none⟩ = some (.int .i64 q.lo) ∧ w.cell? ⟨g, 1, none⟩ = some (.int .i64 q.hi) ∧
    w.cell? ⟨g, 2, none⟩ = some (.bool q.g.a) ∧ w.cell? ⟨g, 3, none⟩ = some (.bool q.g.b) ∧ w.cell? ⟨g, 4, none⟩ = some (.bool q.g.c) ∧ w.cell? ⟨g, 5, none⟩ = some (.bool q.g.d) ∧
    w.cell? ⟨g, 6, none⟩ = some (.bool q.h.a) ∧ w.cell? ⟨g, 7, none⟩ = some (.bool q.h.b) ∧ w.cell? ⟨g, 8, none⟩ = some (.bool q.h.c) ∧ w.cell? ⟨g, 9, none⟩ = some (.bool q.h.d) ∧
    w.cell? ⟨g, 10, none⟩ = some (sv9 q.f.a) ∧ w.cell? ⟨g, 11, none⟩ = some (sv9 q.f.b) ∧ w.cell? ⟨g, 12, none⟩ = some (sv9 q.f.c) ∧ w.cell? ⟨g, 13, none⟩ = some (sv9 q.f.d) :=
  ⟨h.cell 0, h.cell 1, h.cell 2, h.cell 3, h.cell 4, h.cell 5, h.cell 6, h.cell 7, h.cell 8, h.cell 9, h.cell 10, h.cell 11, h.cell 12, h.cell 13⟩
theorem box_key13 {w : World} {g : Nat} {k : K9} (h : Box w g 44 #[.int .i64 k.h, sv9 k.a, sv9 k.b, sv9 k.c, sv9 k.d]) : w.cell? ⟨g, 0, none⟩ = some (.int .i64 k.h) ∧ w.cell? ⟨g, 1, none⟩ = some (sv9 k.a) ∧
    w.cell? ⟨g, 2, none⟩ = some (sv9 k.b) ∧ w.cell? ⟨g, 3, none⟩ = some (sv9 k.c) ∧ w.cell? ⟨g, 4, none⟩ = some (sv9 k.d) := ⟨h.cell 0, h.cell 1, h.cell 2, h.cell 3, h.cell 4⟩

end Go.Proofs.Ytklpmajaihmmfaa

/-
  Stage 13: the program's only, at texts and at flags, and its first.
-/
namespace Go.Proofs.Ytklpmajaihmmfaa
open Go.RowKit

set_option maxRecDepth 100000

/-- One result, in a cell. -/
theorem results_one13 {fn : Func} {p : Tmp} {ty : TypeId} (h : fn.results = #[.cell p ty]) (tmps : Array Value) (P : Program) (w : World) :
    (results fn tmps).run P w = ((asAddr (tmps.getD p undef)).run P w).andThen fun a w₁ => (loadVar ty a).run P w₁ := by
  simp only [results, h]
  simp [Sem.run_bind, Result.andThen]

/-- A call's own boxes: what it keeps, and its result, beside what it was handed. -/
structure Kp13 (w : World) (s r k : Nat) (t : TypeId) (x z v : Array Value) (W : World) : Prop where
  src : Box W s t x
  res : Box W r t z
  kept : Box W k t v
  turn : Turn (fun _ => False) w W
  nr : w.heap.size ≤ r
  nk : w.heap.size ≤ k
  ne : r ≠ k
  sk : s ≠ k
  sr : s ≠ r
theorem Kp13.set {w W : World} {s r k : Nat} {t : TypeId} {x z v : Array Value} (h : Kp13 w s r k t x z v W) (i : Nat) (u : Value) : Kp13 w s r k t x z (v.setIfInBounds i u) (W.setCell ⟨k, i, none⟩ u) := by
  have ht : Turn (fun g => g = k) W (W.setCell ⟨k, i, none⟩ u) := Turn.setCell (S := fun g => g = k) (p := ⟨k, i, none⟩) (Turn.refl _ W) (fun _ => rfl) u
  exact ⟨h.src.turn ht h.sk, h.res.turn ht h.ne, h.kept.set i u, h.turn.trans ht (fun g hg e => by have := h.nk; omega), h.nr, h.nk, h.ne, h.sk, h.sr⟩

/-- The same where nothing was handed. -/
structure Ks13 (w : World) (r k : Nat) (t : TypeId) (z v : Array Value) (W : World) : Prop where
  res : Box W r t z
  kept : Box W k t v
  turn : Turn (fun _ => False) w W
  nr : w.heap.size ≤ r
  nk : w.heap.size ≤ k
  ne : r ≠ k
theorem Ks13.set {w W : World} {r k : Nat} {t : TypeId} {z v : Array Value} (h : Ks13 w r k t z v W) (i : Nat) (u : Value) : Ks13 w r k t z (v.setIfInBounds i u) (W.setCell ⟨k, i, none⟩ u) := by
  have ht : Turn (fun g => g = k) W (W.setCell ⟨k, i, none⟩ u) := Turn.setCell (S := fun g => g = k) (p := ⟨k, i, none⟩) (Turn.refl _ W) (fun _ => rfl) u
  exact ⟨h.res.turn ht h.ne, h.kept.set i u, h.turn.trans ht (fun g hg e => by have := h.nk; omega), h.nr, h.nk, h.ne⟩


set_option maxHeartbeats 8000000 in
theorem only_text13 (t : V4 (List UInt8)) (b : V4 Bool) (w : World) : Calls Try.prog 54 #[.agg (ts13 t), .agg (bs13 b)] w fun e w' => e = .returned (.agg (ts13 (onlyP [] t b))) ∧ Turn (fun _ => False) w w' := by
  obtain ⟨w4, hw4⟩ : ∃ w4, w4 = (((w.alloc (.cells (ts13 t) 23)).alloc (.cells (bs13 b) 22)).alloc (.cells (ts13 (V4.fill [])) 23)).alloc (.cells (ts13 (V4.fill [])) 23) := ⟨_, rfl⟩
  have hkp : Kp13 w w.heap.size (w.heap.size + 1 + 1) (w.heap.size + 1 + 1 + 1) 23 (ts13 t) (ts13 (V4.fill [])) (ts13 (V4.fill [])) w4 := by
    rw [hw4]
    refine ⟨(((Box.new w _ _).alloc _).alloc _).alloc _, ?_, ?_, (((((Turn.refl _ w).alloc _).alloc _).alloc _).alloc _), by omega, by omega, by omega, by omega, by omega⟩
    · have h := (Box.new ((w.alloc (.cells (ts13 t) 23)).alloc (.cells (bs13 b) 22)) 23 (ts13 (V4.fill []))).alloc (.cells (ts13 (V4.fill [])) 23)
      rw [World.size_alloc, World.size_alloc] at h
      exact h
    · have h := Box.new (((w.alloc (.cells (ts13 t) 23)).alloc (.cells (bs13 b) 22)).alloc (.cells (ts13 (V4.fill [])) 23)) 23 (ts13 (V4.fill []))
      rw [World.size_alloc, World.size_alloc, World.size_alloc] at h
      exact h
  obtain ⟨s, hs⟩ : ∃ s, s = w.heap.size := ⟨_, rfl⟩
  obtain ⟨r, hr⟩ : ∃ r, r = w.heap.size + 1 + 1 := ⟨_, rfl⟩
  obtain ⟨k, hk⟩ : ∃ k, k = w.heap.size + 1 + 1 + 1 := ⟨_, rfl⟩
  rw [← hk, ← hr, ← hs] at hkp
  have HKP := Lib.hid hkp
  have HW := Lib.hid hw4
  have HS := Lib.hid hs
  have HR := Lib.hid hr
  have HK := Lib.hid hk
  clear hw4 hkp hs hr hk
  go_enter Try.func54, Try.ntmps54
  go_wp2_with fail
  rw [← HK.out, ← HR.out, ← HS.out]
  have HW2 := HW.out
  simp only [V4.fill] at HW2
  try unfold sv9 at HW2
  rw [← HW2]
  clear HW HK HR HS HW2
  go_loopw [9] (fun x9 wr => ∃ i : Nat, x9 = .int .i64 (i : Int) ∧ i ≤ 4 ∧ Kp13 w s r k 23 (ts13 t) (ts13 (V4.fill [])) (ts13 (onlyN [] t b i)) wr) (fun x9 _ => 4 - (intOf x9).toNat)
  case atStart => exact ⟨0, rfl, Nat.zero_le _, HKP.out⟩
  case round =>
    clear HKP
    obtain ⟨i, rfl, hi, hm⟩ := hrel
    have HM := Lib.hid hm
    clear hm
    by_cases hlt : i < 4
    · have hil : (i : Int) < 4 := by omega
      have hix := index_bs13 b hlt
      have e1 : wr.cell? ⟨s, i, none⟩ = some (sv9 (t.nth i)) := (HM.out.src.cell i).trans (nth_ts13 t hlt)
      have f1 : wr.frozen? ⟨k, i, none⟩ = false := HM.out.kept.free i
      have e2 : wr.cell? ⟨k, i, none⟩ = some (sv9 ((onlyN [] t b i).nth i)) := (HM.out.kept.cell i).trans (nth_ts13 _ hlt)
      have HST : Hid (onlyN [] t b (i + 1) = if b.nth i then (onlyN [] t b i).put i (t.nth i) else onlyN [] t b i) := rfl
      have HM2 := Lib.hid (HM.out.set i (sv9 (t.nth i)))
      rw [put_ts13 _ _ hlt] at HM2
      unfold bs13 at hix
      generalize hX : t.nth i = X at *
      generalize (onlyN [] t b i).nth i = Y at *
      clear hX
      cases hB : b.nth i with
      | false =>
        rw [hB] at HST hix
        have HM3 : Hid (Kp13 w s r k 23 (ts13 t) (ts13 (V4.fill [])) (ts13 (onlyN [] t b (i + 1))) wr) := by rw [HST.out]; exact HM.out
        clear hB HST HM2 HM
        go_wp2_with fail
        go_roundw
        case rel => exact ⟨i + 1, by go_num, hlt, HM3.out⟩
        case measure => simp [intOf]; omega
      | true =>
        rw [hB] at HST hix
        have HM3 : Hid (Kp13 w s r k 23 (ts13 t) (ts13 (V4.fill [])) (ts13 (onlyN [] t b (i + 1))) (wr.setCell ⟨k, i, none⟩ (sv9 (X)))) := by rw [HST.out]; exact HM2.out
        clear hB HST HM2 HM
        go_wp2_with fail
        go_roundw
        case rel => exact ⟨i + 1, by go_num, hlt, HM3.out⟩
        case measure => simp [intOf]; omega
    · obtain rfl : i = 4 := by omega
      rw [onlyN_four] at HM
      generalize ho : onlyP [] t b = o at *
      have HO := Lib.hid ho
      clear ho
      have b0 : wr.cell? ⟨k, 0, none⟩ = some (sv9 (o.a)) := HM.out.kept.cell 0
      have b1 : wr.cell? ⟨k, 1, none⟩ = some (sv9 (o.b)) := HM.out.kept.cell 1
      have b2 : wr.cell? ⟨k, 2, none⟩ = some (sv9 (o.c)) := HM.out.kept.cell 2
      have b3 : wr.cell? ⟨k, 3, none⟩ = some (sv9 (o.d)) := HM.out.kept.cell 3
      have d0 : wr.cell? ⟨r, 0, none⟩ = some (sv9 ([])) := HM.out.res.cell 0
      have d1 : wr.cell? ⟨r, 1, none⟩ = some (sv9 ([])) := HM.out.res.cell 1
      have d2 : wr.cell? ⟨r, 2, none⟩ = some (sv9 ([])) := HM.out.res.cell 2
      have d3 : wr.cell? ⟨r, 3, none⟩ = some (sv9 ([])) := HM.out.res.cell 3
      have z0 : wr.frozen? ⟨r, 0, none⟩ = false := HM.out.res.free 0
      have z1 : wr.frozen? ⟨r, 1, none⟩ = false := HM.out.res.free 1
      have z2 : wr.frozen? ⟨r, 2, none⟩ = false := HM.out.res.free 2
      have z3 : wr.frozen? ⟨r, 3, none⟩ = false := HM.out.res.free 3
      have HT : Hid (Turn (fun _ => False) w (wr.setCells r 0 (ts13 o).toList)) := HM.out.turn.trans (turn_setCells (S := fun g => g = r) rfl (ts13 o).toList 0 wr) (fun g hg e => by have := HM.out.nr; omega)
      clear HM
      go_wp2
      refine bodyPost_ret (v := .agg (ts13 o)) ?_ rfl ⟨by rw [HO.out], HT.out⟩
      rw [results_one13 rfl]
      go_simp

end Go.Proofs.Ytklpmajaihmmfaa
