
/-
  Stage 9: the program's readList and Read.
-/
import Derived.Test.YtejilonhdgfkbaaZrf
import Derived.Test.YtejilonhdgfkbaaZck
namespace Go.Proofs.Ytejilonhdgfkbaa
open Go.RowKit Go.ChangeShapes Go.WideShapes Go.Deep

set_option maxRecDepth 100000

theorem made_facts9 (N : Nat) (hN : N ≤ 1000000) (w : World) : (Instr.makeSlice 28 (.int .i64 (N : Int)) (.int .i64 (N : Int))).run Try.prog w = .ok (.slice (some ⟨w.heap.size, 0, none⟩) N N) (w.alloc (.cells (madeCells (Value.cells (.agg #[.int .i64 0, .string ⟨#[]⟩, .string ⟨#[]⟩, .string ⟨#[]⟩, .string ⟨#[]⟩, .int .i64 0])) (N * 6)) 33)) := by
  obtain ⟨i, hi, hz, h1, h2⟩ := info_parts fact_info
  have h := run_make (P := Try.prog) w 28 33 i _ Try.underlying28 hi hz .i64 .i64 (N : Int) (N : Int) (by omega) (by omega) (by rw [h2]; omega) (by omega)
  rw [h1, show ((N : Int)).toNat = N from Int.toNat_natCast N] at h
  exact h
theorem own_facts9 (N : Nat) (hN : N ≤ 1000000) (w : World) : OwE EF 33 (w.alloc (.cells (madeCells (Value.cells (.agg #[.int .i64 0, .string ⟨#[]⟩, .string ⟨#[]⟩, .string ⟨#[]⟩, .string ⟨#[]⟩, .int .i64 0])) (N * 6)) 33)) (.slice (some ⟨w.heap.size, 0, none⟩) N N) (List.replicate N zeroF) := by
  have h := OwE.of_box (E := EF) (L := List.replicate N zeroF) (c := N) (Box.new w 33 (madeCells (Value.cells (.agg #[.int .i64 0, .string ⟨#[]⟩, .string ⟨#[]⟩, .string ⟨#[]⟩, .string ⟨#[]⟩, .int .i64 0])) (N * 6))) (by rw [List.length_replicate]; exact Nat.le_refl _) (by simp only [maxLen]; omega) (by rw [size_madeCells]; rfl) (by
    rw [List.length_replicate]
    have e := made_flat (E := EF) zeroF (by decide) N
    have e2 : (madeCells (Value.cells (.agg #[.int .i64 0, .string ⟨#[]⟩, .string ⟨#[]⟩, .string ⟨#[]⟩, .string ⟨#[]⟩, .int .i64 0])) (N * 6)).toList = EF.flat (List.replicate N zeroF) := e
    rw [e2]
    exact List.take_of_length_le (by rw [El.flat_len, List.length_replicate]; exact Nat.le_refl _))
  rw [List.length_replicate] at h
  exact h

/-- All facts as the program reads them: what is wrong, the facts, the state behind them. -/
def loopR (N : Nat) : Nat → RS9 → List F9 → Nat × List F9 × RS9
  | 0, s, out => (s.2, out, s)
  | i + 1, s, out => if (factR N s).2.1 ≠ 0 then ((factR N s).2.1, [], (factR N s).2.2) else loopR N i (factR N s).2.2 (out ++ [(factR N s).1])
/-- Read's end. -/
def endR (N : Nat) (r : Nat × List F9 × RS9) : Int × List F9 := if r.1 ≠ 0 then ((r.1 : Int), []) else if 0 < r.2.2.1.length then (4, []) else if (allB r.2.1 N).1 ≠ 0 then ((allB r.2.1 N).1, []) else (0, r.2.1)
theorem readR_end (N : Nat) : ∀ (i : Nat) (s : RS9) (out : List F9), readR N i s out = endR N (loopR N i s out)
  | 0, _, _ => rfl
  | i + 1, s, out => by
    unfold readR loopR factR
    by_cases hb : 16777216 < sNum s
    · rw [if_pos hb, if_pos hb, if_pos (show (2 : Nat) ≠ 0 by decide)]
      rfl
    · rw [if_neg hb, if_neg hb]
      dsimp only
      by_cases hf : (oneF N (sNum s) (sNum' s)).2.2 ≠ 0
      · rw [if_pos hf, if_pos hf]
        unfold endR
        rw [if_pos hf]
      · rw [if_neg hf, if_neg hf]
        exact readR_end N i _ _
theorem loop_len (N : Nat) : ∀ (i : Nat) (s : RS9) (out : List F9), (loopR N i s out).2.1.length ≤ out.length + i
  | 0, _, _ => Nat.le_refl _
  | i + 1, s, out => by
    unfold loopR
    split
    · exact Nat.zero_le _
    · have h := loop_len N i (factR N s).2.2 (out ++ [(factR N s).1])
      rw [List.length_append, List.length_singleton] at h
      omega

theorem loop_ok (N : Nat) : ∀ (i : Nat) (s : RS9) (out : List F9), (loopR N i s out).1 = 0 → (loopR N i s out).2.2.2 = 0
  | 0, _, _, h => h
  | i + 1, s, out, h => by
    unfold loopR at h ⊢
    split
    · rename_i h1
      rw [if_pos h1] at h
      exact absurd h h1
    · rename_i h1
      rw [if_neg h1] at h
      exact loop_ok N i _ _ h

/-- Behind readList. -/
def ListRead (w : World) (p : Nat) (N : Nat) (s : RS9) (e : Ending) (w' : World) : Prop :=
  ∃ v, e = .returned (.tuple #[v, .int .i64 ((loopR N (sCount s) (sCount' s) []).1 : Int)]) ∧ ((loopR N (sCount s) (sCount' s) []).1 = 0 → RdE EF w' v (loopR N (sCount s) (sCount' s) []).2.1 ∧ PR w p w' (loopR N (sCount s) (sCount' s) []).2.2) ∧ Turn (fun _ => False) w w'

section
variable {w W W2 : World} {p : Nat} {x8 : Value} {out : List F9} {s : RS9}
/-- A call of the reader leaves the row. -/
theorem row_read (h : PR w p W s) (hn : NewE EF 33 w W x8 out) (ht : Turn (fun g => g = p) W W2) : NewE EF 33 w W2 x8 out :=
  new_over hn ht (fun k hk e => h.row hn k hk e) (fun k e => by rw [e]; exact h.1)
/-- A store into the row leaves the reader. -/
theorem pr_row7 {w7 : World} (h : PR w p W s) (hn : NewE EF 33 w W x8 out) (ht : Turn (fun k => x8.ownBlock = some k) W w7) : PR w p w7 s := by
  refine h.keep ht hn.new (fun g hg => ?_)
  rcases hn.own.form with ⟨rfl, _⟩ | ⟨g2, cap, cur, rfl, hb, _⟩
  · simp [Value.ownBlock] at hg
  · have e : g2 = g := by simpa [Value.ownBlock] using hg
    exact ⟨33, cur, by decide, by decide, e ▸ hb⟩
end

theorem wpList_put9 {P : Program} {w : World} {ad : Addr} {n c : Nat} {L : List F9} {ops : Array Oper} {rest : List Oper} {op : Oper} {a : Act} {Q : Exit → Act → World → Prop} (hgd : op.guard = none) (x y : Operand) (ho : op.op = .store 33 x y)
    (hsi : (P.info? 33).map (·.size) = some EF.sz) (hown : OwE EF 33 w (.slice (some ad) n c) L) (j : Nat) (f : F9) (hj : j < L.length) (hx : a.eval x = .pointer (some (ad.add (j * 6)))) (hy : a.eval y = fv9 f)
    (h : ∀ w', OwE EF 33 w' (.slice (some ad) n c) (L.set j f) → Turn (fun k => k = ad.block) w w' → wpList P ops Q rest (a.put op.dst undef) w') : wpList P ops Q (op :: rest) a w :=
  wpList_put hgd _ x y ho hown j f hj hx hy hsi h
theorem put_at9 {out : List F9} {i C : Nat} (ho : out.length = i) (hi : i < C) (f : F9) : (out ++ List.replicate (C - i) zeroF).set i f = (out ++ [f]) ++ List.replicate (C - (i + 1)) zeroF := by
  rw [show C - i = (C - (i + 1)) + 1 by omega, List.replicate_succ, List.set_append_right _ _ (by omega), ho, Nat.sub_self, List.set_cons_zero, List.append_assoc]
  rfl

set_option maxHeartbeats 8000000 in
theorem readList_any9 {w wa : World} {p : Nat} {s : RS9} (N : Nat) (hN : N ≤ 4) (h : PR w p wa s) : Calls Try.prog 50 #[.pointer (some ⟨p, 0, none⟩), .int .i64 (N : Int)] wa fun e w' => ListRead w p N s e w' := by
  have hC50 : sCount s ≤ 50 := by
    unfold sCount rdCount
    split
    · split
      · exact Nat.zero_le _
      · split
        · exact Nat.zero_le _
        · omega
    · exact Nat.zero_le _
  have H1 := Lib.hid h
  have HEND : Hid (∀ (v : Value) (r : Nat × List F9 × RS9) (w' : World), loopR N (sCount s) (sCount' s) [] = r → (r.1 = 0 → RdE EF w' v r.2.1 ∧ PR w p w' r.2.2) → Turn (fun _ => False) w w' → ListRead w p N s (.returned (.tuple #[v, .int .i64 (r.1 : Int)])) w') := fun v r w' e h1 h2 => ⟨v, by rw [e], by rw [e]; exact h1, h2⟩
  clear h
  go_enter Try.func50, Try.ntmps50
  go_wp2_with fail
  refine (ps_count H1.out).mono ?_
  rintro e w2 ⟨rfl, h2, -⟩
  generalize sCount s = C at *
  generalize sCount' s = s0 at *
  have hmk := made_facts9 C (by omega) w2
  obtain ⟨w3, hw3⟩ : ∃ w3, w3 = w2.alloc (.cells (madeCells (Value.cells (.agg #[.int .i64 0, .string ⟨#[]⟩, .string ⟨#[]⟩, .string ⟨#[]⟩, .string ⟨#[]⟩, .int .i64 0])) (C * 6)) 33) := ⟨_, rfl⟩
  obtain ⟨ad, had⟩ : ∃ ad : Addr, ad = ⟨w2.heap.size, 0, none⟩ := ⟨_, rfl⟩
  have HN0 : Hid (NewE EF 33 w w3 (.slice (some ad) C C) ([] ++ List.replicate (C - 0) zeroF)) := by
    rw [hw3, had]
    exact ⟨own_facts9 C (by omega) w2, (fun k e => by have := h2.turn.size; have e2 : w2.heap.size = k := by simpa [Value.ownBlock] using e
                                                      omega), h2.turn.alloc _⟩
  have H3 : Hid (PR w p w3 s0) := by rw [hw3]; exact h2.later ((Turn.refl (fun _ => False) w2).alloc _)
  rw [← hw3, ← had] at hmk
  clear h2 H1 hw3 had
  go_wp2_with fail
  clear hmk
  have hsi : (Try.prog.info? 33).map (·.size) = some EF.sz := by kernel_rfl
  have HSI := Lib.hid hsi
  clear hsi
  go_loopw [15] (fun x15 wr => ∃ i s out, x15 = .int .i64 ((i : Nat) : Int) ∧ i ≤ C ∧ out.length = i ∧ NewE EF 33 w wr (.slice (some ad) C C) (out ++ List.replicate (C - i) zeroF) ∧ PR w p wr s ∧ loopR N C s0 [] = loopR N (C - i) s out) (fun x15 _ => C - (intOf x15).toNat)
  case atStart => exact ⟨0, s0, [], rfl, Nat.zero_le _, rfl, HN0.out, H3.out, rfl⟩
  case round =>
    clear HN0 H3
    obtain ⟨i, s1, out, rfl, hi, ho, hnew, hxs, hsp⟩ := hrel
    have HNW := Lib.hid hnew
    have HXS := Lib.hid hxs
    have HO := Lib.hid ho
    have HSP := Lib.hid hsp
    clear hnew hxs hsp ho
    by_cases hlt : i < C
    · have hil : (i : Int) < C := by omega
      have HST : Hid (loopR N (C - i) s1 out = if (factR N s1).2.1 ≠ 0 then ((factR N s1).2.1, [], (factR N s1).2.2) else loopR N (C - (i + 1)) (factR N s1).2.2 (out ++ [(factR N s1).1])) := by
        show _ = _
        rw [show C - i = (C - (i + 1)) + 1 by omega]
        rfl
      go_wp2_with fail
      refine (readFact_any9 N hN HXS.out).mono ?_
      rintro e w4 ⟨rfl, h4, t4⟩
      have HN4 := Lib.hid (row_read HXS.out HNW.out t4)
      have H4 := Lib.hid h4
      clear h4 t4 HNW HXS
      generalize factR N s1 = fr at *
      obtain ⟨f, ft, s2⟩ := fr
      dsimp only at *
      by_cases hf : ft = 0
      · have hfz : ((ft : Int) != 0) = false := by simp [hf]
        have HNX : Hid (loopR N C s0 [] = loopR N (C - (i + 1)) s2 (out ++ [f])) := HSP.out.trans (HST.out.trans (if_neg (by simp [hf])))
        have HN5 : Hid (NewE EF 33 w (w4.alloc (.cells #[.int .i64 f.k.h, sv9 f.k.a, sv9 f.k.b, sv9 f.k.c, sv9 f.k.d, .int .i64 f.v] 33)) (.slice (some ad) C C) (out ++ List.replicate (C - i) zeroF)) := HN4.out.alloc _
        have H5 : Hid (PR w p (w4.alloc (.cells #[.int .i64 f.k.h, sv9 f.k.a, sv9 f.k.b, sv9 f.k.c, sv9 f.k.d, .int .i64 f.v] 33)) s2) := H4.out.later ((Turn.refl (fun _ => False) w4).alloc _)
        have HL : Hid (i < (out ++ List.replicate (C - i) zeroF).length) := by
          show _ < _
          rw [List.length_append, List.length_replicate, HO.out]
          omega
        clear HN4 H4
        go_wp2_with (first | (with_reducible refine wpList_put9 (op := ⟨none, .store 33 (.tmp 30) (.tmp 29), _, _, _, _⟩) rfl _ _ rfl HSI.out HN5.out.own i f HL.out rfl rfl ?_; intro w6 ho6 ht6; have HO6 := Lib.hid ho6; have HT6 := Lib.hid ht6; clear ho6 ht6) | fail)
        have htw : Turn (fun k => (Value.slice (some ad) C C).ownBlock = some k) (w4.alloc (.cells #[.int .i64 f.k.h, sv9 f.k.a, sv9 f.k.b, sv9 f.k.c, sv9 f.k.d, .int .i64 f.v] 33)) w6 := HT6.out.mono fun k _ e => by rw [e]; rfl
        have HN6 := Lib.hid (HN5.out.step HO6.out htw (.inl rfl))
        have H6 := Lib.hid (pr_row7 H5.out HN5.out htw)
        rw [put_at9 HO.out hlt] at HN6
        clear htw HN5 H5 HO6 HT6
        go_roundw
        case rel => exact ⟨i + 1, s2, out ++ [f], by go_num, hlt, by rw [List.length_append, HO.out]; rfl, HN6.out, H6.out, HNX.out⟩
        case measure => simp [intOf]; omega
      · have HE : Hid (loopR N C s0 [] = (ft, [], s2)) := HSP.out.trans (HST.out.trans (if_pos hf))
        have hfz : ((ft : Int) != 0) = true := by simp [bne, hf]
        have HTF := Lib.hid H4.out.turn
        clear H4 HN4
        go_wp2
        go_ret2
        exact HEND.out _ (ft, [], s2) _ HE.out (fun e => absurd e hf) (HTF.out.alloc _)
    · obtain rfl : i = C := by omega
      have HE : Hid (loopR N i s0 [] = (s1.2, out, s1)) := by
        show _ = _
        rw [HSP.out, Nat.sub_self]
        rfl
      have HRD : Hid (RdE EF wr (.slice (some ad) i i) out) := by
        have h := HNW.out.own.rd
        rw [Nat.sub_self, List.replicate_zero, List.append_nil] at h
        exact h
      clear HSP
      go_wp2_with fail
      refine (pr_fault HXS.out).mono ?_
      rintro e w6 ⟨rfl, rfl⟩
      go_wp2
      go_ret2
      exact HEND.out _ (s1.2, out, s1) _ HE.out (fun _ => ⟨HRD.out, HXS.out⟩) HXS.out.turn

set_option maxHeartbeats 8000000 in
theorem read_any9 (u : Value) (m : List UInt8) (n : Int) (w : World) (hv : Rd w u m) (hl : m.length ≤ 100000) : Calls Try.prog 26 #[u, .int .i64 n] w fun e w' => Readed w m n e w' := by
  have HCT : Hid (∀ W, Calls Try.prog 32 #[.int .i64 n] W fun e w' => e = .returned (.bool (okDims n)) ∧ w' = W) := fun W => counted_any9 n W
  by_cases hn : 1 ≤ n ∧ n ≤ 4
  · obtain ⟨n1, n4⟩ := hn
    obtain ⟨N, rfl⟩ := Int.eq_ofNat_of_zero_le (show 0 ≤ n by omega)
    have hok : okDims (N : Int) = true := by unfold okDims; simp [n1, n4]
    have hN4 : N ≤ 4 := by omega
    have HNEW := Lib.hid (pr_new (w := w) u m (Turn.refl _ w) hv (by omega))
    have hsp : readB m (N : Int) = endR N (loopR N (sCount (m, 0)) (sCount' (m, 0)) []) := by
      unfold readB
      rw [hok, Int.toNat_natCast, if_pos rfl]
      exact readR_end N _ _ _
    have hC50 : sCount (m, 0) ≤ 50 := by
      unfold sCount rdCount
      simp only [if_true]
      split
      · exact Nat.zero_le _
      · split
        · exact Nat.zero_le _
        · omega
    have hlen := loop_len N (sCount (m, 0)) (sCount' (m, 0)) []
    have hok0 := loop_ok N (sCount (m, 0)) (sCount' (m, 0)) []
    rw [hok] at HCT
    have HEND : Hid (∀ (v : Value) (a : Int) (l : List F9) (w' : World), readB m (N : Int) = (a, l) → RdE EF w' v l → Turn (fun _ => False) w w' → Readed w m (N : Int) (.returned (.tuple #[v, .int .i64 a])) w') := fun v a l w' e h1 h2 => ⟨v, by rw [e], by rw [e]; exact h1, h2⟩
    clear hv hok
    go_enter Try.func26, Try.ntmps26
    go_wp2_with fail
    refine (HCT.out _).mono ?_
    rintro e w1 ⟨rfl, rfl⟩
    go_wp2_with fail
    refine HNEW.out.mono ?_
    rintro e w2 ⟨p, rfl, h2, -⟩
    have HRL := Lib.hid (readList_any9 N hN4 h2)
    unfold ListRead at HRL
    generalize loopR N (sCount (m, 0)) (sCount' (m, 0)) [] = r at *
    obtain ⟨ft, out, s2⟩ := r
    dsimp only at *
    have HSP := Lib.hid hsp
    have hl50 : out.length ≤ 50 := by rw [List.length_nil] at hlen; omega
    have HOK0 := Lib.hid hok0
    clear h2 HNEW hsp hlen hok0 hC50
    go_wp2_with fail
    refine HRL.out.mono ?_
    rintro e w3 ⟨v, rfl, hok, ht⟩
    have HT := Lib.hid ht
    clear ht HRL
    by_cases hf : ft = 0
    · obtain ⟨hrd, hpr⟩ := hok hf
      have hs0 := HOK0.out hf
      have hnd : readB m (N : Int) = if 0 < s2.1.length then (4, []) else if (allB out N).1 ≠ 0 then ((allB out N).1, []) else (0, out) := by
        rw [HSP.out]
        unfold endR
        rw [if_neg (by simp [hf])]
      obtain ⟨A8, c8, rfl⟩ := hrd.shape
      have HRD := Lib.hid hrd
      have HLF := Lib.hid (pr_left hpr hs0)
      subst hf
      clear hok hrd hpr HSP
      by_cases hlen : 0 < s2.1.length
      · rw [if_pos hlen] at hnd
        have HND := Lib.hid hnd
        have hli : (0 : Int) < s2.1.length := by omega
        clear hnd
        go_wp2_with fail
        refine HLF.out.mono ?_
        rintro e w7 ⟨rfl, nn, rfl⟩
        go_wp2
        go_ret2
        exact HEND.out _ 4 [] _ HND.out (RdE.nil _) (HT.out.drewN _)
      · rw [if_neg hlen] at hnd
        have hl0 : s2.1.length = 0 := by omega
        have hli : ¬ ((0 : Int) < s2.1.length) := by omega
        have HND := Lib.hid hnd
        clear hnd hlen
        go_wp2_with fail
        refine HLF.out.mono ?_
        rintro e w7 ⟨rfl, nn, rfl⟩
        have HALL := Lib.hid (all_any9 (.slice A8 out.length c8) out (N : Int) (w3.drewN nn) (HRD.out.later ((Turn.refl _ w3).drewN nn)) (by omega))
        by_cases ha : (allB out N).1 = 0
        · have hag := (all_good ha).2.2.2
          unfold allV at HALL
          rw [hag] at HALL HND
          clear ha hag
          go_wp2_with fail
          refine HALL.out.mono ?_
          rintro e w9 ⟨rfl, t9⟩
          have HT9 := Lib.hid t9
          clear t9
          have HFIN : Hid (readB m (N : Int) = (0, out)) := HND.out
          have HRD9 : Hid (RdE EF w9 (.slice A8 out.length c8) out) := (HRD.out.later ((Turn.refl _ w3).drewN nn)).later HT9.out
          have HTF : Hid (Turn (fun _ => False) w1 w9) := (HT.out.drewN nn).trans HT9.out (fun _ _ f => f)
          go_wp2
          go_ret2
          exact HEND.out _ 0 out _ HFIN.out HRD9.out HTF.out
        · have HFIN : Hid (readB m (N : Int) = ((allB out N).1, [])) := HND.out.trans (if_pos ha)
          have hne : ((allB out N).1 != 0) = true := by simp [bne, ha]
          unfold allV at HALL
          clear ha HND
          generalize (allB out N).1 = a at *
          generalize (allB out N).2 = b at *
          go_wp2_with fail
          refine HALL.out.mono ?_
          rintro e w9 ⟨rfl, t9⟩
          have HTF : Hid (Turn (fun _ => False) w1 w9) := (HT.out.drewN nn).trans t9 (fun _ _ f => f)
          clear t9
          go_wp2
          go_ret2
          exact HEND.out _ a [] _ HFIN.out (RdE.nil _) HTF.out
    · have hfz : ((ft : Int) != 0) = true := by simp [bne, hf]
      have HFIN : Hid (readB m (N : Int) = ((ft : Int), [])) := HSP.out.trans (if_pos hf)
      clear hok HSP hf
      go_wp2
      go_ret2
      exact HEND.out _ _ [] _ HFIN.out (RdE.nil _) HT.out
  · have hok : okDims n = false := by unfold okDims; simpa using hn
    have e : readB m n = (1, []) := by
      unfold readB
      rw [hok]
      rfl
    have HE := Lib.hid e
    rw [hok] at HCT
    clear e hv hn hok
    go_enter Try.func26, Try.ntmps26
    go_wp2_with fail
    refine (HCT.out _).mono ?_
    rintro e w1 ⟨rfl, rfl⟩
    go_wp2
    go_ret2
    exact ⟨.slice none 0 0, by rw [HE.out]; rfl, by rw [HE.out]; exact RdE.nil _, Turn.refl _ w1⟩

end Go.Proofs.Ytejilonhdgfkbaa
