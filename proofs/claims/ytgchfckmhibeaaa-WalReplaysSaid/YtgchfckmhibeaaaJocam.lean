/-
  Texts laid one behind the other: Zrd Ff R1s Ic Id Dpr Inx Iq.
-/
import Derived.Test.YtgchfckmhibeaaaJocal
import Derived.Test.YtgchfckmhibeaaaJocag
import Derived.Test.YtgchfckmhibeaaaJocac
import Derived.Stop.RegionWithIn
import Derived.Test.YtgchfckmhibeaaaJocae
import Derived.OwnWalkIn
import Derived.Sort.BigQuietIn

/-
  Stage 9: the program's readList and Read.
-/
namespace Go.Proofs.Ytgchfckmhibeaaa
open Go.RowKit Go.ChangeShapes Go.WideShapes Go.Deep

set_option maxRecDepth 100000

theorem made_facts9 (N : Nat) (hN : N ≤ 1000000) (w : World) : (Instr.makeSlice 43 (.int .i64 (N : Int)) (.int .i64 (N : Int))).run Try.prog w = .ok (.slice (some ⟨w.heap.size, 0, none⟩) N N) (w.alloc (.cells (madeCells (Value.cells (.agg #[.int .i64 0, .string ⟨#[]⟩, .string ⟨#[]⟩, .string ⟨#[]⟩, .string ⟨#[]⟩, .int .i64 0])) (N * 6)) 76)) := by
  obtain ⟨i, hi, hz, h1, h2⟩ := info_parts fact_info
  have h := run_make (P := Try.prog) w 43 76 i _ Try.underlying43 hi hz .i64 .i64 (N : Int) (N : Int) (by omega) (by omega) (by rw [h2]; omega) (by omega)
  rw [h1, show ((N : Int)).toNat = N from Int.toNat_natCast N] at h
  exact h
theorem own_facts9 (N : Nat) (hN : N ≤ 1000000) (w : World) : OwE EF 76 (w.alloc (.cells (madeCells (Value.cells (.agg #[.int .i64 0, .string ⟨#[]⟩, .string ⟨#[]⟩, .string ⟨#[]⟩, .string ⟨#[]⟩, .int .i64 0])) (N * 6)) 76)) (.slice (some ⟨w.heap.size, 0, none⟩) N N) (List.replicate N zeroF) := by
  have h := OwE.of_box (E := EF) (L := List.replicate N zeroF) (c := N) (Box.new w 76 (madeCells (Value.cells (.agg #[.int .i64 0, .string ⟨#[]⟩, .string ⟨#[]⟩, .string ⟨#[]⟩, .string ⟨#[]⟩, .int .i64 0])) (N * 6))) (by rw [List.length_replicate]; exact Nat.le_refl _) (by simp only [maxLen]; omega) (by rw [size_madeCells]; rfl) (by
    rw [List.length_replicate]
    have e := made_flat (E := EF) zeroF (by decide) N
    have e2 : (madeCells (Value.cells (.agg #[.int .i64 0, .string ⟨#[]⟩, .string ⟨#[]⟩, .string ⟨#[]⟩, .string ⟨#[]⟩, .int .i64 0])) (N * 6)).toList = EF.flat (List.replicate N zeroF) := e
    rw [e2]
    exact List.take_of_length_le (by rw [El.flat_len, List.length_replicate]; exact Nat.le_refl _))
  rw [List.length_replicate] at h
  exact h

/-- All facts as the program reads them: what is wrong, the facts, the state behind them. -/
def loopR (N : Nat) : Nat → RS9 → List F9 → Nat × List F9 × RS9
  | 0, s, out => (s.2, out, s)
  | i + 1, s, out => if (factR N s).2.1 ≠ 0 then ((factR N s).2.1, [], (factR N s).2.2) else loopR N i (factR N s).2.2 (out ++ [(factR N s).1])
/-- Read's end. -/
def endR (N : Nat) (r : Nat × List F9 × RS9) : Int × List F9 := if r.1 ≠ 0 then ((r.1 : Int), []) else if 0 < r.2.2.1.length then (4, []) else if (allB r.2.1 N).1 ≠ 0 then ((allB r.2.1 N).1, []) else (0, r.2.1)
theorem readR_end (N : Nat) : ∀ (i : Nat) (s : RS9) (out : List F9), readR N i s out = endR N (loopR N i s out)
  | 0, _, _ => rfl
  | i + 1, s, out => by
    unfold readR loopR factR
    by_cases hb : 16777216 < sNum s
    · rw [if_pos hb, if_pos hb, if_pos (show (2 : Nat) ≠ 0 by decide)]
      rfl
    · rw [if_neg hb, if_neg hb]
      dsimp only
      by_cases hf : (oneF N (sNum s) (sNum' s)).2.2 ≠ 0
      · rw [if_pos hf, if_pos hf]
        unfold endR
        rw [if_pos hf]
      · rw [if_neg hf, if_neg hf]
        exact readR_end N i _ _
theorem loop_len (N : Nat) : ∀ (i : Nat) (s : RS9) (out : List F9), (loopR N i s out).2.1.length ≤ out.length + i
  | 0, _, _ => Nat.le_refl _
  | i + 1, s, out => by
    unfold loopR
    split
    · exact Nat.zero_le _
    · have h := loop_len N i (factR N s).2.2 (out ++ [(factR N s).1])
      rw [List.length_append, List.length_singleton] at h
      omega

theorem loop_ok (N : Nat) : ∀ (i : Nat) (s : RS9) (out : List F9), (loopR N i s out).1 = 0 → (loopR N i s out).2.2.2 = 0
  | 0, _, _, h => h
  | i + 1, s, out, h => by
    unfold loopR at h ⊢
    split
    · rename_i h1
      rw [if_pos h1] at h
      exact absurd h h1
    · rename_i h1
      rw [if_neg h1] at h
      exact loop_ok N i _ _ h

/-- Behind readList. -/
def ListRead (w : World) (p : Nat) (N : Nat) (s : RS9) (e : Ending) (w' : World) : Prop :=
  ∃ v, e = .returned (.tuple #[v, .int .i64 ((loopR N (sCount s) (sCount' s) []).1 : Int)]) ∧ ((loopR N (sCount s) (sCount' s) []).1 = 0 → RdE EF w' v (loopR N (sCount s) (sCount' s) []).2.1 ∧ PR w p w' (loopR N (sCount s) (sCount' s) []).2.2 ∧ ∀ k, v.ownBlock = some k → w.heap.size ≤ k) ∧ Turn (fun _ => False) w w'

section
variable {w W W2 : World} {p : Nat} {x8 : Value} {out : List F9} {s : RS9}
/-- A call of the reader leaves the row. -/
theorem row_read (h : PR w p W s) (hn : NewE EF 76 w W x8 out) (ht : Turn (fun g => g = p) W W2) : NewE EF 76 w W2 x8 out :=
  new_over hn ht (fun k hk e => h.row hn k hk e) (fun k e => by rw [e]; exact h.1)
/-- A store into the row leaves the reader. -/
theorem pr_row7 {w7 : World} (h : PR w p W s) (hn : NewE EF 76 w W x8 out) (ht : Turn (fun k => x8.ownBlock = some k) W w7) : PR w p w7 s := by
  refine h.keep ht hn.new (fun g hg => ?_)
  rcases hn.own.form with ⟨rfl, _⟩ | ⟨g2, cap, cur, rfl, hb, _⟩
  · simp [Value.ownBlock] at hg
  · have e : g2 = g := by simpa [Value.ownBlock] using hg
    exact ⟨76, cur, by decide, by decide, e ▸ hb⟩
end

theorem wpList_put9 {P : Program} {w : World} {ad : Addr} {n c : Nat} {L : List F9} {ops : Array Oper} {rest : List Oper} {op : Oper} {a : Act} {Q : Exit → Act → World → Prop} (hgd : op.guard = none) (x y : Operand) (ho : op.op = .store 76 x y)
    (hsi : (P.info? 76).map (·.size) = some EF.sz) (hown : OwE EF 76 w (.slice (some ad) n c) L) (j : Nat) (f : F9) (hj : j < L.length) (hx : a.eval x = .pointer (some (ad.add (j * 6)))) (hy : a.eval y = fv9 f)
    (h : ∀ w', OwE EF 76 w' (.slice (some ad) n c) (L.set j f) → Turn (fun k => k = ad.block) w w' → wpList P ops Q rest (a.put op.dst undef) w') : wpList P ops Q (op :: rest) a w :=
  wpList_put hgd _ x y ho hown j f hj hx hy hsi h
theorem put_at9 {out : List F9} {i C : Nat} (ho : out.length = i) (hi : i < C) (f : F9) : (out ++ List.replicate (C - i) zeroF).set i f = (out ++ [f]) ++ List.replicate (C - (i + 1)) zeroF := by
  rw [show C - i = (C - (i + 1)) + 1 by omega, List.replicate_succ, List.set_append_right _ _ (by omega), ho, Nat.sub_self, List.set_cons_zero, List.append_assoc]
  rfl

set_option maxHeartbeats 8000000 in
theorem readList_any9 {w wa : World} {p : Nat} {s : RS9} (N : Nat) (hN : N ≤ 4) (h : PR w p wa s) : Calls Try.prog 68 #[.pointer (some ⟨p, 0, none⟩), .int .i64 (N : Int)] wa fun e w' => ListRead w p N s e w' := by
  have hC50 : sCount s ≤ 50 := by
    unfold sCount rdCount
    split
    · split
      · exact Nat.zero_le _
      · split
        · exact Nat.zero_le _
        · omega
    · exact Nat.zero_le _
  have H1 := Lib.hid h
  have HEND : Hid (∀ (v : Value) (r : Nat × List F9 × RS9) (w' : World), loopR N (sCount s) (sCount' s) [] = r → (r.1 = 0 → RdE EF w' v r.2.1 ∧ PR w p w' r.2.2 ∧ ∀ k, v.ownBlock = some k → w.heap.size ≤ k) → Turn (fun _ => False) w w' → ListRead w p N s (.returned (.tuple #[v, .int .i64 (r.1 : Int)])) w') := fun v r w' e h1 h2 => ⟨v, by rw [e], by rw [e]; exact h1, h2⟩
  clear h
  go_enter Try.func68, Try.ntmps68
  go_wp2_with fail
  refine (ps_count H1.out).mono ?_
  rintro e w2 ⟨rfl, h2, -⟩
  generalize sCount s = C at *
  generalize sCount' s = s0 at *
  have hmk := made_facts9 C (by omega) w2
  obtain ⟨w3, hw3⟩ : ∃ w3, w3 = w2.alloc (.cells (madeCells (Value.cells (.agg #[.int .i64 0, .string ⟨#[]⟩, .string ⟨#[]⟩, .string ⟨#[]⟩, .string ⟨#[]⟩, .int .i64 0])) (C * 6)) 76) := ⟨_, rfl⟩
  obtain ⟨ad, had⟩ : ∃ ad : Addr, ad = ⟨w2.heap.size, 0, none⟩ := ⟨_, rfl⟩
  have HN0 : Hid (NewE EF 76 w w3 (.slice (some ad) C C) ([] ++ List.replicate (C - 0) zeroF)) := by
    rw [hw3, had]
    exact ⟨own_facts9 C (by omega) w2, (fun k e => by have := h2.turn.size; have e2 : w2.heap.size = k := by simpa [Value.ownBlock] using e
                                                      omega), h2.turn.alloc _⟩
  have H3 : Hid (PR w p w3 s0) := by rw [hw3]; exact h2.later ((Turn.refl (fun _ => False) w2).alloc _)
  rw [← hw3, ← had] at hmk
  clear h2 H1 hw3 had
  go_wp2_with fail
  clear hmk
  have hsi : (Try.prog.info? 76).map (·.size) = some EF.sz := by kernel_rfl
  have HSI := Lib.hid hsi
  clear hsi
  go_loopw [15] (fun x15 wr => ∃ i s out, x15 = .int .i64 ((i : Nat) : Int) ∧ i ≤ C ∧ out.length = i ∧ NewE EF 76 w wr (.slice (some ad) C C) (out ++ List.replicate (C - i) zeroF) ∧ PR w p wr s ∧ loopR N C s0 [] = loopR N (C - i) s out) (fun x15 _ => C - (intOf x15).toNat)
  case atStart => exact ⟨0, s0, [], rfl, Nat.zero_le _, rfl, HN0.out, H3.out, rfl⟩
  case round =>
    clear HN0 H3
    obtain ⟨i, s1, out, rfl, hi, ho, hnew, hxs, hsp⟩ := hrel
    have HNW := Lib.hid hnew
    have HXS := Lib.hid hxs
    have HO := Lib.hid ho
    have HSP := Lib.hid hsp
    clear hnew hxs hsp ho
    by_cases hlt : i < C
    · have hil : (i : Int) < C := by omega
      have HST : Hid (loopR N (C - i) s1 out = if (factR N s1).2.1 ≠ 0 then ((factR N s1).2.1, [], (factR N s1).2.2) else loopR N (C - (i + 1)) (factR N s1).2.2 (out ++ [(factR N s1).1])) := by
        show _ = _
        rw [show C - i = (C - (i + 1)) + 1 by omega]
        rfl
      go_wp2_with fail
      refine (readFact_any9 N hN HXS.out).mono ?_
      rintro e w4 ⟨rfl, h4, t4⟩
      have HN4 := Lib.hid (row_read HXS.out HNW.out t4)
      have H4 := Lib.hid h4
      clear h4 t4 HNW HXS
      generalize factR N s1 = fr at *
      obtain ⟨f, ft, s2⟩ := fr
      dsimp only at *
      by_cases hf : ft = 0
      · have hfz : ((ft : Int) != 0) = false := by simp [hf]
        have HNX : Hid (loopR N C s0 [] = loopR N (C - (i + 1)) s2 (out ++ [f])) := HSP.out.trans (HST.out.trans (if_neg (by simp [hf])))
        have HN5 : Hid (NewE EF 76 w (w4.alloc (.cells #[.int .i64 f.k.h, sv9 f.k.a, sv9 f.k.b, sv9 f.k.c, sv9 f.k.d, .int .i64 f.v] 76)) (.slice (some ad) C C) (out ++ List.replicate (C - i) zeroF)) := HN4.out.alloc _
        have H5 : Hid (PR w p (w4.alloc (.cells #[.int .i64 f.k.h, sv9 f.k.a, sv9 f.k.b, sv9 f.k.c, sv9 f.k.d, .int .i64 f.v] 76)) s2) := H4.out.later ((Turn.refl (fun _ => False) w4).alloc _)
        have HL : Hid (i < (out ++ List.replicate (C - i) zeroF).length) := by
          show _ < _
          rw [List.length_append, List.length_replicate, HO.out]
          omega
        clear HN4 H4
        go_wp2_with (first | (with_reducible refine wpList_put9 (op := ⟨none, .store 76 (.tmp 30) (.tmp 29), _, _, _, _⟩) rfl _ _ rfl HSI.out HN5.out.own i f HL.out rfl rfl ?_; intro w6 ho6 ht6; have HO6 := Lib.hid ho6; have HT6 := Lib.hid ht6; clear ho6 ht6) | fail)
        have htw : Turn (fun k => (Value.slice (some ad) C C).ownBlock = some k) (w4.alloc (.cells #[.int .i64 f.k.h, sv9 f.k.a, sv9 f.k.b, sv9 f.k.c, sv9 f.k.d, .int .i64 f.v] 76)) w6 := HT6.out.mono fun k _ e => by rw [e]; rfl
        have HN6 := Lib.hid (HN5.out.step HO6.out htw (.inl rfl))
        have H6 := Lib.hid (pr_row7 H5.out HN5.out htw)
        rw [put_at9 HO.out hlt] at HN6
        clear htw HN5 H5 HO6 HT6
        go_roundw
        case rel => exact ⟨i + 1, s2, out ++ [f], by go_num, hlt, by rw [List.length_append, HO.out]; rfl, HN6.out, H6.out, HNX.out⟩
        case measure => simp [intOf]; omega
      · have HE : Hid (loopR N C s0 [] = (ft, [], s2)) := HSP.out.trans (HST.out.trans (if_pos hf))
        have hfz : ((ft : Int) != 0) = true := by simp [bne, hf]
        have HTF := Lib.hid H4.out.turn
        clear H4 HN4
        go_wp2
        go_ret2
        exact HEND.out _ (ft, [], s2) _ HE.out (fun e => absurd e hf) (HTF.out.alloc _)
    · obtain rfl : i = C := by omega
      have HE : Hid (loopR N i s0 [] = (s1.2, out, s1)) := by
        show _ = _
        rw [HSP.out, Nat.sub_self]
        rfl
      have HRD : Hid (RdE EF wr (.slice (some ad) i i) out) := by
        have h := HNW.out.own.rd
        rw [Nat.sub_self, List.replicate_zero, List.append_nil] at h
        exact h
      clear HSP
      go_wp2_with fail
      refine (pr_fault HXS.out).mono ?_
      rintro e w6 ⟨rfl, rfl⟩
      go_wp2
      go_ret2
      exact HEND.out _ (s1.2, out, s1) _ HE.out (fun _ => ⟨HRD.out, HXS.out, HNW.out.new⟩) HXS.out.turn

set_option maxHeartbeats 8000000 in
theorem read_anyN9 (u : Value) (m : List UInt8) (n : Int) (w : World) (hv : Rd w u m) (hl : m.length ≤ 1000000) : Calls Try.prog 47 #[u, .int .i64 n] w fun e w' => ReadedN w m n e w' := by
  have HCT : Hid (∀ W, Calls Try.prog 62 #[.int .i64 n] W fun e w' => e = .returned (.bool (okDims n)) ∧ w' = W) := fun W => counted_any9 n W
  by_cases hn : 1 ≤ n ∧ n ≤ 4
  · obtain ⟨n1, n4⟩ := hn
    obtain ⟨N, rfl⟩ := Int.eq_ofNat_of_zero_le (show 0 ≤ n by omega)
    have hok : okDims (N : Int) = true := by unfold okDims; simp [n1, n4]
    have hN4 : N ≤ 4 := by omega
    have HNEW := Lib.hid (pr_new (w := w) u m (Turn.refl _ w) hv (by omega))
    have hsp : readB m (N : Int) = endR N (loopR N (sCount (m, 0)) (sCount' (m, 0)) []) := by
      unfold readB
      rw [hok, Int.toNat_natCast, if_pos rfl]
      exact readR_end N _ _ _
    have hC50 : sCount (m, 0) ≤ 50 := by
      unfold sCount rdCount
      simp only [if_true]
      split
      · exact Nat.zero_le _
      · split
        · exact Nat.zero_le _
        · omega
    have hlen := loop_len N (sCount (m, 0)) (sCount' (m, 0)) []
    have hok0 := loop_ok N (sCount (m, 0)) (sCount' (m, 0)) []
    rw [hok] at HCT
    have HEND : Hid (∀ (v : Value) (a : Int) (l : List F9) (w' : World), readB m (N : Int) = (a, l) → RdE EF w' v l → Turn (fun _ => False) w w' → (∀ k, v.ownBlock = some k → w.heap.size ≤ k) → ReadedN w m (N : Int) (.returned (.tuple #[v, .int .i64 a])) w') := fun v a l w' e h1 h2 h3 => ⟨v, by rw [e], by rw [e]; exact h1, h2, h3⟩
    clear hv hok
    go_enter Try.func47, Try.ntmps47
    go_wp2_with fail
    refine (HCT.out _).mono ?_
    rintro e w1 ⟨rfl, rfl⟩
    go_wp2_with fail
    refine HNEW.out.mono ?_
    rintro e w2 ⟨p, rfl, h2, -⟩
    have HRL := Lib.hid (readList_any9 N hN4 h2)
    unfold ListRead at HRL
    generalize loopR N (sCount (m, 0)) (sCount' (m, 0)) [] = r at *
    obtain ⟨ft, out, s2⟩ := r
    dsimp only at *
    have HSP := Lib.hid hsp
    have hl50 : out.length ≤ 50 := by rw [List.length_nil] at hlen; omega
    have HOK0 := Lib.hid hok0
    clear h2 HNEW hsp hlen hok0 hC50
    go_wp2_with fail
    refine HRL.out.mono ?_
    rintro e w3 ⟨v, rfl, hok, ht⟩
    have HT := Lib.hid ht
    clear ht HRL
    by_cases hf : ft = 0
    · obtain ⟨hrd, hpr, hnw⟩ := hok hf
      have HNWB := Lib.hid hnw
      have hs0 := HOK0.out hf
      have hnd : readB m (N : Int) = if 0 < s2.1.length then (4, []) else if (allB out N).1 ≠ 0 then ((allB out N).1, []) else (0, out) := by
        rw [HSP.out]
        unfold endR
        rw [if_neg (by simp [hf])]
      obtain ⟨A8, c8, rfl⟩ := hrd.shape
      have HRD := Lib.hid hrd
      have HLF := Lib.hid (pr_left hpr hs0)
      subst hf
      clear hok hrd hpr hnw HSP
      by_cases hlen : 0 < s2.1.length
      · rw [if_pos hlen] at hnd
        have HND := Lib.hid hnd
        have hli : (0 : Int) < s2.1.length := by omega
        clear hnd
        go_wp2_with fail
        refine HLF.out.mono ?_
        rintro e w7 ⟨rfl, nn, rfl⟩
        go_wp2
        go_ret2
        exact HEND.out _ 4 [] _ HND.out (RdE.nil _) (HT.out.drewN _) (fun k hk => by cases hk)
      · rw [if_neg hlen] at hnd
        have hl0 : s2.1.length = 0 := by omega
        have hli : ¬ ((0 : Int) < s2.1.length) := by omega
        have HND := Lib.hid hnd
        clear hnd hlen
        go_wp2_with fail
        refine HLF.out.mono ?_
        rintro e w7 ⟨rfl, nn, rfl⟩
        have HALL := Lib.hid (all_any9 (.slice A8 out.length c8) out (N : Int) (w3.drewN nn) (HRD.out.later ((Turn.refl _ w3).drewN nn)) (by omega))
        by_cases ha : (allB out N).1 = 0
        · have hag := (all_good ha).2.2.2
          unfold allV at HALL
          rw [hag] at HALL HND
          clear ha hag
          go_wp2_with fail
          refine HALL.out.mono ?_
          rintro e w9 ⟨rfl, t9⟩
          have HT9 := Lib.hid t9
          clear t9
          have HFIN : Hid (readB m (N : Int) = (0, out)) := HND.out
          have HRD9 : Hid (RdE EF w9 (.slice A8 out.length c8) out) := (HRD.out.later ((Turn.refl _ w3).drewN nn)).later HT9.out
          have HTF : Hid (Turn (fun _ => False) w1 w9) := (HT.out.drewN nn).trans HT9.out (fun _ _ f => f)
          go_wp2
          go_ret2
          exact HEND.out _ 0 out _ HFIN.out HRD9.out HTF.out HNWB.out
        · have HFIN : Hid (readB m (N : Int) = ((allB out N).1, [])) := HND.out.trans (if_pos ha)
          have hne : ((allB out N).1 != 0) = true := by simp [bne, ha]
          unfold allV at HALL
          clear ha HND
          generalize (allB out N).1 = a at *
          generalize (allB out N).2 = b at *
          go_wp2_with fail
          refine HALL.out.mono ?_
          rintro e w9 ⟨rfl, t9⟩
          have HTF : Hid (Turn (fun _ => False) w1 w9) := (HT.out.drewN nn).trans t9 (fun _ _ f => f)
          clear t9
          go_wp2
          go_ret2
          exact HEND.out _ a [] _ HFIN.out (RdE.nil _) HTF.out (fun k hk => by cases hk)
    · have hfz : ((ft : Int) != 0) = true := by simp [bne, hf]
      have HFIN : Hid (readB m (N : Int) = ((ft : Int), [])) := HSP.out.trans (if_pos hf)
      clear hok HSP hf
      go_wp2
      go_ret2
      exact HEND.out _ _ [] _ HFIN.out (RdE.nil _) HT.out (fun k hk => by cases hk)
  · have hok : okDims n = false := by unfold okDims; simpa using hn
    have e : readB m n = (1, []) := by
      unfold readB
      rw [hok]
      rfl
    have HE := Lib.hid e
    rw [hok] at HCT
    clear e hv hn hok
    go_enter Try.func47, Try.ntmps47
    go_wp2_with fail
    refine (HCT.out _).mono ?_
    rintro e w1 ⟨rfl, rfl⟩
    go_wp2
    go_ret2
    exact ⟨.slice none 0 0, by rw [HE.out]; rfl, by rw [HE.out]; exact RdE.nil _, Turn.refl _ w1, fun k hk => by cases hk⟩

theorem read_any9 (u : Value) (m : List UInt8) (n : Int) (w : World) (hv : Rd w u m) (hl : m.length ≤ 1000000) : Calls Try.prog 47 #[u, .int .i64 n] w fun e w' => Readed w m n e w' :=
  (read_anyN9 u m n w hv hl).mono fun _ _ h => h.old

end Go.Proofs.Ytgchfckmhibeaaa

/-
  Frames by a range over a function: the iterator, and how many bytes all have.
-/
namespace Go.Proofs.Ytgchfckmhibeaaa
open Go.RowKit Go.Shelf
attribute [local go_sem] Oper.semAt_some

/-- A frame that has come: its place, its payload, and the slice in which that lies. -/
abbrev Fr : Type := (Nat × List UInt8) × (Option Addr × Nat)
abbrev frs (x : Fr) : Array Value := #[.int .i64 (x.1.1 : Int), .slice x.2.1 x.1.2.length x.2.2]
def frGv (l : List UInt8) (pre : List Fr) (x : Fr) (W : World) : Prop := Rd W (.slice x.2.1 x.1.2.length x.2.2) x.1.2 ∧ (pre ++ [x]).map (·.1) <+: allOf l
def frAll (l : List UInt8) (xs : List Fr) : Prop := xs.map (·.1) = allOf l
def frPart (l : List UInt8) (xs : List Fr) : Prop := xs.map (·.1) <+: allOf l

theorem frGv_holds (D : Nat) (l : List UInt8) (pre : List Fr) : Holds D (frGv l pre) := fun _ _ _ hs ht => ⟨hs.1.odd ht, hs.2⟩

set_option maxRecDepth 100000 in
set_option maxHeartbeats 400000 in
theorem each_any (v : Value) (l : List UInt8) (w : World) (hv : Rd w v l) (hl : l.length ≤ 1000000) :
    Calls Try.prog 26 #[v] w fun e w' => ∃ q u, e = .returned (.func (.func 42) #[] #[.pointer (some ⟨q, 0, none⟩)]) ∧ Box w' q 22 #[u] ∧ By w' u l ∧ Turn (fun _ => False) w w' ∧
      w.heap.size ≤ q ∧ ∀ k, u.ownBlock = some k → w.heap.size ≤ k := by
  have HV := Lib.hid hv; clear hv
  go_enter Try.func26, Try.ntmps26
  go_wp2_with (go_at_call 41; refine (clone_any v l w HV.out hl).mono ?_; rintro e w1 ⟨u, rfl, hb, ht, hk⟩; obtain ⟨A, c, hu⟩ := hb.shape; subst hu; have HB := Lib.hid hb; clear hb; have HT := Lib.hid ht; clear ht; have HK := Lib.hid hk; clear hk)
  go_ret
  exact ⟨w1.heap.size, .slice A l.length c, rfl, Box.new _ _ _, HB.out.alloc _, HT.out.alloc _, HT.out.size, HK.out⟩

set_option maxRecDepth 100000 in
/-- What is left of bytes from i on. -/
theorem slice_from {w : World} {A : Option Addr} {n c : Nat} {l : List UInt8} (hv : Rd w (.slice A n c) l) (i : Nat) (hi : i ≤ l.length) :
    ∃ D, (∀ W, (Instr.slice 22 (.slice A n c) (some (.int .i64 (i : Int))) none none).run Try.prog W = .ok (.slice D (n - i) (c - i)) W) ∧ Rd w (.slice D (n - i) (c - i)) (l.drop i) := by
  obtain ⟨rfl, h1, h2⟩ := hv.fits
  have hm : c ≤ 9223372036854775807 := by unfold maxLen at h2; omega
  refine ⟨if c = i then A else A.map fun a => a.add i, fun W => ?_, ?_⟩
  · have h := run_slice_l (P := Try.prog) (w := W) 22 A l.length c Try.underlying22 .i64 (i : Int) (by omega) (by omega)
    rw [h]
    by_cases hc : c = i
    · simp [go_sem, hc]
    · simp [go_sem, hc]
  · by_cases hc : c = i
    · have e : l.length - i = 0 := by omega
      rw [List.drop_eq_nil_of_le (by omega), if_pos hc, e]
      exact ⟨A, c - i, rfl, ⟨Nat.zero_le _, by omega⟩, fun _ => ⟨rfl, by omega⟩, fun _ _ j b hj => by simp at hj⟩
    · rw [if_neg hc]
      cases A with
      | none =>
        obtain ⟨A', c', e, _, hn, _⟩ := hv
        injection e with e1 e2 e3
        subst e1 e3
        obtain ⟨rfl, rfl⟩ := hn rfl
        exact absurd (show (0 : Nat) = i by simp at hi; omega) hc
      | some ad => exact hv.back i hi

structure EachRel (l : List UInt8) (q : Nat) (u : Value) (J : List Fr → World → Prop) (i : Nat) (pre : List Fr) (wr : World) : Prop where
  hi : i ≤ l.length
  hd : pre.map (·.1) ++ allF (l.length - i + 1) i (l.drop i) = allOf l
  hj : J pre wr
  hq : Box wr q 22 #[u]
  hu : Rd wr u l

theorem each_step {l : List UInt8} {q : Nat} {u : Value} {J : List Fr → World → Prop} {i : Nat} {pre : List Fr} {wr : World} (h : EachRel l q u J i pre wr) {p : List UInt8} {n : Nat} (htk : takes (l.drop i) = (p, n, 0)) :
    5 ≤ n ∧ n = sz p.length ∧ i + n ≤ l.length ∧ ∀ x : Fr, x.1 = (i, p) → (pre ++ [x]).map (·.1) ++ allF (l.length - (i + n) + 1) (i + n) (l.drop (i + n)) = allOf l := by
  have e0 : (takes (l.drop i)).2.2 = 0 := by rw [htk]
  have hs := takes_sz (l.drop i) e0
  rw [htk] at hs
  have hsz : n = sz p.length := hs.1
  have hle : n ≤ (l.drop i).length := hs.2.1
  have hpos := sz_pos p.length
  have h1 := h.hi
  rw [List.length_drop] at hle
  refine ⟨by omega, hsz, by omega, fun x hx => ?_⟩
  rw [← h.hd, List.map_append, List.append_assoc]
  congr 1
  rw [allF_step e0, htk]
  show [x.1] ++ _ = (i, p) :: allF (l.length - i) (i + n) ((l.drop i).drop n)
  rw [List.drop_drop, allF_fuel (l.length - i) (l.length - (i + n) + 1) _ _ (by rw [List.length_drop]; omega) (by rw [List.length_drop]; omega), hx]
  rfl

set_option maxRecDepth 100000 in
set_option maxHeartbeats 2000000 in
theorem frames_give (n : Nat) (hn : 1 ≤ n) (q : Nat) (u : Value) (l : List UInt8) (w : World) (hq : Box w q 22 #[u]) (hu : Rd w u l) (hl : l.length ≤ 1000000) (S : Nat → Prop) (hSq : ¬ S q) (hSu : ∀ k, u.ownBlock = some k → ¬ S k) :
    Gives n 42 #[.pointer (some ⟨q, 0, none⟩)] frs S (frGv l) (frAll l) (frPart l) w := fun l0 J Jx W hW hJ hJx hY h0 => by
  have HQ := Lib.hid (hq.turn hW (fun f => f))
  have HU := Lib.hid (hu.later hW)
  have HY := Lib.hid hY; clear hY
  have HJ := Lib.hid hJ; clear hJ hJx
  have HSQ := Lib.hid hSq; clear hSq
  have HSU := Lib.hid hSu; clear hSu
  have H0 := Lib.hid h0; clear h0 hq hW
  obtain ⟨A, c, rfl, hcc, hxx⟩ := hu
  have hcap : c ≤ 9223372036854775807 := by have := hcc.2; unfold maxLen at this; omega
  have hcl := hcc.1
  clear hcc hxx
  refine callsIn_of_wp Try.func42 rfl trivial ?_ rfl
  simp only [Try.ntmps42, List.size_toArray, List.length_cons, List.length_nil, Nat.reduceAdd, Nat.reduceSub, Array.replicate_succ, Array.replicate_zero, List.push_toArray, List.append_toArray, List.nil_append, List.cons_append]
  gi_wp2
  gi_loopw [3] (fun x wr => ∃ (i : Nat) (pre : List Fr), x = .int .i64 (i : Int) ∧ EachRel l q (.slice A l.length c) J i pre wr) (fun x _ => l.length - (intOf x).toNat)
  case atStart => exact ⟨0, [], rfl, ⟨Nat.zero_le _, rfl, H0.out, HQ.out, HU.out⟩⟩
  case round =>
    obtain ⟨i, pre, rfl, hr⟩ := hrel
    have HR := Lib.hid hr
    have hil := hr.hi
    have hcell : wr.cell? ⟨q, 0, none⟩ = some (.slice A l.length c) := hr.hq.cell 0
    have HV := Lib.hid hr.hu
    clear hr
    have HDL : Hid ((l.drop i).length = l.length - i) := List.length_drop
    obtain ⟨⟨p, n1, f⟩, hq1⟩ : ∃ x, x = takes (l.drop i) := ⟨_, rfl⟩
    obtain ⟨D, hsl, hrd⟩ := slice_from HV.out i hil
    have HB := Lib.hid hrd; clear hrd
    have HTP : Hid (∀ e W', TakePost wr (l.drop i) e W' → ∃ A c, e = .returned (.tuple #[.slice A p.length c, .int .i64 n1, .int .i64 f]) ∧ Rd W' (.slice A p.length c) p ∧ Turn (fun _ => False) wr W') := by
      rintro e W' ⟨v', he, hr, ht⟩
      rw [← hq1] at he hr
      obtain ⟨A, c, rfl⟩ := Rd.shape hr
      exact ⟨A, c, he, hr, ht⟩
    by_cases hf : f = 0
    · subst hf
      obtain ⟨h5, hsz, hin, hst⟩ := each_step HR.out hq1.symm
      have HST := Lib.hid hst; have H5 := Lib.hid h5
      clear hst h5 hsz hq1
      gi_wp2_with (refine ⟨trivial, ?_⟩; gi_at_call 43; refine (callsIn_wide.2 (frame_take _ (l.drop i) wr HB.out (by rw [HDL.out]; omega))).mono ?_; intro e w1 hp; obtain ⟨Au, cu, rfl, hr1, ht1⟩ := HTP.out _ _ hp; have hjj := HJ.out _ _ _ HR.out.hj ht1.none; obtain ⟨fn, tm, asg, bo, hy, hrr⟩ := HY.out pre ((i, p), (Au, cu)) w1 hjj ⟨hr1, _, HST.out _ rfl⟩; have HR1 := Lib.hid hr1; have HT1 := Lib.hid ht1; have HRR := Lib.hid hrr; clear hp hr1 ht1 hjj hrr; dsimp only [frs] at hy)
      refine HRR.out.mono ?_
      rintro e w2 (⟨rfl, hj2, hk2⟩ | ⟨rfl, hx2⟩)
      · have HJ2 := Lib.hid hj2
        have HK2 := Lib.hid hk2
        clear hj2 hk2
        gi_wp2
        go_roundw
        case rel => exact ⟨i + n1, pre ++ [((i, p), (Au, cu))], by go_num, ⟨hin, HST.out _ rfl, HJ2.out, (HR.out.hq.turn HT1.out (fun f => f)).turn HK2.out HSQ.out, (HR.out.hu.later HT1.out).turn HK2.out HSU.out⟩⟩
        case measure => have := H5.out; simp [intOf]; omega
      · have HX2 := Lib.hid hx2
        clear hx2
        gi_wp2
        refine bodyPost_ret (results_none rfl _ _ _) rfl ?_
        exact ⟨⟨_, rfl⟩, .inr ⟨pre ++ [((i, p), (Au, cu))], ⟨_, HST.out _ rfl⟩, HX2.out⟩⟩
    · have hf2 : (((f : Int) == 0) = false) := by rw [beq_eq_false_iff_ne]; omega
      have hf3 : (((f : Int) != 0) = true) := by rw [bne_iff_ne]; omega
      have HALL : Hid (pre.map (·.1) = allOf l) := by
        have h := HR.out.hd
        rw [allF_stop (by rw [← hq1]; exact hf), List.append_nil] at h
        exact h
      clear hq1 hf
      gi_wp2_with (refine ⟨trivial, ?_⟩; gi_at_call 43; refine (callsIn_wide.2 (frame_take _ (l.drop i) wr HB.out (by rw [HDL.out]; omega))).mono ?_; intro e w1 hp; obtain ⟨Au, cu, rfl, hr1, ht1⟩ := HTP.out _ _ hp; have HR1 := Lib.hid hr1; have HT1 := Lib.hid ht1; clear hp hr1 ht1)
      refine ⟨fun _ h => (by cases h), ?_⟩
      gi_wp2
      refine bodyPost_ret (results_none rfl _ _ _) rfl ?_
      exact ⟨⟨_, rfl⟩, .inl ⟨pre, HALL.out, HJ.out _ _ _ HR.out.hj HT1.out.none⟩⟩

end Go.Proofs.Ytgchfckmhibeaaa

/-
  Stage 17: the program's Parse.
-/
namespace Go.Proofs.Ytgchfckmhibeaaa
open Go.RowKit

set_option maxRecDepth 100000

theorem gnum_s17 (s : RS9) : gNum s = sNum s ∧ gNum' s = sNum' s := ⟨rfl, rfl⟩
/-- What is left of bytes: their end. -/
def Ends17 (p : List UInt8) (s : RS9) : Prop := s.2 = 0 → ∃ k, k ≤ p.length ∧ s.1 = p.drop k
theorem ends_start17 (p : List UInt8) : Ends17 p (p, 0) := fun _ => ⟨0, Nat.zero_le _, rfl⟩
theorem Ends17.num {p : List UInt8} {s : RS9} (h : Ends17 p s) : Ends17 p (sNum' s) := by
  intro h0
  unfold sNum' at h0 ⊢
  by_cases hs : s.2 = 0
  · rw [if_pos hs] at h0 ⊢
    obtain ⟨k, hkl, e⟩ := h hs
    have h1 := rdNum_long s.1
    rw [e, List.length_drop] at h1
    refine ⟨k + (rdNum s.1).2.2, ?_, ?_⟩
    · rw [e]; omega
    · show s.1.drop _ = _
      rw [e, List.drop_drop]
  · rw [if_neg hs] at h0
    exact absurd h0 hs
theorem fit_nat17 (s t u : Nat) : fitB17 s t u = numsR17 s t u := by
  unfold fitB17 numsR17 in17
  rw [Bool.eq_iff_iff]
  simp only [Bool.and_eq_true, decide_eq_true_iff]
  omega
theorem pr_numS {w wr : World} {p : Nat} {s : RS9} (h : PR w p wr s) : Calls Try.prog 45 #[.pointer (some ⟨p, 0, none⟩)] wr fun e w' => e = .returned (.int .u64 (sNum s : Int)) ∧ PR w p w' (sNum' s) ∧ Turn (fun g => g = p) wr w' := pr_num h

set_option maxHeartbeats 4000000 in
theorem parse_any17 (u : Value) (p : List UInt8) (n : Int) (w : World) (hv : Rd w u p) (hl : p.length ≤ 1000000) : Calls Try.prog 27 #[u, .int .i64 n] w fun e w' => Parsed17 w p n e w' := by
  obtain ⟨A, c, rfl⟩ := hv.shape
  by_cases hn : 1 ≤ n ∧ n ≤ 4
  · obtain ⟨n1, n4⟩ := hn
    obtain ⟨N, rfl⟩ := Int.eq_ofNat_of_zero_le (show 0 ≤ n by omega)
    have HTW : Hid (Turn (fun _ => False) w (w.alloc (.cells #[.int .i64 0, .int .i64 0, .int .i64 0, .slice none 0 0] 50))) := (Turn.refl _ w).alloc _
    have HBX := Lib.hid (Box.new w 50 (bcells17 ⟨0, 0, 0, none, 0, []⟩))
    obtain ⟨wb, hwb⟩ : ∃ wb, wb = w.alloc (.cells #[.int .i64 0, .int .i64 0, .int .i64 0, .slice none 0 0] 50) := ⟨_, rfl⟩
    have hsz : wb.heap.size = w.heap.size + 1 := by rw [hwb]; exact Array.size_push _
    rw [← hwb] at HTW
    have HBX : Hid (Box wb w.heap.size 50 (bcells17 zb17)) := by rw [hwb]; exact HBX.out
    have HWB := Lib.hid hwb
    have HSZ := Lib.hid hsz
    have HVB := Lib.hid (hv.later HTW.out)
    have HNEW := Lib.hid (pr_new (w := wb) (wr := wb) _ p (Turn.refl _ _) HVB.out hl)
    clear hwb hsz
    have hok : okDims (N : Int) = true := by unfold okDims; simp [n1, n4]
    have HSPEC : Hid (parse17 p (N : Int) = (if (sNum' (sNum' (sNum' (p, 0)))).2 ≠ 0 then (⟨0, 0, 0, []⟩, ((sNum' (sNum' (sNum' (p, 0)))).2 : Int))
        else if numsR17 (sNum (p, 0)) (sNum (sNum' (p, 0))) (sNum (sNum' (sNum' (p, 0)))) = false then (⟨0, 0, 0, []⟩, 4)
        else if (readB (sNum' (sNum' (sNum' (p, 0)))).1 (N : Int)).1 ≠ 0 then (⟨0, 0, 0, []⟩, (readB (sNum' (sNum' (sNum' (p, 0)))).1 (N : Int)).1)
        else (⟨sNum (p, 0), sNum (sNum' (p, 0)), sNum (sNum' (sNum' (p, 0))), (readB (sNum' (sNum' (sNum' (p, 0)))).1 (N : Int)).2⟩, 0))) := by
      show _ = _
      unfold parse17
      rw [if_pos hok]
    have HEN : Hid (Ends17 p (sNum' (sNum' (sNum' (p, 0))))) := (ends_start17 p).num.num.num
    obtain ⟨P, hP⟩ : ∃ P, P = p.length := ⟨_, rfl⟩
    rw [← hP] at HVB HNEW ⊢
    have HPL := Lib.hid hP
    have HLP : Hid (P ≤ 1000000) := by show _ ≤ _; omega
    clear hv hok hP hl
    go_enter Try.func27, Try.ntmps27
    go_wp2_with fail
    rw [← HWB.out]
    refine HNEW.out.mono ?_
    rintro e w1 ⟨q, rfl, h1, hq⟩
    have H1 := Lib.hid h1
    have HQ : Hid (w.heap.size < q) := by show _ < _; have := HSZ.out; omega
    clear h1 hq HNEW
    go_wp2_with fail
    refine (pr_numS H1.out).mono ?_
    rintro e w2 ⟨rfl, h2, -⟩
    generalize sNum (p, 0) = s at *
    generalize sNum' (p, 0) = s1 at *
    have H2 := Lib.hid h2
    clear h2 H1
    go_wp2_with fail
    refine (pr_numS H2.out).mono ?_
    rintro e w3 ⟨rfl, h3, -⟩
    generalize sNum s1 = t at *
    generalize sNum' s1 = s2 at *
    have H3 := Lib.hid h3
    clear h3 H2
    go_wp2_with fail
    refine (pr_numS H3.out).mono ?_
    rintro e w4 ⟨rfl, h4, -⟩
    generalize sNum s2 = v at *
    generalize sNum' s2 = s3 at *
    have H4 := Lib.hid h4
    have HBX4 : Hid (Box w4 w.heap.size 50 (bcells17 zb17)) := HBX.out.turn h4.turn (fun f => f)
    have HTF : Hid (Turn (fun _ => False) w w4) := HTW.out.trans h4.turn (fun _ _ f => f)
    have HV4 := Lib.hid (HVB.out.later h4.turn)
    clear h4 H3 HBX HTW HVB
    go_wp2_with fail
    refine (pr_fault H4.out).mono ?_
    rintro e w5 ⟨rfl, hw⟩
    subst hw
    by_cases hf : s3.2 = 0
    · rw [hf]
      have HFT : Hid (∀ W, Calls Try.prog 40 #[.int .u64 (s : Int), .int .u64 (t : Int), .int .u64 (v : Int)] W fun e w' => e = .returned (.bool (numsR17 s t v)) ∧ w' = W) := fun W => by rw [← fit_nat17]; exact fit_any17 _ _ _ W
      by_cases hnr : numsR17 s t v = true
      · obtain ⟨a1, b1, c1, ea, eb, ec, hq, -, -⟩ := nums_of17 hnr
        obtain rfl : s = a1 := by omega
        obtain rfl : t = b1 := by omega
        obtain rfl : v = c1 := by omega
        have hin : (1 : Int) ≤ s ∧ (s : Int) ≤ 4611686018427387904 ∧ (t : Int) ≤ 1006633020 ∧ (v : Int) ≤ 4611686018427387904 := by
          unfold numsR17 in17 at hnr
          simp only [Bool.and_eq_true, decide_eq_true_iff] at hnr
          omega
        have HW1 : Hid (IntKind.i64.wrap (s : Int) = (s : Int)) := IntWalk.i64_in _ (by omega)
        have HW2 : Hid (IntKind.i64.wrap (t : Int) = (t : Int)) := IntWalk.i64_in _ (by omega)
        have HW3 : Hid (IntKind.i64.wrap (v : Int) = (v : Int)) := IntWalk.i64_in _ (by omega)
        have HSP2 : Hid (parse17 p (N : Int) = (if (readB s3.1 (N : Int)).1 ≠ 0 then (⟨0, 0, 0, []⟩, (readB s3.1 (N : Int)).1) else (⟨s, t, v, (readB s3.1 (N : Int)).2⟩, 0))) := by
          show _ = _
          rw [HSPEC.out, if_neg (by simp [hf]), if_neg (by rw [hnr]; decide)]
        rw [hnr] at HFT
        obtain ⟨k, hkl, hks⟩ := HEN.out hf
        have hlf := pr_left H4.out hf
        obtain ⟨D, hsl, hrd0⟩ := slice_from HV4.out k hkl
        rw [← hks] at hrd0
        have hlk : s3.1.length = P - k := by rw [hks, List.length_drop, HPL.out]
        have hkP : k ≤ P := by rw [HPL.out]; exact hkl
        rw [hlk] at hlf
        have HLF := Lib.hid hlf
        have hsub : (P : Int) - ((P - k : Nat) : Int) = (k : Int) := by omega
        have hlp := HLP.out
        have hwk : IntKind.i64.wrap (k : Int) = (k : Int) := IntWalk.i64_in _ (by omega)
        have HRD0 := Lib.hid hrd0
        have HRN : Hid (∀ W, Turn (fun _ => False) w4 W → Calls Try.prog 47 #[.slice D (P - k) (c - k), .int .i64 (N : Int)] W fun e w' => ReadedN W s3.1 (N : Int) e w') := fun W hW => read_anyN9 _ s3.1 (N : Int) W (HRD0.out.later hW) (by rw [hlk]; omega)
        have HRL : Hid (w.heap.size < w4.heap.size) := HBX4.out.lt
        clear hnr hf HSPEC hq ea eb ec hin hlf hks hkl hrd0 hlk
        go_wp2_with fail
        refine (HFT.out _).mono ?_
        rintro e w5 ⟨rfl, rfl⟩
        go_wp2_with fail
        refine HLF.out.mono ?_
        rintro e w6 ⟨rfl, nn, rfl⟩
        have HRD := Lib.hid (HRN.out _ ((Turn.refl _ w5).drewN nn))
        unfold ReadedN at HRD
        have HBXD : Hid (Box (w5.drewN nn) w.heap.size 50 (bcells17 zb17)) := HBX4.out.turn ((Turn.refl (fun _ => False) w5).drewN nn) (fun f => f)
        have HTFD : Hid (Turn (fun _ => False) w (w5.drewN nn)) := HTF.out.trans ((Turn.refl (fun _ => False) w5).drewN nn) (fun _ _ f => f)
        clear HLF HRN
        generalize readB s3.1 (N : Int) = rb at *
        obtain ⟨ra, rl⟩ := rb
        dsimp only at HRD HSP2
        go_wp2_with fail
        refine HRD.out.mono ?_
        rintro e w7 ⟨v5, rfl, r5, t5, n5⟩
        have HR5 := Lib.hid r5
        have HN5 : Hid (∀ k, v5.ownBlock = some k → w.heap.size < k) := fun k hk => by have h1 := n5 k hk; have h2 := HRL.out; have h3 := ((Turn.refl (fun _ => False) w5).drewN nn).size; omega
        have HBX5 : Hid (Box w7 w.heap.size 50 (bcells17 zb17)) := HBXD.out.turn t5 (fun f => f)
        have HTF5 := Lib.hid (HTFD.out.trans t5 (fun _ _ f => f))
        obtain ⟨A5, c5, rfl⟩ := r5.shape
        clear r5 t5 n5 HRD HBX4 HTF HRL H4 hsl hsub hwk
        obtain ⟨d0, d1, d2, d3⟩ := box_bat17 HBX5.out
        have z0 := HBX5.out.free 0; have z1 := HBX5.out.free 1; have z2 := HBX5.out.free 2; have z3 := HBX5.out.free 3
        by_cases hra : ra = 0
        · subst hra
          have HND : Hid (parse17 p (N : Int) = (⟨s, t, v, rl⟩, 0)) := HSP2.out.trans (if_neg (by simp))
          have HST := Lib.hid (bat_set17 HBX5.out HTF5.out (Nat.le_refl _) ⟨s, t, v, A5, c5, rl⟩)
          have HRT := Lib.hid (HR5.out.turn HST.out.2.2 (fun k hk e => by have := HN5.out k hk; omega))
          have hw1 := HW1.out; have hw2 := HW2.out; have hw3 := HW3.out
          clear HSP2
          go_wp2_with fail
          refine bodyPost_ret (v := .tuple #[.agg #[.int .i64 s, .int .i64 t, .int .i64 v, .slice A5 rl.length c5], .int .i64 0]) ?_ rfl ⟨⟨s, t, v, A5, c5, rl⟩, by rw [HND.out], by rw [HND.out]; rfl, HRT.out, HST.out.2.1, fun k hk => Nat.le_of_lt (HN5.out k hk)⟩
          rw [results_cell_tmp rfl]
          go_simp
        · have HND : Hid (parse17 p (N : Int) = (⟨0, 0, 0, []⟩, ra)) := HSP2.out.trans (if_pos hra)
          have HST := Lib.hid (bat_set17 HBX5.out HTF5.out (Nat.le_refl _) zb17)
          have hne : (ra == 0) = false := by rw [beq_eq_false_iff_ne]; exact hra
          clear hra HSP2
          go_wp2_with fail
          refine bodyPost_ret (v := .tuple #[.agg #[.int .i64 0, .int .i64 0, .int .i64 0, .slice none 0 0], .int .i64 ra]) ?_ rfl (parsed_none17 HND.out HST.out.2.1)
          rw [results_cell_tmp rfl]
          go_simp
      · have HND : Hid (parse17 p (N : Int) = (⟨0, 0, 0, []⟩, 4)) := by
          show _ = _
          rw [HSPEC.out, if_neg (by simp [hf]), if_pos (by simpa using hnr)]
        have hnf : numsR17 s t v = false := by simpa using hnr
        rw [hnf] at HFT
        clear hnr hf HSPEC hnf
        have HST := Lib.hid (bat_set17 HBX4.out HTF.out (Nat.le_refl _) zb17)
        obtain ⟨d0, d1, d2, d3⟩ := box_bat17 HBX4.out
        have z0 := HBX4.out.free 0; have z1 := HBX4.out.free 1; have z2 := HBX4.out.free 2; have z3 := HBX4.out.free 3
        go_wp2_with fail
        refine (HFT.out _).mono ?_
        rintro e w5 ⟨rfl, rfl⟩
        go_wp2_with fail
        refine bodyPost_ret (v := .tuple #[.agg #[.int .i64 0, .int .i64 0, .int .i64 0, .slice none 0 0], .int .i64 4]) ?_ rfl (parsed_none17 HND.out HST.out.2.1)
        rw [results_cell_tmp rfl]
        go_simp
    · have HND : Hid (parse17 p (N : Int) = (⟨0, 0, 0, []⟩, (s3.2 : Int))) := by
        show _ = _
        rw [HSPEC.out, if_pos hf]
      have hf2 : ((s3.2 : Int) == 0) = false := by rw [beq_eq_false_iff_ne]; omega
      have hf3 : ((s3.2 : Int) != 0) = true := by rw [bne_iff_ne]; omega
      have HST := Lib.hid (bat_set17 HBX4.out HTF.out (Nat.le_refl _) zb17)
      obtain ⟨d0, d1, d2, d3⟩ := box_bat17 HBX4.out
      have z0 := HBX4.out.free 0; have z1 := HBX4.out.free 1; have z2 := HBX4.out.free 2; have z3 := HBX4.out.free 3
      clear hf HSPEC
      go_wp2_with fail
      refine bodyPost_ret (v := .tuple #[.agg #[.int .i64 0, .int .i64 0, .int .i64 0, .slice none 0 0], .int .i64 (s3.2 : Int)]) ?_ rfl (parsed_none17 HND.out HST.out.2.1)
      rw [results_cell_tmp rfl]
      go_simp
  · have HE : Hid (parse17 p n = (⟨0, 0, 0, []⟩, 1)) := by
      show _ = _
      unfold parse17
      rw [if_neg (by unfold okDims; simpa using hn)]
    clear hv
    by_cases n1 : n < 1
    · clear hn
      go_enter Try.func27, Try.ntmps27
      go_wp2_with fail
      refine bodyPost_ret (v := .tuple #[.agg #[.int .i64 0, .int .i64 0, .int .i64 0, .slice none 0 0], .int .i64 1]) ?_ rfl (parsed_none17 HE.out ((Turn.refl _ w).alloc _))
      rw [results_cell_tmp rfl]
      go_simp
    · have n2 : 4 < n := by omega
      clear hn
      go_enter Try.func27, Try.ntmps27
      go_wp2_with fail
      refine bodyPost_ret (v := .tuple #[.agg #[.int .i64 0, .int .i64 0, .int .i64 0, .slice none 0 0], .int .i64 1]) ?_ rfl (parsed_none17 HE.out ((Turn.refl _ w).alloc _))
      rw [results_cell_tmp rfl]
      go_simp

end Go.Proofs.Ytgchfckmhibeaaa

/-
  A range over a function that may stand in an iterator itself: what an iterator promises ('Feeds'), where a round tells that what holds no cells, behind the record of its loop, is as it was; and the statement's law ('over2').
-/
namespace Go.Proofs.Ytgchfckmhibeaaa
open Go.RowKit

/-- What holds no cells, from block B on, is as it was. -/
structure Still (B : Nat) (W W' : World) : Prop where
  size : W.heap.size ≤ W'.heap.size
  same : ∀ (k : Nat) (o : Obj), B ≤ k → W.heap[k]? = some o → o.isCells = false → W'.heap[k]? = some o
theorem Still.refl (B : Nat) (W : World) : Still B W W := ⟨Nat.le_refl _, fun _ _ _ h _ => h⟩
theorem Still.trans {B : Nat} {W1 W2 W3 : World} (h : Still B W1 W2) (k : Still B W2 W3) : Still B W1 W3 := ⟨Nat.le_trans h.size k.size, fun i o hb hi ho => k.same i o hb (h.same i o hb hi ho) ho⟩
theorem Still.le {B B' : Nat} {W W' : World} (h : Still B W W') (hb : B ≤ B') : Still B' W W' := ⟨h.size, fun k o hk hw ho => h.same k o (Nat.le_trans hb hk) hw ho⟩
theorem Still.turned {B : Nat} {W W' : World} (h : Turn (fun _ => False) W W') : Still B W W' := ⟨h.size, fun k _ _ hk _ => (h.block k (Array.getElem?_eq_some_iff.1 hk).1 (fun f => f)).trans hk⟩
theorem Still.others {B : Nat} {W W' : World} (h : KeepsOthers W W') : Still B W W' := ⟨h.size, fun k o _ hk ho => h.same k o hk ho⟩
theorem Still.setCell {B : Nat} (W : World) (a : Addr) (v : Value) : Still B W (W.setCell a v) := Still.others (KeepsOthers.setCell W a v)
theorem Still.put {B : Nat} (W : World) (l : Nat) (o : Obj) (hl : l < B) : Still B W (W.putObj l o) := ⟨by simp [World.putObj], fun k _ hk hw _ => (World.putObj_heap_other (by omega)).trans hw⟩

/-- What a round's body owes. -/
def postF {α : Type} (B : Nat) (S : Nat → Prop) (I : List α → World → Prop) (Ix : Code → List α → World → Prop) (xs : List α) (W : World) : Exit → Act → World → Prop
  | .normal, _, W' => Still B W W' ∧ Turn S W W' ∧ I xs W'
  | .ret, _, W' => Still B W W' ∧ Ix .ret xs W'
  | .exit id, _, W' => Still B W W' ∧ Ix (.exit id) xs W'
  | .goto t, _, W' => Still B W W' ∧ Ix (.goto t) xs W'
  | .panic _, _, _ => False
  | .outgrown, _, _ => False

theorem Holds.le {β : Type} {D D' : Nat} {I : β → World → Prop} (h : Holds D I) (hd : D ≤ D') : Holds D' I :=
  fun s A B hs ht => h s A B hs (ht.mono (fun _ _ ⟨h1, o, h2, h3⟩ => ⟨Nat.le_trans hd h1, o, h2, h3⟩))

/-- The contract of an iterator value: what it hands a round ('Gv'), what a round that goes on may turn ('S'), what has come when it is done ('All'), or stopped ('Part'). -/
def Feeds {α : Type} (n : Nat) (g : Nat) (lb : Array Value) (encs : α → Array Value) (S : Nat → Prop) (Gv : List α → α → World → Prop) (All Part : List α → Prop) (w : World) : Prop :=
  ∀ (l : Nat) (J Jx : List α → World → Prop) (W : World), Turn (fun _ => False) w W → l < W.heap.size → (∀ k, S k → k < W.heap.size) → Holds W.heap.size J → Holds W.heap.size Jx →
    (∀ pre x W1, J pre W1 → Gv pre x W1 → YieldAt Fence.wide (n - 1) Try.prog l (encs x) W1 fun e W' =>
      (e = .returned (.bool true) ∧ J (pre ++ [x]) W' ∧ Turn S W1 W' ∧ Still (l + 1) W1 W') ∨ (e = .returned (.bool false) ∧ Jx (pre ++ [x]) W' ∧ Still (l + 1) W1 W')) →
    J [] W →
    CallsIn Fence.wide n Try.prog g (#[.func (.yield l) #[] #[]] ++ lb) W fun e W' => (∃ v, e = .returned v) ∧ ((∃ xs, All xs ∧ J xs W') ∨ (∃ pre, Part pre ∧ Jx pre W'))

/-- 'for .. := range g { body }' over an iterator that has such a contract. -/
theorem over2 {α : Type} {n : Nat} {g : Operand} {ps : Array Tmp} {assign body : Code} {Q : Exit → Act → World → Prop} {a : Act} {w w0 : World} (h1 : 1 ≤ n)
    {gf : Nat} {lb : Array Value} (hg : a.eval g = .func (.func gf) #[] lb) (eg : ∀ args w, (callFunc gf args).run Try.prog w = .ok (.enter gf args) w)
    {encs : α → Array Value} {S : Nat → Prop} {Gv : List α → α → World → Prop} {All Part : List α → Prop} (hseq : Feeds (n - 1) gf lb encs S Gv All Part w0) (hb0 : Turn (fun _ => False) w0 w)
    (hS : S (w.heap.size + 1)) (hS2 : ∀ k, S k → k < w.heap.size + 2) (hG : ∀ pre, Holds w.heap.size (Gv pre)) (hps : ∀ x, (encs x).size = ps.size)
    (I : List α → World → Prop) (Ix : Code → List α → World → Prop) (hI : Holds w.heap.size I) (hIx : ∀ c, Holds w.heap.size (Ix c)) (h0 : I [] w) (a₁ : α → Act)
    (hassign : ∀ (l : Nat) (x : α) (W : World) (K : Act → World → Prop), K (a₁ x) W →
      assign.wpIn (Fence.wide.inRound l) (n - 1 - 1) Try.prog (Exit.then K (fun _ _ _ => False)) { tmps := (ps.zip (encs x)).foldl (fun t (p, v) => t.setIfInBounds p v) a.tmps, defers := [] } W)
    (hbody : ∀ (l : Nat) (pre : List α) (x : α) (W : World), I pre W → Gv pre x W → body.wpIn (Fence.wide.inRound l) (n - 1 - 1) Try.prog (postF w.heap.size S I Ix (pre ++ [x]) W) (a₁ x) W)
    (hdone : ∀ (D : Nat) (xs : List α) (W : World), w.heap.size ≤ D → All xs → I xs W → W.heap[D]? = some (.deferred (some [])) → Q .normal { a with defers := { target := .collected D, args := #[] } :: a.defers } W)
    (hstop : ∀ (D : Nat) (c : Code) (pre : List α) (W : World), w.heap.size ≤ D → Part pre → Ix c pre W → W.heap[D]? = some (.deferred (some [])) → c.wpIn Fence.wide n Try.prog Q { a with defers := { target := .collected D, args := #[] } :: a.defers } W) :
    (Code.rangeFunc g ps assign body).wpIn Fence.wide n Try.prog Q a w := by
  refine wpIn_rangeFunc fun fn hfn => ?_
  obtain ⟨R, hR⟩ : ∃ R : LoopState → Option Code → Obj, R = fun st pe => .loop { state := st, pending := pe, fn, tmps := a.tmps, params := ps, assign, body, defers := w.heap.size } := ⟨_, rfl⟩
  -- the two blocks of the statement: the rounds' deferred calls, and its record, in a state
  obtain ⟨Bk, hBk⟩ : ∃ Bk : LoopState → Option Code → World → Prop, Bk = fun st pe W => W.heap[w.heap.size + 1]? = some (R st pe) ∧ W.heap[w.heap.size]? = some (.deferred (some [])) := ⟨_, rfl⟩
  obtain ⟨W1, hW1⟩ : ∃ W1, (w.alloc (.deferred (some []))).alloc (R .ready none) = W1 := ⟨_, rfl⟩
  have hsz : W1.heap.size = w.heap.size + 2 := by rw [← hW1]; simp
  have t1 : Turn (fun _ => False) w W1 := by rw [← hW1]; exact ((Turn.refl _ w).alloc _).alloc _
  have k1 : Bk .ready none W1 := by
    rw [hBk]
    refine ⟨?_, ?_⟩
    · have := World.alloc_heap_new (w.alloc (.deferred (some []))) (R .ready none)
      rw [World.size_alloc] at this
      rw [← hW1]
      exact this
    · rw [← hW1]
      exact (Below.heap_alloc _ _ _ (by simp)).trans (World.alloc_heap_new w _)
  have move : ∀ {D : Nat} {st : LoopState} {pe : Option Code} {A B : World}, w.heap.size + 2 ≤ D → Turn (odd D A) A B → Bk st pe A → Bk st pe B := by
    intro D st pe A B hD ht hk
    rw [hBk] at hk ⊢
    have far : ∀ k, k < w.heap.size + 2 → k < A.heap.size → B.heap[k]? = A.heap[k]? := fun k hk1 hk2 => ht.block k hk2 (fun s => by have := s.1; omega)
    exact ⟨(far _ (by omega) (Array.getElem?_eq_some_iff.1 hk.1).1).trans hk.1, (far _ (by omega) (Array.getElem?_eq_some_iff.1 hk.2).1).trans hk.2⟩
  have put : ∀ {st st' : LoopState} {pe pe' : Option Code} {A : World}, Bk st pe A → Bk st' pe' (A.putObj (w.heap.size + 1) (R st' pe')) ∧ Turn (odd w.heap.size A) A (A.putObj (w.heap.size + 1) (R st' pe')) ∧ Turn S A (A.putObj (w.heap.size + 1) (R st' pe')) := by
    intro st st' pe pe' A hk
    rw [hBk] at hk ⊢
    refine ⟨⟨World.putObj_heap_same (Array.getElem?_eq_some_iff.1 hk.1).1, (World.putObj_heap_other (by omega)).trans hk.2⟩, Turn.putObj _ _ _ ⟨by omega, _, hk.1, ?_⟩, Turn.putObj _ _ _ hS⟩
    rw [hR]
    rfl
  have keepS : True := trivial
  have keep : ∀ {st : LoopState} {pe : Option Code} {A B : World}, Still w.heap.size A B → Bk st pe A → Bk st pe B := by
    intro st pe A B h hk
    rw [hBk] at hk ⊢
    exact ⟨h.same _ _ (Nat.le_succ _) hk.1 (by rw [hR]; rfl), h.same _ _ (Nat.le_refl _) hk.2 rfl⟩
  refine ⟨w.heap.size + 1, [{ target := .collected w.heap.size, args := #[] }], W1, { target := .fn (.func gf) lb, args := #[.func (.yield (w.heap.size + 1)) #[] #[]] }, W1, gf,
    #[.func (.yield (w.heap.size + 1)) #[] #[]] ++ lb, W1, ?_, ?_, ?_, ?_, fun _ => h1, ?_⟩
  · rw [← hW1, hR]
    exact run_enterLoop_outer _ _ _ _ _
  · simp only [resolve, hg]
    simp [go_sem]
  · intro f' _
    trivial
  · simp [invoke, go_sem, eg]
  · refine (hseq (w.heap.size + 1) (fun pre W => I pre W ∧ Bk .ready none W) (fun pre W => ∃ c, Ix c pre W ∧ Bk .done (some c) W) W1 (hb0.trans t1 (fun _ _ f => f)) (by omega) (fun k hk => by have := hS2 k hk; omega)
      (fun s A B hs ht => ⟨(hI.le (by omega)) s A B hs.1 ht, move (by omega) ht hs.2⟩)
      (fun s A B hs ht => by
        obtain ⟨c, hc, hk⟩ := hs
        exact ⟨c, ((hIx c).le (by omega)) s A B hc ht, move (by omega) ht hk⟩)
      ?_ ⟨hI _ _ _ h0 t1.none, k1⟩).mono ?_
    · rintro pre x W ⟨hi, hk⟩ hgv
      have hl : W.heap[w.heap.size + 1]? = some (R .ready none) := by rw [hBk] at hk; exact hk.1
      rw [hR] at hl
      have hy := run_yield (P := Try.prog) (args := encs x) hl (hps x)
      refine ⟨fn, _, assign, body, hy, roundIn_of_wpIn hfn (hassign _ x W _ ⟨_, run_beginRound hl rfl, ?_⟩)⟩
      have hp := put (st' := .busy) (pe' := none) hk
      rw [hR] at hp
      refine wpIn_mono (hbody _ pre x _ (hI _ _ _ hi hp.2.1) (hG _ _ _ _ hgv hp.2.1)) ?_
      have ends : ∀ (jump : Option Code) (W3 : World), Still w.heap.size (W.putObj (w.heap.size + 1) (.loop { state := .busy, pending := none, fn, tmps := a.tmps, params := ps, assign, body, defers := w.heap.size })) W3 →
          ∃ W4, (Instr.endRound (w.heap.size + 1) jump).run Try.prog W3 = .ok (.bool jump.isNone) W4 ∧ Bk (if jump.isNone then .ready else .done) jump W4 ∧ Turn (odd w.heap.size W3) W3 W4 ∧ Turn S W3 W4 ∧ Still (w.heap.size + 1 + 1) W W4 := by
        intro jump W3 hk3
        have h3 := keep hk3 hp.1
        have hl3 : W3.heap[w.heap.size + 1]? = some (R .busy none) := by rw [hBk] at h3; exact h3.1
        have h4 := put (st' := if jump.isNone then .ready else .done) (pe' := jump) h3
        rw [hR] at hl3 h4
        exact ⟨_, run_endRound jump hl3, h4.1, h4.2.1, h4.2.2, ((Still.put W _ _ (Nat.lt_succ_self _)).trans (hk3.le (by omega))).trans (Still.put W3 _ _ (Nat.lt_succ_self _))⟩
      rintro e a3 W3 hpost
      cases e with
      | normal =>
        obtain ⟨hk3, ht3, hi3⟩ := hpost
        obtain ⟨W4, hr, hb4, ht4, hu4, hs4⟩ := ends none W3 hk3
        exact ⟨_, _, hr, .inl ⟨rfl, ⟨hI _ _ _ hi3 ht4, hb4⟩, (hp.2.2.trans ht3 (fun _ _ s => s)).trans hu4 (fun _ _ s => s), hs4⟩⟩
      | ret =>
        obtain ⟨hk3, hi3⟩ := hpost
        obtain ⟨W4, hr, hb4, ht4, hu4, hs4⟩ := ends (some .ret) W3 hk3
        exact ⟨_, _, hr, .inr ⟨rfl, ⟨.ret, hIx _ _ _ _ hi3 ht4, hb4⟩, hs4⟩⟩
      | exit id =>
        obtain ⟨hk3, hi3⟩ := hpost
        obtain ⟨W4, hr, hb4, ht4, hu4, hs4⟩ := ends (some (.exit id)) W3 hk3
        exact ⟨_, _, hr, .inr ⟨rfl, ⟨.exit id, hIx _ _ _ _ hi3 ht4, hb4⟩, hs4⟩⟩
      | goto t =>
        obtain ⟨hk3, hi3⟩ := hpost
        obtain ⟨W4, hr, hb4, ht4, hu4, hs4⟩ := ends (some (.goto t)) W3 hk3
        exact ⟨_, _, hr, .inr ⟨rfl, ⟨.goto t, hIx _ _ _ _ hi3 ht4, hb4⟩, hs4⟩⟩
      | panic ch => exact hpost.elim
      | outgrown => exact hpost.elim
    · have shut : ∀ {st : LoopState} {pe : Option Code} {W2 : World}, st ≠ .busy → Bk st pe W2 → ∃ W3, (Instr.endLoop (w.heap.size + 1)).run Try.prog W2 = .ok pe W3 ∧ W3.heap[w.heap.size]? = some (.deferred (some [])) ∧ Turn (odd w.heap.size W2) W2 W3 := by
        intro st pe W2 hst hk
        have hl : W2.heap[w.heap.size + 1]? = some (R st pe) := by rw [hBk] at hk; exact hk.1
        have h4 := put (st' := .exhausted) (pe' := pe) hk
        have h5 : (W2.putObj (w.heap.size + 1) (R .exhausted pe)).heap[w.heap.size]? = some (.deferred (some [])) := by have h6 := h4.1; rw [hBk] at h6; exact h6.2
        rw [hR] at hl h4 h5
        exact ⟨_, run_endLoop hl hst, h5, h4.2.1⟩
      rintro e W2 ⟨⟨v, rfl⟩, (⟨xs, hA, hi, hk⟩ | ⟨pre, hP, c, hi, hk⟩)⟩
      · obtain ⟨W3, hr, hd, ht⟩ := shut (by simp) hk
        exact ⟨none, W3, hr, hdone _ xs _ (Nat.le_refl _) hA (hI _ _ _ hi ht) hd⟩
      · obtain ⟨W3, hr, hd, ht⟩ := shut (by simp) hk
        exact ⟨some c, W3, hr, hstop _ c pre _ (Nat.le_refl _) hP (hIx c _ _ _ hi ht) hd⟩

end Go.Proofs.Ytgchfckmhibeaaa

/-
  A region that draws its order, walked by hand: an operation is taken first, the activation written out.
-/
namespace Go.Proofs.Ytgchfckmhibeaaa
open Go.RowKit

theorem take_at {F : Fence} {n : Nat} {P : Program} {ops : Array Oper} {Q : Exit → Act → World → Prop} {md : Region.Mode} (i d : Nat) {oi : Oper} (v : Value) {fuel : Nat} {listed : Array Bool} {ts : Array Value} {ds : List Deferred} {w : World}
    (hro : F.round = none) (hi : ops[i]? = some oi) (hd : oi.dst = some d)
    (hs : Region.noSelect ops = true) (hf : Region.free md ops listed i = true) (hr : (Region.ready md ops listed).contains i = true)
    (hQ : ∀ c (a : Act) w, Q (.panic c) (a.put oi.dst v) w → Q (.panic c) a w) (hy : YieldsFenced P ops oi v { tmps := ts, defers := ds })
    (h : wpAnyIn F n P md ops Q fuel (listed.setIfInBounds i true) { tmps := ts.setIfInBounds d v, defers := ds } w) : wpAnyIn F n P md ops Q (fuel + 1) listed { tmps := ts, defers := ds } w := by
  refine wpAnyIn_take hro hi hs hf hr hQ hy ?_
  rw [hd]
  exact h

end Go.Proofs.Ytgchfckmhibeaaa

/-
  append onto a row of one's own that has room: the row stays where it is. No type is named here.
-/
namespace Go.Proofs.Ytgchfckmhibeaaa
open Go.RowKit

theorem run_app_room {P : Program} (w : World) (t tx ty e : TypeId) (i : TypeInfo) (ht : P.underlying t = some (.slice e)) (hi : P.info? e = some i)
    (g n cap : Nat) (xs : List Value) (hown : w.ownsRow 0 e i.size (.slice (some ⟨g, 0, none⟩) n cap) n xs) (x : Value) (m : Nat) (news : List Value) (hs : Src P i.size tx x m news w) (hroom : n + m ≤ cap) :
    ∃ w', (Builtin.append_ #[t, tx] ty #[.slice (some ⟨g, 0, none⟩) n cap, x]).run P w = .ok (.slice (some ⟨g, 0, none⟩) (n + m) cap) w' ∧ w'.ownsRow 0 e i.size (.slice (some ⟨g, 0, none⟩) (n + m) cap) (n + m) (xs ++ news) ∧ w.grownBy w' (some g) := by
  have hlen : (xs ++ news).length = (n + m) * i.size := by rw [List.length_append, hown.1, hs.newsLen, Nat.add_mul]
  rcases hown.2 with ⟨e1, _⟩ | ⟨g', cap', cur, e1, hb0, hg, hnc, hcm, hcs, htake⟩
  · cases e1
  · cases e1
    have hfit : n * i.size + news.length ≤ cur.size := by rw [hs.newsLen, hcs, ← Nat.add_mul]; exact Nat.mul_le_mul_right _ hroom
    have hst := run_storeCells_at P g (n * i.size) e news 0 cur w hg (by simpa using hfit) hs.one
    simp only [Nat.add_zero] at hst
    have hr : (Builtin.append_ #[t, tx] ty #[.slice (some ⟨g, 0, none⟩) n cap, x]).run P w =
        .ok (.slice (some ⟨g, 0, none⟩) (n + m) cap) (w.setRow g (cur.toList.take (n * i.size) ++ news ++ cur.toList.drop (n * i.size + news.length)).toArray) := by
      rcases hs.kind with ⟨e', hk⟩ | hk <;> simp [Builtin.append_, run_underlying ht, run_underlying hk, sizeOf, typeInfo, hi, hs.len, hs.cells, hroom, Addr.add_lit, hst]
    refine ⟨_, hr, ⟨hlen, .inr ⟨g, cap, _, rfl, hb0, setRow_heap w g cur _ e _ hg, hroom, hcm, ?_, ?_⟩⟩, ⟨rfl, rfl, rfl, by simp, fun k _ hk => setRow_other w g k _ (fun e => hk (by simp [e]))⟩⟩
    · simp only [List.size_toArray, List.length_append, List.length_take, List.length_drop, Array.length_toList]
      omega
    · rw [htake, ← hlen]
      exact List.take_left
theorem app_room {P : Program} {T : Type} {E : El T} {tS e : TypeId} {z : Value} {by' : Nat} (ht : P.underlying tS = some (.slice e)) (hi0 : (P.info? e).map (fun i => (i.zero, i.size, i.bytes)) = some (some z, E.sz, by'))
    (w : World) (tx ty : TypeId) (g n c : Nat) (l : List T) (hown : OwE E e w (.slice (some ⟨g, 0, none⟩) n c) l) (y : Value) (m : List T) (hy : Src P E.sz tx y m.length (E.flat m) w) (hroom : l.length + m.length ≤ c) :
    ∃ w', (Builtin.append_ #[tS, tx] ty #[.slice (some ⟨g, 0, none⟩) n c, y]).run P w = .ok (.slice (some ⟨g, 0, none⟩) (l.length + m.length) c) w' ∧ OwE E e w' (.slice (some ⟨g, 0, none⟩) (l.length + m.length) c) (l ++ m) ∧ Turn (fun k => k = g) w w' := by
  obtain ⟨i, hi, hz0, h1, h2⟩ := info_parts hi0
  obtain ⟨_, _, hsh⟩ := hown.shape
  obtain rfl : n = l.length := by injection hsh
  unfold OwE at hown
  rw [← h1] at hown hy
  obtain ⟨w', hr, g1, g2⟩ := run_app_room (P := P) w tS tx ty e i ht hi g _ c _ hown y m.length _ hy hroom
  refine ⟨w', hr, ?_, (Turn.refl _ w).grown g2 (fun k _ e => by cases e; rfl)⟩
  unfold OwE
  rw [List.length_append, E.flat_append, ← h1]
  exact g1

/-- append where there is room, in a round of a range over a function. -/
theorem wpListIn_room {F : Fence} {k : Nat} {P : Program} {T : Type} {E : El T} {tS e : TypeId} {z : Value} {by' : Nat} (ht : P.underlying tS = some (.slice e)) (hi0 : (P.info? e).map (fun i => (i.zero, i.size, i.bytes)) = some (some z, E.sz, by'))
    (w : World) {ops : Array Oper} {rest : List Oper} {o : Oper} {a : Act} {Q : Exit → Act → World → Prop} (hgd : o.guard = none) (s x : Operand)
    (ho : o.op = .call { callee := .builtin .append, args := #[s, x], argTypes := #[tS, tS] }) (g n c : Nat) (l : List T) (hs : a.eval s = .slice (some ⟨g, 0, none⟩) n c) (hown : OwE E e w (.slice (some ⟨g, 0, none⟩) n c) l)
    (y : Value) (hx : a.eval x = y) (m : List T) (hy : Src P E.sz tS y m.length (E.flat m) w) (hroom : l.length + m.length ≤ c)
    (h : ∀ w', OwE E e w' (.slice (some ⟨g, 0, none⟩) (l.length + m.length) c) (l ++ m) → Turn (fun k => k = g) w w' → wpListIn F k P ops Q rest (a.put o.dst (.slice (some ⟨g, 0, none⟩) (l.length + m.length) c)) w') :
    wpListIn F k P ops Q (o :: rest) a w := by
  refine wpListIn_plain hgd fun K hK' => ?_
  obtain ⟨w', hrun, r1, r2⟩ := app_room (P := P) ht hi0 w tS o.type g n c l hown y m hy hroom
  unfold Oper.wpIn
  refine ⟨?_, ?_⟩
  · simp [Oper.about, ho, resolve, Target.leads, Sem.run_pure]
  · rw [Oper.semAt_plain F _ _ (by rw [ho]; intro c hc'; cases hc')]
    simp [execOp, ho, resolve, invoke, builtin, hs, hx, hrun, Result.andThen]
    exact hK' _ _ (h w' r1 r2)
/-- A row of one's own holds cells: no record of a loop is in it. -/
theorem holds_own {T : Type} {E : El T} {e : TypeId} {β : Type} (D : Nat) (v : β → Value) (f : β → List T) : Holds D (fun s W => OwE E e W (v s) (f s)) := fun s A B hs ht => by
  refine hs.turn ht fun k hk => ?_
  rintro ⟨_, o, ho, hc⟩
  rcases hs.form with ⟨e1, _⟩ | ⟨g, cap, cur, e1, hb, _⟩
  · rw [e1] at hk; cases hk
  · rw [e1] at hk
    cases hk
    rw [show A.heap[g]? = _ from hb] at ho
    cases ho
    cases hc
/-- Where a row of one's own turns alone, what holds no cells stays. -/
theorem own_still {w w' : World} {g B : Nat} (ht : Turn (fun k => k = g) w w') (hw : ∀ o, w.heap[g]? = some o → o.isCells = true) : Still B w w' := ⟨ht.size, fun k o _ hk ho => by
  by_cases e : k = g
  · subst e
    rw [hw o hk] at ho
    cases ho
  · exact (ht.block k (Array.getElem?_eq_some_iff.1 hk).1 e).trans hk⟩
theorem own_cells {T : Type} {E : El T} {e : TypeId} {w : World} {v : Value} {l : List T} {g : Nat} (h : OwE E e w v l) (hv : v.ownBlock = some g) : ∀ o, w.heap[g]? = some o → o.isCells = true := fun o ho => by
  rcases h.form with ⟨e1, _⟩ | ⟨g', cap, cur, e1, hb, _⟩
  · rw [e1] at hv; cases hv
  · rw [e1] at hv
    cases hv
    rw [show w.heap[g']? = _ from hb] at ho
    cases ho
    rfl
/-- What a range has told: as far as a place of the list, one by one. -/
theorem pre_at10 {A : Type} {L pre : List A} {y : A} (hp : pre ++ [y] <+: L) : L[pre.length]? = some y ∧ pre.length < L.length := by
  obtain ⟨r, hr⟩ := hp
  have h : L[pre.length]? = some y := by
    rw [← hr, List.append_assoc, List.getElem?_append_right (Nat.le_refl _), Nat.sub_self]; rfl
  exact ⟨h, (List.getElem?_eq_some_iff.1 h).1⟩
theorem box_ne10 {w : World} {i g : Nat} {t t' : TypeId} {cs cs' : Array Value} (h : Box w i t cs) (h' : Box w g t' cs') (ht : t ≠ t') : i ≠ g := by
  rintro rfl
  have e := (show w.heap[i]? = _ from h).symm.trans h'
  injection e with e
  injection e with _ e3
  exact ht e3
theorem box_not_own {T : Type} {E : El T} {e t : TypeId} {w : World} {v : Value} {l : List T} {i g : Nat} {cs : Array Value} (h : Box w i t cs) (h' : OwE E e w v l) (hv : v.ownBlock = some g) (ht : e ≠ t) : i ≠ g := by
  rintro rfl
  exact h'.not_box h ht hv

end Go.Proofs.Ytgchfckmhibeaaa

/-
  append onto a row of one's own, in a round of a range over a function: the row may move. No type is named here.
-/
namespace Go.Proofs.Ytgchfckmhibeaaa
open Go.RowKit

/-- append in a round of a range over a function. -/
theorem wpListIn_appE {F : Fence} {k : Nat} {P : Program} {T : Type} {E : El T} {tS e : TypeId} {z : Value} {by' : Nat} (ht : P.underlying tS = some (.slice e)) (hi0 : (P.info? e).map (fun i => (i.zero, i.size, i.bytes)) = some (some z, E.sz, by')) (hz : z.cells.size = E.sz)
    (w : World) {ops : Array Oper} {rest : List Oper} {o : Oper} {a : Act} {Q : Exit → Act → World → Prop} (hgd : o.guard = none) (s x : Operand) (tx : TypeId)
    (ho : o.op = .call { callee := .builtin .append, args := #[s, x], argTypes := #[tS, tx] }) (v : Value) (l : List T) (hs : a.eval s = v) (hown : OwE E e w v l)
    (y : Value) (hx : a.eval x = y) (m : List T) (hy : Src P E.sz tx y m.length (E.flat m) w) (hl : l.length + m.length ≤ maxLen) (hb : (l.length + m.length) * by' ≤ 140737488355328)
    (h : ∀ A n c w', OwE E e w' (.slice A n c) (l ++ m) → Turn (fun k => v.ownBlock = some k) w w' → ((Value.slice A n c).ownBlock = v.ownBlock ∨ (Value.slice A n c).ownBlock = some w.heap.size) → wpListIn F k P ops Q rest (a.put o.dst (.slice A n c)) w') :
    wpListIn F k P ops Q (o :: rest) a w := by
  refine wpListIn_plain hgd fun K hK' => ?_
  obtain ⟨i, hi, hz0, h1, h2⟩ := info_parts hi0
  unfold OwE at hown
  rw [← h1] at hown hy
  obtain ⟨A, n, c, w', hr, g1, g2, g3⟩ := run_app (P := P) w tS tx o.type e i z ht hi hz0 (by rw [h1]; exact hz) v l.length _ hown y m.length _ hy hl (by rw [h2]; exact hb)
  unfold Oper.wpIn
  refine ⟨?_, ?_⟩
  · simp [Oper.about, ho, resolve, Target.leads, Sem.run_pure]
  · rw [Oper.semAt_plain F _ _ (by rw [ho]; intro c hc'; cases hc')]
    simp only [execOp, ho, resolve, invoke, builtin, Sem.run_bind, Sem.run_pure, Result.andThen_ok, List.map_toArray, List.map_cons, List.map_nil, hs, hx, hr]
    refine hK' _ _ (h A n c w' ?_ ((Turn.refl _ w).grown g2 (fun k _ e => e)) g3)
    unfold OwE
    rw [List.length_append, E.flat_append, ← h1]
    exact g1
/-- Where what turns holds cells, what holds none stays. -/
theorem keeps_turn {S : Nat → Prop} {A B : World} (h : Turn S A B) (hc : ∀ k, S k → ∀ o, A.heap[k]? = some o → o.isCells = true) : KeepsOthers A B := ⟨h.size, fun k o hk ho => by
  by_cases e : S k
  · rw [hc k e o hk] at ho
    cases ho
  · exact (h.block k (Array.getElem?_eq_some_iff.1 hk).1 e).trans hk⟩

end Go.Proofs.Ytgchfckmhibeaaa

/-
  A region that draws its order and only reads, in a round of a range over a function: one walk of the text's order serves every order.
-/
namespace Go.Proofs.Ytgchfckmhibeaaa
open Go.RowKit

def noDefer : Op → Bool
  | .defer _ => false
  | _ => true
theorem noDefer_ne {o : Op} (h : noDefer o = true) : ∀ c, o ≠ .defer c := by
  rintro c rfl
  cases h

section
variable {F : Fence} {n : Nat} {P : Program} {C : World → Prop} {ops : Array Oper} {md : Region.Mode}

theorem quiet_op {o : Oper} {a : Act} {K : Act → Prop} {K' : Act → World → Prop} {Q' : Exit → Act → World → Prop} {w : World} (hd : noDefer o.op = true) (hw : C w) (h : ∀ a w', C w' → K a → K' a w')
    (ha : o.askedIn F P a C) (hh : o.quietIn F n P a C K) : o.wpIn F n P a w K' Q' := by
  obtain ⟨v, h1, h2⟩ := hh
  have h3 := h1 w hw
  unfold Oper.quietAtIn at h3
  unfold Oper.wpIn
  rw [Oper.semAt_eq _ _ _ (noDefer_ne hd)]
  refine ⟨ha w hw, ?_⟩
  generalize (execOp a.eval o).run P w = r at *
  rcases r with ⟨x, w'⟩ | ⟨x, w'⟩
  · cases x <;> simp only [Oper.quietUponIn] at h3 <;> simp only [Oper.uponIn]
    case value u =>
      rw [h3.1, h3.2]
      exact h _ _ hw h2
    case skip =>
      rw [h3.1, ← h3.2]
      exact h _ _ hw h2
    case enter f args =>
      rw [h3.1]
      exact ⟨h3.2.1, h3.2.2.mono fun e w'' ⟨he, hw''⟩ => by subst he; exact h _ _ hw'' h2⟩
  · simp only [Oper.quietUponIn] at h3

theorem quiet_at (hnd : ∀ o ∈ ops.toList, noDefer o.op = true) {i : Nat} {a : Act} {K : Act → Prop} {K' : Act → World → Prop} {Q' : Exit → Act → World → Prop} {w : World} (hC : C w) (h : ∀ a w', C w' → K a → K' a w')
    (hh : qOpIn F n P ops C i K a) : wpOpIn F n P ops Q' i K' a w := by
  unfold qOpIn at hh
  unfold wpOpIn
  cases ho : ops[i]? with
  | none =>
    simp only [ho] at hh
    exact h _ _ hC hh
  | some o =>
    simp only [ho] at hh
    have hm : noDefer o.op = true := hnd o (Array.mem_toList_iff.2 (Array.mem_of_getElem? ho))
    by_cases hw : Region.wanted o (yielded ops a.tmps)
    · simp only [hw, if_true] at hh ⊢
      exact quiet_op hm hC h hh.1 hh.2
    · simp only [hw] at hh ⊢
      exact ⟨hh.1 w hC, h _ _ hC hh.2⟩

theorem quiet_any (hnd : ∀ o ∈ ops.toList, noDefer o.op = true) {Q : Act → Prop} {Q' : Exit → Act → World → Prop} (hQ : ∀ a w, C w → Q a → Q' .normal a w) : ∀ (fuel : Nat) (listed : Array Bool) (a : Act) (w : World), C w →
    wpAnyQIn F n P md ops C Q fuel listed a → wpAnyIn F n P md ops Q' fuel listed a w
  | 0, _, _, _, hw, h => ⟨h.1, hQ _ _ hw h.2⟩
  | fuel + 1, _, _, _, hw, h => ⟨fun h0 => hQ _ _ hw (h.1 h0), fun i hi => quiet_at hnd hw (fun a' w' hw' => quiet_any hnd hQ fuel _ a' w' hw') (h.2 i hi)⟩

theorem quiet_region {id : Nat} {Q : Exit → Act → World → Prop} {a : Act} {w : World} {l : List Oper} (hnd : (l.all fun o => noDefer o.op) = true) (hm : P.follows .mixedOrders = true) (hB : Region.lexB .any l.toArray = true)
    (h : wpQuietIn F n P l.toArray (fun w' => ∃ n, w' = w.drewN n) (fun a' => ∀ w', (∃ n, w' = w.drewN n) → Q .normal a' w') l a) : (Code.region id l.toArray true).wpIn F n P Q a w := by
  simp only [Region.lexB, Bool.and_eq_true] at hB
  have hnd' : ∀ o ∈ l.toArray.toList, noDefer o.op = true := fun o ho => by
    rw [List.all_eq_true] at hnd
    exact hnd o (by simpa using ho)
  refine wpIn_region_any hm (quiet_any hnd' (C := fun w' => ∃ n, w' = w.drewN n) (Q := fun a' => ∀ w', (∃ n, w' = w.drewN n) → Q .normal a' w') (fun _ w' hw' h => h w' hw') _ _ _ _ ⟨1, rfl⟩ ?_)
  have := wpAnyQIn_lex (F := F) (n := n) (P := P) (ops := l.toArray) (C := fun w' => ∃ n, w' = w.drewN n) (md := .any) hB.1 l 0 (Array.replicate l.toArray.size false) a (by simp) (by simpa using hB.2) h
  simpa using this
end

theorem wide_fn (f : FuncId) : Fence.wide.fn f = True := rfl

theorem quiet_same {P : Program} {l0 : Nat} {n : Nat} {f : FuncId} {args : Array Value} {w : World} {k : Nat} {v : Value}
    (h : Calls P f args (w.drewN k) fun e w' => e = .returned v ∧ w.drewN k = w') : CallsIn (Fence.wide.inRound l0) n P f args (w.drewN k) fun e w'' => e = .returned v ∧ ∃ m, w'' = w.drewN m :=
  CallsIn.inRound l0 (callsIn_wide.2 (h.mono fun _ _ ⟨he, hm⟩ => ⟨he, k, hm.symm⟩))

end Go.Proofs.Ytgchfckmhibeaaa
