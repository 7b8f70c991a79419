/-
  Texts laid one behind the other: Zm Fd Fe R1f R1a R1b R1c Zk.
-/
import Derived.Test.YtgchfckmhibeaaaJocaf
import Derived.Test.YtgchfckmhibeaaaJocae
import Derived.Test.YtgchfckmhibeaaaJocad
import Derived.Test.YtgchfckmhibeaaaJocac
import Derived.Test.YtgchfckmhibeaaaJocaa
import Derived.Laws.StructEq

/-
  Stage 9: the document's Read.
-/
namespace Go.Proofs.Ytgchfckmhibeaaa
open Go.RowKit

set_option maxRecDepth 100000

/-- The texts that are read into a key; a fact; all facts. -/
def textsK (k0 : K9) (s : RS9) : Nat → K9 × RS9
  | 0 => (k0, s)
  | i + 1 => ((textsK k0 s i).1.put i (sText (textsK k0 s i).2), sText' (textsK k0 s i).2)
def oneF (n h : Nat) (s : RS9) : F9 × RS9 := (⟨(textsK ⟨h, [], [], [], []⟩ s n).1, sInt (textsK ⟨h, [], [], [], []⟩ s n).2⟩, sNum' (textsK ⟨h, [], [], [], []⟩ s n).2)
def readR (n : Nat) : Nat → RS9 → List F9 → Int × List F9
  | 0, s, out => if s.2 ≠ 0 then ((s.2 : Int), []) else if 0 < s.1.length then (4, []) else if (allB out n).1 ≠ 0 then ((allB out n).1, []) else (0, out)
  | i + 1, s, out => if 16777216 < sNum s then (2, []) else if (oneF n (sNum s) (sNum' s)).2.2 ≠ 0 then (((oneF n (sNum s) (sNum' s)).2.2 : Int), []) else readR n i (oneF n (sNum s) (sNum' s)).2 (out ++ [(oneF n (sNum s) (sNum' s)).1])
def readB (m : List UInt8) (n : Int) : Int × List F9 := if okDims n then readR n.toNat (sCount (m, 0)) (sCount' (m, 0)) [] else (1, [])
/-- Behind Read: the facts, or none. -/
def Readed (w : World) (m : List UInt8) (n : Int) (e : Ending) (w' : World) : Prop := ∃ v, e = .returned (.tuple #[v, .int .i64 (readB m n).1]) ∧ RdE EF w' v (readB m n).2 ∧ Turn (fun _ => False) w w'
/-- .. where they lie in memory that is new. -/
def ReadedN (w : World) (m : List UInt8) (n : Int) (e : Ending) (w' : World) : Prop := ∃ v, e = .returned (.tuple #[v, .int .i64 (readB m n).1]) ∧ RdE EF w' v (readB m n).2 ∧ Turn (fun _ => False) w w' ∧ ∀ k, v.ownBlock = some k → w.heap.size ≤ k
theorem ReadedN.old {w : World} {m : List UInt8} {n : Int} {e : Ending} {w' : World} (h : ReadedN w m n e w') : Readed w m n e w' := by
  obtain ⟨v, h1, h2, h3, _⟩ := h
  exact ⟨v, h1, h2, h3⟩

/-- A fact's cells, in the block that a round has made. -/
abbrev cells9 (k : K9) (v : Int) : Array Value := #[.int .i64 k.h, sv9 k.a, sv9 k.b, sv9 k.c, sv9 k.d, .int .i64 v]
structure In9 (w : World) (q B b : Nat) (x8 : Value) (out : List F9) (k : K9) (v : Int) (s : RS9) (W : World) : Prop where
  box : Box W b 76 (cells9 k v)
  xs : XS W q B s
  new : NewE EF 76 w W x8 out
  ob : ∀ k, x8.ownBlock = some k → k ≠ b ∧ k ≠ q
  lo : w.heap.size ≤ q ∧ w.heap.size ≤ b ∧ b ≠ q
  hB : B < w.heap.size
section
variable {w W W2 : World} {q B b : Nat} {x8 : Value} {out : List F9} {k : K9} {v : Int} {s s2 : RS9}
theorem new_over {S : Nat → Prop} (h : NewE EF 76 w W x8 out) (ht : Turn S W W2) (h1 : ∀ k, x8.ownBlock = some k → ¬ S k) (h2 : ∀ k, S k → w.heap.size ≤ k) : NewE EF 76 w W2 x8 out :=
  ⟨h.own.turn ht h1, h.new, h.turn.trans ht (fun k hk e => by have := h2 k e; omega)⟩
theorem In9.read (h : In9 w q B b x8 out k v s W) (hx : XS W2 q B s2) (ht : Turn (fun g => g = q) W W2) : In9 w q B b x8 out k v s2 W2 :=
  ⟨h.box.turn ht h.lo.2.2, hx, new_over h.new ht (fun k hk e => (h.ob k hk).2 e) (fun k e => by have := h.lo.1; omega), h.ob, h.lo, h.hB⟩
theorem In9.set (h : In9 w q B b x8 out k v s W) (i : Nat) (u : Value) {k2 : K9} {v2 : Int} (hc : (cells9 k v).setIfInBounds i u = cells9 k2 v2) : In9 w q B b x8 out k2 v2 s (W.setCell ⟨b, i, none⟩ u) := by
  have ht : Turn (fun g => g = b) W (W.setCell ⟨b, i, none⟩ u) := Turn.setCell (S := fun g => g = b) (p := ⟨b, i, none⟩) (Turn.refl _ W) (fun _ => rfl) u
  refine ⟨?_, h.xs.turn ht (fun e => h.lo.2.2 e.symm) (fun e => by have := h.lo.2.1; have := h.hB; omega), new_over h.new ht (fun k hk e => (h.ob k hk).1 e) (fun k e => by have := h.lo.2.1; omega), h.ob, h.lo, h.hB⟩
  rw [← hc]
  exact h.box.set i u
theorem put_cells9 (k : K9) (v : Int) {i : Nat} (hi : i < 4) (t : List UInt8) : (cells9 k v).setIfInBounds (1 + i) (sv9 t) = cells9 (k.put i t) v := by
  match i, hi with
  | 0, _ => rfl
  | 1, _ => rfl
  | 2, _ => rfl
  | 3, _ => rfl
end

theorem wpList_facts9 (w : World) {ops : Array Oper} {rest : List Oper} {o : Oper} {a : Act} {Q : Exit → Act → World → Prop} (hgd : o.guard = none) (s x : Operand)
    (ho : o.op = .call { callee := .builtin .append, args := #[s, x], argTypes := #[43, 43] }) (v : Value) (l : List F9) (hs : a.eval s = v) (hown : OwE EF 76 w v l)
    (y : Value) (hx : a.eval x = y) (m : List F9) (hy : RdE EF w y m) (hl : l.length + m.length ≤ 1000000)
    (h : ∀ A n c w', OwE EF 76 w' (.slice A n c) (l ++ m) → Turn (fun k => v.ownBlock = some k) w w' → ((Value.slice A n c).ownBlock = v.ownBlock ∨ (Value.slice A n c).ownBlock = some w.heap.size) → wpList Try.prog ops Q rest (a.put o.dst (.slice A n c)) w') :
    wpList Try.prog ops Q (o :: rest) a w :=
  wpList_appE Try.underlying43 fact_info fact_zero w hgd s x _ ho v l hs hown y hx m (hy.src Try.underlying43) (by simp only [maxLen]; omega) (by omega) h

set_option maxHeartbeats 8000000 in
theorem ref_readN9 (u : Value) (m : List UInt8) (n : Int) (w : World) (hv : Rd w u m) (hB : ∀ g, u.ownBlock = some g → g < w.heap.size) : Calls Try.prog 52 #[u, .int .i64 n] w fun e w' => ReadedN w m n e w' := by
  obtain ⟨A, c, rfl⟩ := hv.shape
  by_cases hn : 1 ≤ n ∧ n ≤ 4
  · obtain ⟨n1, n4⟩ := hn
    obtain ⟨N, rfl⟩ := Int.eq_ofNat_of_zero_le (show 0 ≤ n by omega)
    obtain ⟨B, hBl, hx⟩ := XS.new hv hB
    have HX := Lib.hid hx
    have HBL := Lib.hid hBl
    have HSPEC : Hid (readB m (N : Int) = readR N (sCount (m, 0)) (sCount' (m, 0)) []) := by
      have e : okDims (N : Int) = true := by unfold okDims; simp [n1, n4]
      show readB m (N : Int) = _
      unfold readB
      rw [e, Int.toNat_natCast]
      rfl
    have hC50 : sCount (m, 0) ≤ 50 := by
      unfold sCount rdCount
      simp only [if_true]
      split
      · exact Nat.zero_le _
      · split
        · exact Nat.zero_le _
        · omega
    have HCM : Hid (0 < sCount (m, 0) → m ≠ []) := fun h e => by rw [e] at h; exact absurd h (by decide)
    have hN4 : N ≤ 4 := by omega
    clear hx hBl hB hv
    go_enter Try.func52, Try.ntmps52
    go_wp2_with fail
    refine (xs_count HX.out).mono ?_
    rintro e w2 ⟨rfl, h2, t2⟩
    generalize sCount (m, 0) = C at *
    generalize sCount' (m, 0) = s0 at *
    have H2 := Lib.hid h2
    have HN0 : Hid (NewE EF 76 w w2 (.slice none 0 0) []) := ⟨OwE.nil _, (fun k e => by simp [Value.ownBlock] at e), ((Turn.refl _ w).alloc _).trans t2 (fun k hk e => by omega)⟩
    clear h2 t2
    go_wp2_with fail
    generalize hq : w.heap.size = q at *
    go_loopw [8, 9] (fun x8 x9 wr => ∃ i s out, x9 = .int .i64 ((i : Nat) : Int) ∧ i ≤ C ∧ out.length = i ∧ NewE EF 76 w wr x8 out ∧ XS wr q B s ∧ readB m (N : Int) = readR N (C - i) s out) (fun _ x9 _ => C - (intOf x9).toNat)
    case atStart => exact ⟨0, s0, [], rfl, Nat.zero_le _, rfl, HN0.out, H2.out, HSPEC.out⟩
    case round =>
      obtain ⟨i, s, out, rfl, hi, ho, hnew, hxs, hsp⟩ := hrel
      have HNW := Lib.hid hnew
      have HXS := Lib.hid hxs
      have HSP := Lib.hid hsp
      obtain ⟨A8, c8, hv8⟩ := hnew.own.shape
      rw [ho] at hv8
      subst hv8
      have HO := Lib.hid ho
      clear hnew hxs hsp ho
      by_cases hlt : i < C
      · have hil : (i : Int) < C := by omega
        have HBW : Hid (B < q) := HBL.out (HCM.out (by omega))
        go_wp2_with fail
        refine (xs_num HXS.out).mono ?_
        rintro e w3 ⟨rfl, h3, t3⟩
        have H3 := Lib.hid h3
        have HT3 := Lib.hid t3
        clear h3 t3
        by_cases hbig : 16777216 < sNum s
        · have HE : Hid (readB m (N : Int) = (2, [])) := by
            rw [HSP.out, show C - i = (C - (i + 1)) + 1 by omega]
            show readR _ _ _ _ = _
            unfold readR
            rw [if_pos hbig]
          go_wp2
          go_ret2
          exact ⟨.slice none 0 0, by rw [HE.out]; rfl, by rw [HE.out]; exact RdE.nil _, HNW.out.turn.trans HT3.out (fun k hk e => by omega), fun k hk => by cases hk⟩
        · have hbig' : ((sNum s : Nat) : Int) ≤ 16777216 := by omega
          have HNB := Lib.hid hbig
          go_wp2_with fail
          have hin : In9 w q B w3.heap.size (.slice A8 i c8) out ⟨(sNum s : Int), [], [], [], []⟩ 0 (sNum' s) (w3.alloc (.cells #[.int .i64 (sNum s : Int), .string ⟨#[]⟩, .string ⟨#[]⟩, .string ⟨#[]⟩, .string ⟨#[]⟩, .int .i64 0] 76)) := by
            have ht3a := (Turn.refl (fun _ => False) w3).alloc (.cells #[.int .i64 (sNum s : Int), .string ⟨#[]⟩, .string ⟨#[]⟩, .string ⟨#[]⟩, .string ⟨#[]⟩, .int .i64 0] 76)
            obtain ⟨AX, cX, hX⟩ := HXS.out
            have hnq : ∀ k, (Value.slice A8 i c8).ownBlock = some k → k ≠ q := fun k hk e => HNW.out.own.not_box hX.1 (by decide) (e ▸ hk)
            have hq3 : q < w3.heap.size := Nat.lt_of_lt_of_le hX.1.lt HT3.out.size
            refine ⟨Box.new w3 _ _, H3.out.later ht3a, (new_over HNW.out HT3.out hnq (fun k e => by omega)).later ht3a, fun k hk => ⟨?_, hnq k hk⟩, ⟨by omega, ?_, by omega⟩, by rw [hq]; exact HBW.out⟩
            · have := HNW.out.own.lt hk
              have := HT3.out.size
              omega
            · have := HNW.out.turn.size
              have := HT3.out.size
              omega
          generalize hb : w3.heap.size = b at *
          generalize w3.alloc (.cells #[.int .i64 (sNum s : Int), .string ⟨#[]⟩, .string ⟨#[]⟩, .string ⟨#[]⟩, .string ⟨#[]⟩, .int .i64 0] 76) = w4 at *
          have HIN := Lib.hid hin
          clear hin hb H3 HT3
          go_loopw [12] (fun x12 wk => ∃ k : Nat, x12 = .int .i64 (k : Int) ∧ k ≤ N ∧ In9 w q B b (.slice A8 i c8) out (textsK ⟨(sNum s : Int), [], [], [], []⟩ (sNum' s) k).1 0 (textsK ⟨(sNum s : Int), [], [], [], []⟩ (sNum' s) k).2 wk) (fun x12 _ => N - (intOf x12).toNat)
          case atStart => exact ⟨0, rfl, Nat.zero_le _, HIN.out⟩
          case round =>
            clear HIN
            obtain ⟨k, rfl, hk, hm⟩ := hrel
            have HM := Lib.hid hm
            clear hm
            by_cases hkN : k < N
            · have hki : (k : Int) < N := by omega
              have hk4 : (k : Int) < 4 := by omega
              have HST : Hid (textsK ⟨(sNum s : Int), [], [], [], []⟩ (sNum' s) (k + 1) = ((textsK ⟨(sNum s : Int), [], [], [], []⟩ (sNum' s) k).1.put k (sText (textsK ⟨(sNum s : Int), [], [], [], []⟩ (sNum' s) k).2), sText' (textsK ⟨(sNum s : Int), [], [], [], []⟩ (sNum' s) k).2)) := rfl
              generalize textsK ⟨(sNum s : Int), [], [], [], []⟩ (sNum' s) k = kk at *
              go_wp2_with fail
              refine (xs_text HM.out.xs).mono ?_
              rintro e w5 ⟨rfl, h5, t5⟩
              have hm5 := HM.out.read h5 t5
              have HM5 := Lib.hid hm5
              have e1 := dim_cell (o := 1) (k := kk.1) hm5.box (fact_cells (f := ⟨kk.1, 0⟩)) k (by omega)
              have f1 := hm5.box.free (1 + k)
              unfold sv9 at e1
              clear h5 t5 hm5
              have hm6 := HM5.out.set (1 + k) (sv9 (sText kk.2)) (put_cells9 kk.1 0 (by omega) (sText kk.2))
              have HM6 := Lib.hid hm6
              clear hm6
              generalize sText kk.2 = T at *
              go_wp2_with fail
              go_roundw
              case rel => exact ⟨k + 1, by go_num, hkN, by rw [HST.out]; exact HM6.out⟩
              case measure => simp [intOf]; omega
            · obtain rfl : k = N := by omega
              have HONE : Hid (oneF k (sNum s) (sNum' s) = (⟨(textsK ⟨(sNum s : Int), [], [], [], []⟩ (sNum' s) k).1, sInt (textsK ⟨(sNum s : Int), [], [], [], []⟩ (sNum' s) k).2⟩, sNum' (textsK ⟨(sNum s : Int), [], [], [], []⟩ (sNum' s) k).2)) := rfl
              have HNX : Hid (readB m (k : Int) = if (oneF k (sNum s) (sNum' s)).2.2 ≠ 0 then (((oneF k (sNum s) (sNum' s)).2.2 : Int), []) else readR k (C - (i + 1)) (oneF k (sNum s) (sNum' s)).2 (out ++ [(oneF k (sNum s) (sNum' s)).1])) := by
                rw [HSP.out, show C - i = (C - (i + 1)) + 1 by omega]
                show readR _ _ _ _ = _
                conv => lhs; unfold readR
                rw [if_neg HNB.out]
              rw [HONE.out] at HNX
              clear HONE HSP
              generalize textsK ⟨(sNum s : Int), [], [], [], []⟩ (sNum' s) k = kk at *
              go_wp2_with fail
              refine (xs_int HM.out.xs).mono ?_
              rintro e w5 ⟨rfl, h5, t5⟩
              have hm5 := HM.out.read h5 t5
              have f1 := hm5.box.free 5
              have e1 := hm5.box.cell 5
              have HM5 := Lib.hid hm5
              clear h5 t5 hm5
              generalize sInt kk.2 = V at *
              have hm6 := HM5.out.set 5 (.int .i64 V) (k2 := kk.1) (v2 := V) rfl
              have HM6 := Lib.hid hm6
              have e6 := hm6.xs.fault
              have b0 := hm6.box.cell 0
              have b1 := hm6.box.cell 1
              have b2 := hm6.box.cell 2
              have b3 := hm6.box.cell 3
              have b4 := hm6.box.cell 4
              have b5 := hm6.box.cell 5
              clear hm6
              by_cases hf : (sNum' kk.2).2 = 0
              · have HNX2 : Hid (readB m (k : Int) = readR k (C - (i + 1)) (sNum' kk.2) (out ++ [⟨kk.1, V⟩])) := HNX.out.trans (if_neg (by simp [hf]))
                rw [hf] at e6
                have hn7 := HM6.out.new.alloc (.cells #[.int .i64 kk.1.h, sv9 kk.1.a, sv9 kk.1.b, sv9 kk.1.c, sv9 kk.1.d, .int .i64 V] 76)
                have HN7 := Lib.hid hn7
                have hxs7 := HM6.out.xs.later ((Turn.refl (fun _ => False) (w5.setCell ⟨b, 5, none⟩ (.int .i64 V))).alloc (.cells #[.int .i64 kk.1.h, sv9 kk.1.a, sv9 kk.1.b, sv9 kk.1.c, sv9 kk.1.d, .int .i64 V] 76))
                have HXS7 := Lib.hid hxs7
                have hsr := one_row EF 76 (w5.setCell ⟨b, 5, none⟩ (.int .i64 V)) ⟨kk.1, V⟩
                rw [show (w5.setCell ⟨b, 5, none⟩ (.int .i64 V)).heap.size = w5.heap.size by simp [World.setCell]] at hsr
                have HSR := Lib.hid hsr
                clear hsr
                have HLO : Hid (∀ g, (Value.slice A8 i c8).ownBlock = some g → g ≠ q ∧ g ≠ B) := fun g hg => ⟨(HM6.out.ob g hg).2, fun e => by have := HM6.out.new.new g hg; have := HBW.out; omega⟩
                have ho := HO.out
                clear hn7 hxs7
                go_wp2_with (at_builtin; refine wpList_facts9 _ rfl _ _ rfl _ _ rfl HN7.out.own _ rfl [⟨kk.1, V⟩] HSR.out (by simp only [List.length_cons, List.length_nil]; omega) ?_; intro A3 n3 c3 w7 ho7 ht7 hn7; have HN8 := Lib.hid (HN7.out.step ho7 ht7 hn7); have HX8 := Lib.hid (HXS7.out.turn ht7 (fun e => (HLO.out _ e).1 rfl) (fun e => (HLO.out _ e).2 rfl)); clear ho7 ht7 hn7)
                go_roundw
                case rel => exact ⟨i + 1, _, _, by go_num, hlt, by rw [List.length_append, HO.out]; rfl, HN8.out, HX8.out, HNX2.out⟩
                case measure => simp [intOf]; omega
              · have HNX2 : Hid (readB m (k : Int) = (((sNum' kk.2).2 : Int), [])) := HNX.out.trans (if_pos hf)
                have hf2 : (((sNum' kk.2).2 : Int) == 0) = false := by rw [beq_eq_false_iff_ne]; omega
                have HTF : Hid (Turn (fun _ => False) w (w5.setCell ⟨b, 5, none⟩ (.int .i64 V))) := HM6.out.new.turn
                go_wp2_with fail
                go_quiet (fail)
                go_wp2
                go_ret2
                exact ⟨.slice none 0 0, by rw [HNX2.out]; rfl, by rw [HNX2.out]; exact RdE.nil _, HTF.out.drewN _, fun k hk => by cases hk⟩
      · obtain rfl : i = C := by omega
        have hnd : readB m (N : Int) = if s.2 ≠ 0 then ((s.2 : Int), []) else if 0 < s.1.length then (4, []) else if (allB out N).1 ≠ 0 then ((allB out N).1, []) else (0, out) := by
          rw [HSP.out, Nat.sub_self]
          rfl
        have HALL := Lib.hid (ref_all9 (.slice A8 i c8) out (N : Int) wr HNW.out.own.rd (by rw [HO.out]; omega))
        have e1 := HXS.out.fault
        obtain ⟨AL, cL, e0⟩ := HXS.out.left
        clear HSP
        by_cases hf : s.2 = 0
        · rw [if_neg (by simp [hf])] at hnd
          rw [hf] at e1
          by_cases hlen : 0 < s.1.length
          · rw [if_pos hlen] at hnd
            have HND := Lib.hid hnd
            have hli : (0 : Int) < s.1.length := by omega
            clear hnd
            go_wp2
            go_ret2
            exact ⟨.slice none 0 0, by rw [HND.out]; rfl, by rw [HND.out]; exact RdE.nil _, HNW.out.turn, fun k hk => by cases hk⟩
          · rw [if_neg hlen] at hnd
            have hl0 : s.1.length = 0 := by omega
            have HND := Lib.hid hnd
            rw [hl0] at e0
            clear hnd hlen
            by_cases ha : (allB out N).1 = 0
            · have hag := (all_good ha).2.2.2
              unfold allV at HALL
              rw [hag] at HALL HND
              clear ha hag
              go_wp2_with fail
              refine HALL.out.mono ?_
              rintro e w9 ⟨rfl, t9⟩
              have HT9 := Lib.hid t9
              clear t9
              have HFIN : Hid (readB m (N : Int) = (0, out)) := HND.out
              have HRD : Hid (RdE EF w9 (.slice A8 i c8) out) := HNW.out.own.rd.later HT9.out
              have HTF : Hid (Turn (fun _ => False) w w9) := HNW.out.turn.trans HT9.out (fun _ _ f => f)
              go_wp2
              go_ret2
              exact ⟨.slice A8 i c8, by rw [HFIN.out]; rfl, by rw [HFIN.out]; exact HRD.out, HTF.out, HNW.out.new⟩
            · have HFIN : Hid (readB m (N : Int) = ((allB out N).1, [])) := HND.out.trans (if_pos ha)
              have hne : ((allB out N).1 == 0) = false := by simpa using ha
              unfold allV at HALL
              clear ha HND
              generalize (allB out N).1 = a at *
              generalize (allB out N).2 = b at *
              go_wp2_with fail
              refine HALL.out.mono ?_
              rintro e w9 ⟨rfl, t9⟩
              have HTF : Hid (Turn (fun _ => False) w w9) := HNW.out.turn.trans t9 (fun _ _ f => f)
              clear t9
              go_wp2
              go_ret2
              exact ⟨.slice none 0 0, by rw [HFIN.out]; rfl, by rw [HFIN.out]; exact RdE.nil _, HTF.out, fun k hk => by cases hk⟩
        · rw [if_pos hf] at hnd
          have HND := Lib.hid hnd
          have hf2 : ((s.2 : Int) == 0) = false := by rw [beq_eq_false_iff_ne]; omega
          clear hnd
          go_wp2_with fail
          go_quiet (fail)
          go_wp2
          go_ret2
          exact ⟨.slice none 0 0, by rw [HND.out]; rfl, by rw [HND.out]; exact RdE.nil _, HNW.out.turn.drewN _, fun k hk => by cases hk⟩
  · have e : readB m n = (1, []) := by
      unfold readB
      rw [if_neg (by unfold okDims; simpa using hn)]
    have HE := Lib.hid e
    clear e hv hB
    by_cases n1 : n < 1
    · clear hn
      go_enter Try.func52, Try.ntmps52
      go_wp2_with fail
      go_ret2
      exact ⟨.slice none 0 0, by rw [HE.out]; rfl, by rw [HE.out]; exact RdE.nil _, Turn.refl _ w, fun k hk => by cases hk⟩
    · have n2 : 4 < n := by omega
      clear hn
      go_enter Try.func52, Try.ntmps52
      go_wp2_with fail
      go_ret2
      exact ⟨.slice none 0 0, by rw [HE.out]; rfl, by rw [HE.out]; exact RdE.nil _, Turn.refl _ w, fun k hk => by cases hk⟩

theorem ref_read9 (u : Value) (m : List UInt8) (n : Int) (w : World) (hv : Rd w u m) (hB : ∀ g, u.ownBlock = some g → g < w.heap.size) : Calls Try.prog 52 #[u, .int .i64 n] w fun e w' => Readed w m n e w' :=
  (ref_readN9 u m n w hv hB).mono fun _ _ h => h.old

end Go.Proofs.Ytgchfckmhibeaaa

/-
  A frame taken by the document.
-/
namespace Go.Proofs.Ytgchfckmhibeaaa
open Go.RowKit

theorem takes_num (l : List UInt8) (n f k : Nat) (h : rdNum l = (n, f, k)) : takes l = if f ≠ 0 then ([], 0, f) else if 4194304 < n then ([], 0, 4) else if l.length < k + n + 4 then ([], 0, 3) else
    if (gets ((l.drop k).take (n + 4))).2 ≠ 0 then ([], 0, (gets ((l.drop k).take (n + 4))).2) else ((gets ((l.drop k).take (n + 4))).1, k + n + 4, 0) := by
  have e : rdCount 4194304 l = if f ≠ 0 then (0, f, k) else if 4194304 < n then (0, 4, k) else (n, 0, k) := by
    unfold rdCount
    rw [h]
  unfold takes
  rw [e]
  by_cases h1 : f ≠ 0
  · rw [if_pos h1, if_pos h1, if_pos h1]
  · rw [if_neg h1, if_neg h1]
    by_cases h2 : 4194304 < n
    · rw [if_pos h2, if_pos h2]
      rfl
    · rw [if_neg h2, if_neg h2]
      rfl

theorem xrd_at {w : World} {A : Option Addr} {c n : Nat} {l : List UInt8} (h : Rd w (.slice A n c) l) (h0 : 0 < l.length) :
    ∃ B, (Value.slice A n c).ownBlock = some B ∧ XRd (w.alloc (.cells #[.slice A n c, .int .i64 0] 102)) w.heap.size B A c l 0 := by
  obtain ⟨ad, rfl⟩ := h.some_at h0
  obtain ⟨x, hx⟩ : ∃ x, l[0]? = some x := ⟨_, List.getElem?_eq_getElem h0⟩
  obtain ⟨ad', e, hc⟩ := h.at hx
  cases e
  have hlt := World.block_lt_of_cell? w _ hc
  rw [add_block] at hlt
  obtain ⟨e1, h2, h3⟩ := h.fits
  subst e1
  refine ⟨ad.block, rfl, Box.new w _ _, h.later ((Turn.refl _ w).alloc _), ⟨fun g hg => ?_, by omega⟩, h2, h3⟩
  have : ad.block = g := by simpa [Value.ownBlock] using hg
  exact this.symm

set_option maxRecDepth 100000 in
set_option maxHeartbeats 2000000 in
theorem ref_take_at (Loc : Nat → Prop) (v : Value) (l : List UInt8) (w : World) (hv : Rd w v l) (h0 : 0 < l.length) (hl : l.length ≤ 1000000) (hloc : Hid (∀ k, v.ownBlock = some k → Loc k)) :
    Calls Try.prog 50 #[v] w (TakeAt Loc w l) := by
  have HV := Lib.hid hv
  obtain ⟨A, c, rfl, hcc, hxx⟩ := hv
  clear hxx hcc
  obtain ⟨B, hB, hx⟩ := xrd_at HV.out h0
  have HLC := Lib.hid (hloc.out B hB); clear hB
  have HX := Lib.hid (xnum_any _ B A c l _ hx)
  have HU := Lib.hid hx; clear hx
  obtain ⟨⟨n, f, k⟩, hr⟩ : ∃ r, r = rdNum l := ⟨_, rfl⟩
  have HTK := Lib.hid (takes_num l n f k hr.symm)
  have HN : Hid (n < 18446744073709551616) := by have := rdNum_lt l; rw [← hr] at this; exact this
  have hk : k ≤ l.length := by have := rdNum_long l; rw [← hr] at this; exact this
  have HXP : Hid (∀ W e W', XNum w.heap.size B l W e W' → Turn (fun _ => False) w W → e = .returned (.int .u64 n) ∧ ∃ A1 c1, XRd W' w.heap.size B A1 c1 (l.drop k) f ∧ Turn (fun _ => False) w W') := by
    rintro W e W' ⟨he, ⟨A1, c1, hx⟩, ht⟩ hw
    rw [← hr] at he hx
    exact ⟨he, A1, c1, hx, hw.fresh ht (fun k e => by rw [e]; omega)⟩
  clear hr
  have hdl : Hid ((l.drop k).length = l.length - k) := List.length_drop
  obtain ⟨m, hm⟩ : ∃ m, m = l.drop k := ⟨_, rfl⟩
  rw [← hm] at HTK HXP hdl
  have HDM : Hid (m = l.drop k) := hm
  clear hm
  have HT0 := Lib.hid ((Turn.refl (fun _ => False) w).alloc (.cells #[.slice A l.length c, .int .i64 0] 102))
  by_cases hf : f = 0
  · subst hf
    rw [if_neg (by simp)] at HTK
    by_cases hbig : 4194304 < n
    · rw [if_pos hbig] at HTK
      go_enter Try.func50, Try.ntmps50
      go_wp2_with (go_at_call 51; refine HX.out.mono ?_; intro e w1 hp; obtain ⟨rfl, A1, c1, hx1, ht⟩ := HXP.out _ _ _ hp HT0.out; have c0 : w1.cell? ⟨w.heap.size, 0, none⟩ = some (.slice A1 m.length c1) := hx1.1.cell 0; have cf : w1.cell? ⟨w.heap.size, 1, none⟩ = some (.int .i64 (0 : Nat)) := hx1.1.cell 1; have HX1 := Lib.hid hx1; have HT := Lib.hid ht; clear hp ht hx1)
      go_ret3
      exact take_end HTK.out (Rd.none _) nowhere rfl rfl HT.out
    · rw [if_neg hbig] at HTK
      have hn : n ≤ 4194304 := by omega
      have hcv : IntKind.i64.wrap (n : Int) = (n : Int) := IntWalk.i64_in _ (by omega)
      clear hbig HN
      by_cases hsh : l.length < k + n + 4
      · rw [if_pos hsh] at HTK
        have hsh2 : m.length < n + 4 := by rw [hdl.out]; omega
        clear hsh
        go_enter Try.func50, Try.ntmps50
        go_wp2_with (go_at_call 51; refine HX.out.mono ?_; intro e w1 hp; obtain ⟨rfl, A1, c1, hx1, ht⟩ := HXP.out _ _ _ hp HT0.out; have c0 : w1.cell? ⟨w.heap.size, 0, none⟩ = some (.slice A1 m.length c1) := hx1.1.cell 0; have cf : w1.cell? ⟨w.heap.size, 1, none⟩ = some (.int .i64 (0 : Nat)) := hx1.1.cell 1; have HX1 := Lib.hid hx1; have HT := Lib.hid ht; clear hp ht hx1)
        go_ret3
        exact take_end HTK.out (Rd.none _) nowhere rfl rfl HT.out
      · rw [if_neg hsh] at HTK
        have hsh2 : n + 4 ≤ m.length := by rw [hdl.out]; omega
        have hml : m.length ≤ 1000000 := by rw [hdl.out]; omega
        have HLK : Hid (l.length = m.length + k) := by show _ = _; rw [hdl.out]; omega
        clear hsh
        obtain ⟨x, hx⟩ : ∃ x, x = m.take (n + 4) := ⟨_, rfl⟩
        have HXL : Hid (x.length = n + 4) := by rw [hx, List.length_take]; exact Nat.min_eq_left hsh2
        have HFR : Hid (∀ W A1 c1, XRd W w.heap.size B A1 c1 m 0 → Rd W (.slice A1 (n + 4) c1) x) := fun W A1 c1 h => by rw [hx]; exact h.2.1.front _ hsh2
        have HBK : Hid (∀ W A1 c1, XRd W w.heap.size B A1 c1 m 0 → Hid (∀ k, (Value.slice A1 (n + 4) c1).ownBlock = some k → Loc k)) := fun W A1 c1 h k hk => by rw [h.2.2.1.1 k (by cases A1 <;> exact hk)]; exact HLC.out
        rw [← hx] at HTK
        clear hx
        obtain ⟨g, hg⟩ : ∃ g, g = gets x := ⟨_, rfl⟩
        have HGP : Hid (∀ W e W', GetAt Loc W x e W' → ∃ A c, e = .returned (.tuple #[.slice A g.1.length c, .int .i64 g.2]) ∧ Rd W' (.slice A g.1.length c) g.1 ∧ Turn (fun _ => False) W W' ∧ ∀ k, (Value.slice A g.1.length c).ownBlock = some k → Loc k) := by
          rintro W e W' ⟨v', he, hr, ht, hk⟩
          rw [← hg] at he hr
          obtain ⟨A, c, rfl⟩ := Rd.shape hr
          exact ⟨A, c, he, hr, ht, hk⟩
        rw [← hg] at HTK
        clear hg
        obtain ⟨⟨p, f2⟩, rfl⟩ : ∃ q, q = g := ⟨_, rfl⟩
        have HCP : Hid (∀ W A1 c1, XRd W w.heap.size B A1 c1 m 0 → m.length ≤ c1 ∧ c1 ≤ 9223372036854775807) := fun W A1 c1 h => by have := h.2.2.2; unfold maxLen at this; omega
        by_cases hg2 : f2 = 0
        · subst hg2
          rw [if_neg (by simp)] at HTK
          go_enter Try.func50, Try.ntmps50
          go_wp2_with (first
            | (go_at_call 51; refine HX.out.mono ?_; intro e w1 hp; obtain ⟨rfl, A1, c1, hx1, ht⟩ := HXP.out _ _ _ hp HT0.out; have c0 : w1.cell? ⟨w.heap.size, 0, none⟩ = some (.slice A1 m.length c1) := hx1.1.cell 0; have cf : w1.cell? ⟨w.heap.size, 1, none⟩ = some (.int .i64 (0 : Nat)) := hx1.1.cell 1; obtain ⟨hcm, hcc⟩ := HCP.out _ _ _ hx1; have HX1 := Lib.hid hx1; have HT := Lib.hid ht; clear hp ht hx1)
            | (go_at_call 69; refine (ref_get_at Loc _ x w1 (HFR.out _ _ _ HX1.out) (by rw [HXL.out]; omega) (HBK.out _ _ _ HX1.out)).mono ?_; intro e w2 hp; obtain ⟨A2, c2, rfl, hr2, ht2, hk2⟩ := HGP.out _ _ _ hp; have HK2 := Lib.hid hk2; clear hk2; have c3 : w2.cell? ⟨w.heap.size, 0, none⟩ = some (.slice A1 m.length c1) := (HX1.out.1.turn ht2 (fun f => f)).cell 0; have HR2 := Lib.hid hr2; have HT2 := Lib.hid ht2; clear hp hr2 ht2))
          go_quiet (fail)
          go_wp2
          go_ret3
          exact take_end HTK.out (HR2.out.later ((Turn.refl _ w2).drewN _)) HK2.out (by have := HLK.out; simp; omega) rfl ((HT.out.trans HT2.out (fun _ _ f => f)).drewN _)
        · have hf2 : (((f2 : Int) == 0) = false) := by rw [beq_eq_false_iff_ne]; omega
          have hf3 : (((f2 : Int) != 0) = true) := by rw [bne_iff_ne]; omega
          rw [if_pos hg2] at HTK
          clear hg2
          go_enter Try.func50, Try.ntmps50
          go_wp2_with (first
            | (go_at_call 51; refine HX.out.mono ?_; intro e w1 hp; obtain ⟨rfl, A1, c1, hx1, ht⟩ := HXP.out _ _ _ hp HT0.out; have c0 : w1.cell? ⟨w.heap.size, 0, none⟩ = some (.slice A1 m.length c1) := hx1.1.cell 0; have cf : w1.cell? ⟨w.heap.size, 1, none⟩ = some (.int .i64 (0 : Nat)) := hx1.1.cell 1; obtain ⟨hcm, hcc⟩ := HCP.out _ _ _ hx1; have HX1 := Lib.hid hx1; have HT := Lib.hid ht; clear hp ht hx1)
            | (go_at_call 69; refine (ref_get_at Loc _ x w1 (HFR.out _ _ _ HX1.out) (by rw [HXL.out]; omega) (HBK.out _ _ _ HX1.out)).mono ?_; intro e w2 hp; obtain ⟨A2, c2, rfl, hr2, ht2, hk2⟩ := HGP.out _ _ _ hp; have HK2 := Lib.hid hk2; clear hk2; have HR2 := Lib.hid hr2; have HT2 := Lib.hid ht2; clear hp hr2 ht2))
          go_ret3
          exact take_end HTK.out (Rd.none _) nowhere rfl rfl (HT.out.trans HT2.out (fun _ _ f => f))
  · have hf2 : (((f : Int) == 0) = false) := by rw [beq_eq_false_iff_ne]; omega
    have hf3 : (((f : Int) != 0) = true) := by rw [bne_iff_ne]; omega
    rw [if_pos hf] at HTK
    clear hf
    go_enter Try.func50, Try.ntmps50
    go_wp2_with (go_at_call 51; refine HX.out.mono ?_; intro e w1 hp; obtain ⟨rfl, A1, c1, hx1, ht⟩ := HXP.out _ _ _ hp HT0.out; have cf : w1.cell? ⟨w.heap.size, 1, none⟩ = some (.int .i64 f) := hx1.1.cell 1; have HX1 := Lib.hid hx1; have HT := Lib.hid ht; clear hp ht hx1)
    go_quiet (fail)
    go_wp2
    go_ret3
    exact take_end HTK.out (Rd.none _) nowhere rfl rfl (HT.out.drewN _)

theorem ref_take (v : Value) (l : List UInt8) (w : World) (hv : Rd w v l) (h0 : 0 < l.length) (hl : l.length ≤ 1000000) : Calls Try.prog 50 #[v] w (TakePost w l) :=
  (ref_take_at (fun _ => True) v l w hv h0 hl (fun _ _ => trivial)).mono fun _ _ h => h.post

end Go.Proofs.Ytgchfckmhibeaaa

/-
  All frames with which bytes begin, as the document has them: their places, their payloads, and where they end.
-/
namespace Go.Proofs.Ytgchfckmhibeaaa
open Go.RowKit

theorem endOf_snoc : ∀ (i j : Nat) (p : List UInt8) (xs : List (Nat × List UInt8)), endOf i (xs ++ [(j, p)]) = j + sz p.length
  | _, _, _, [] => rfl
  | _, j, p, x :: t => endOf_snoc (x.1 + sz x.2.length) j p t

structure AllRel (w : World) (l : List UInt8) (wr : World) (x5 x6 : Value) (i : Nat) (done : List (Nat × List UInt8)) (us : List Value) : Prop where
  hi : i ≤ l.length
  hd : done ++ allF (l.length - i + 1) i (l.drop i) = allOf l
  he : endOf 0 done = i
  hn : done.length ≤ i
  r5 : Row 3 wr x5 (done.map fun x => nv x.1)
  f5 : ∀ k, x5.ownBlock = some k → w.heap.size ≤ k
  r6 : Row 22 wr x6 us
  f6 : ∀ k, x6.ownBlock = some k → w.heap.size ≤ k
  hu : us.length = done.length
  hk : ∀ (j : Nat) (u : Value) (p : Nat × List UInt8), us[j]? = some u → done[j]? = some p → Rd wr u p.2 ∧ ∀ k, u.ownBlock = some k → k < w.heap.size
  ht : Turn (fun _ => False) w wr

theorem all_start (w : World) (l : List UInt8) : AllRel w l w (.slice none 0 0) (.slice none 0 0) 0 [] [] :=
  ⟨Nat.zero_le _, rfl, rfl, Nat.le_refl _, Row.nil _ _, (fun k h => by cases h), Row.nil _ _, (fun k h => by cases h), rfl, (fun j u p h => by simp at h), Turn.refl _ _⟩

theorem all_done {w wr : World} {l : List UInt8} {x5 x6 : Value} {i : Nat} {done : List (Nat × List UInt8)} {us : List Value} (h : AllRel w l wr x5 x6 i done us) (h0 : (takes (l.drop i)).2.2 ≠ 0) : allOf l = done := by
  rw [← h.hd, allF_stop h0, List.append_nil]

theorem all_next {w wr w1 w2 w3 : World} {l : List UInt8} {x5 x6 u : Value} {i : Nat} {done : List (Nat × List UInt8)} {us : List Value} (h : AllRel w l wr x5 x6 i done us)
    {p : List UInt8} {n : Nat} (hlt : i < l.length) (htk : takes (l.drop i) = (p, n, 0)) (t1 : Turn (fun _ => False) wr w1) (hu : Rd w1 u p) (hub : ∀ k, u.ownBlock = some k → k < w.heap.size)
    {o1 o2 : Obj} {A5 : Option Addr} {n5 c5 : Nat} (r5 : Row 3 w2 (.slice A5 n5 c5) ((done.map fun x => nv x.1) ++ [nv i])) (g5 : (w1.alloc o1).grownBy w2 x5.ownBlock)
    (a5 : (Value.slice A5 n5 c5).ownBlock = x5.ownBlock ∨ (Value.slice A5 n5 c5).ownBlock = some (w1.heap.size + 1))
    {A6 : Option Addr} {n6 c6 : Nat} (r6 : Row 22 w3 (.slice A6 n6 c6) (us ++ [u])) (g6 : (w2.alloc o2).grownBy w3 x6.ownBlock)
    (a6 : (Value.slice A6 n6 c6).ownBlock = x6.ownBlock ∨ (Value.slice A6 n6 c6).ownBlock = some (w2.heap.size + 1)) :
    AllRel w l w3 (.slice A5 n5 c5) (.slice A6 n6 c6) (i + n) (done ++ [(i, p)]) (us ++ [u]) := by
  have e0 : (takes (l.drop i)).2.2 = 0 := by rw [htk]
  have hs := takes_sz (l.drop i) e0
  rw [htk] at hs
  have hsz : n = sz p.length := hs.1
  have hle : n ≤ (l.drop i).length := hs.2.1
  have hpos := sz_pos p.length
  rw [List.length_drop] at hle
  have s1 := h.ht.size
  have s2 := t1.size
  have tA : Turn (fun _ => False) w (w1.alloc o1) := (h.ht.trans t1 (fun _ _ f => f)).alloc o1
  have tB : Turn (fun _ => False) w w2 := tA.grown g5 (fun k hk e => by have := h.f5 k e; omega)
  have tC : Turn (fun _ => False) w (w2.alloc o2) := tB.alloc o2
  have tD : Turn (fun _ => False) w w3 := tC.grown g6 (fun k hk e => by have := h.f6 k e; omega)
  have q5 : Row 3 (w2.alloc o2) (.slice A5 n5 c5) ((done.map fun x => nv x.1) ++ [nv i]) := r5.later ((Turn.refl _ w2).alloc o2)
  have p6 : Row 22 (w1.alloc o1) x6 us := h.r6.later (t1.alloc o1)
  have p5 : Row 3 (w1.alloc o1) x5 (done.map fun x => nv x.1) := h.r5.later (t1.alloc o1)
  have q6 : Row 22 (w2.alloc o2) x6 us := (p6.grown g5 (p6.apart p5 (by decide))).later ((Turn.refl _ w2).alloc o2)
  have hS : ∀ {a b : World} {row : Option Nat}, a.grownBy b row → (∀ k, row = some k → w.heap.size ≤ k) → Turn (fun k => w.heap.size ≤ k) a b := fun hg hr => (Turn.refl _ _).grown hg (fun k _ e => hr k e)
  have tw : Turn (fun k => w.heap.size ≤ k) w1 w3 := (((Turn.refl _ w1).alloc o1).trans ((hS g5 h.f5).alloc o2) (fun _ _ s => s)).trans (hS g6 h.f6) (fun _ _ s => s)
  refine ⟨by omega, ?_, ?_, by simp; have := h.hn; omega, ?_, ?_, r6, ?_, by simp [h.hu], ?_, tD⟩
  · rw [← h.hd, List.append_assoc]
    congr 1
    rw [allF_step e0, htk]
    show [(i, p)] ++ _ = (i, p) :: allF (l.length - i) (i + n) ((l.drop i).drop n)
    rw [List.drop_drop, allF_fuel (l.length - i) (l.length - (i + n) + 1) _ _ (by rw [List.length_drop]; omega) (by rw [List.length_drop]; omega)]
    rfl
  · rw [endOf_snoc, hsz]
  · rw [List.map_append]
    exact q5.grown g6 (q5.apart q6 (by decide))
  · intro k hk
    rcases a5 with e | e
    · exact h.f5 k (by rw [← e]; exact hk)
    · rw [e] at hk
      injection hk with hk
      omega
  · intro k hk
    rcases a6 with e | e
    · exact h.f6 k (by rw [← e]; exact hk)
    · rw [e] at hk
      injection hk with hk
      have := tB.size
      omega
  · intro j v q hj hq
    by_cases hjl : j < us.length
    · rw [List.getElem?_append_left hjl] at hj
      rw [List.getElem?_append_left (by rw [← h.hu]; exact hjl)] at hq
      obtain ⟨h1, h2⟩ := h.hk j v q hj hq
      exact ⟨(h1.later t1).turn tw (fun k hk s => by have := h2 k hk; omega), h2⟩
    · have hj0 : j = us.length := by
        rw [List.getElem?_append_right (by omega)] at hj
        have := (List.getElem?_eq_some_iff.1 hj).1
        simp at this
        omega
      subst hj0
      rw [List.getElem?_append_right (Nat.le_refl _), Nat.sub_self] at hj
      rw [h.hu, List.getElem?_append_right (Nat.le_refl _), Nat.sub_self] at hq
      obtain rfl : u = v := by simpa using hj
      obtain rfl : (i, p) = q := by simpa using hq
      exact ⟨hu.turn tw (fun k hk s => by have := hub k hk; omega), hub⟩

def AllPost (w : World) (l : List UInt8) (e : Ending) (w' : World) : Prop :=
  ∃ v1 v2, e = .returned (.tuple #[v1, v2, .int .i64 (endOf 0 (allOf l))]) ∧ Nums w' v1 ((allOf l).map (·.1)) ∧ Rds w' v2 ((allOf l).map (·.2)) ∧ Turn (fun _ => False) w w'
/-- .. the payloads where memory was ahead of the call. -/
def RdsB (w : World) (D : Nat) (v : Value) (L : List (List UInt8)) : Prop :=
  ∃ A c, v = .slice A L.length c ∧ (L.length ≤ c ∧ c ≤ maxLen) ∧ ∀ j l, L[j]? = some l → ∃ ad u, A = some ad ∧ w.cell? (ad.add j) = some u ∧ Rd w u l ∧ ∀ k, u.ownBlock = some k → k < D
theorem RdsB.rds {w : World} {D : Nat} {v : Value} {L : List (List UInt8)} (h : RdsB w D v L) : Rds w v L := by
  obtain ⟨A, c, e, h1, h2⟩ := h
  refine ⟨A, c, e, h1, fun j l hj => ?_⟩
  obtain ⟨ad, u, e1, e2, e3, _⟩ := h2 j l hj
  exact ⟨ad, u, e1, e2, e3⟩
theorem RdsB.later {w w' : World} {D : Nat} {v : Value} {L : List (List UInt8)} (h : RdsB w D v L) (ht : Turn (fun _ => False) w w') : RdsB w' D v L := by
  obtain ⟨A, c, e, hk, hx⟩ := h
  refine ⟨A, c, e, hk, fun j l hj => ?_⟩
  obtain ⟨ad, u, e1, hc, hr, hd⟩ := hx j l hj
  exact ⟨ad, u, e1, by rw [ht.cell (World.block_lt_of_cell? w _ hc) (fun f => f)]; exact hc, hr.later ht, hd⟩
theorem RdsB.at {w : World} {D : Nat} {A : Option Addr} {n c : Nat} {L : List (List UInt8)} (h : RdsB w D (.slice A n c) L) {k : Nat} {l : List UInt8} (hk : L[k]? = some l) :
    ∃ ad A1 c1, A = some ad ∧ w.cell? (ad.add k) = some (.slice A1 l.length c1) ∧ Rd w (.slice A1 l.length c1) l ∧ ∀ g, (Value.slice A1 l.length c1).ownBlock = some g → g < D := by
  obtain ⟨A', c', hv, _, hx⟩ := h
  injection hv with h1 h2 h3
  subst h1
  obtain ⟨ad, u, e, hc, hr, hd⟩ := hx k l hk
  obtain ⟨A1, c1, rfl⟩ := hr.shape
  exact ⟨ad, A1, c1, e, hc, hr, hd⟩
theorem RdsB.shape {w : World} {D : Nat} {v : Value} {L : List (List UInt8)} (h : RdsB w D v L) : ∃ A c, v = .slice A L.length c := by
  obtain ⟨A, c, e, _⟩ := h
  exact ⟨A, c, e⟩
def AllPostB (w : World) (l : List UInt8) (e : Ending) (w' : World) : Prop :=
  ∃ v1 v2, e = .returned (.tuple #[v1, v2, .int .i64 (endOf 0 (allOf l))]) ∧ Nums w' v1 ((allOf l).map (·.1)) ∧ RdsB w' w.heap.size v2 ((allOf l).map (·.2)) ∧ Turn (fun _ => False) w w'
theorem AllPostB.old {w : World} {l : List UInt8} {e : Ending} {w' : World} (h : AllPostB w l e w') : AllPost w l e w' := by
  obtain ⟨v1, v2, h1, h2, h3, h4⟩ := h
  exact ⟨v1, v2, h1, h2, h3.rds, h4⟩

theorem all_end {w wr : World} {l : List UInt8} {x5 x6 : Value} {i : Nat} {done : List (Nat × List UInt8)} {us : List Value} {c : Int} (h : AllRel w l wr x5 x6 i done us) (h0 : (takes (l.drop i)).2.2 ≠ 0) (hc : c = i) {w' : World}
    (t : Turn (fun _ => False) wr w') : AllPostB w l (.returned (.tuple #[x5, x6, .int .i64 c])) w' := by
  have e := all_done h h0
  have r5 := h.r5
  obtain ⟨A, c6, rfl⟩ := h.r6.shape
  refine ⟨_, _, by rw [e, h.he, hc], ?_, ?_, h.ht.trans t (fun _ _ f => f)⟩
  · rw [e]
    refine (Row.nums ?_).later t
    rw [List.map_map]
    exact h.r5
  · rw [e]
    have hb := h.r6.bounds
    refine RdsB.later (w := wr) (D := w.heap.size) (v := .slice A us.length c6) (L := done.map (·.2)) ⟨A, c6, by rw [List.length_map, h.hu], ⟨by rw [List.length_map, ← h.hu]; exact hb.2.1, hb.2.2⟩, fun j q hj => ?_⟩ t
    rw [List.getElem?_map] at hj
    cases hd : done[j]? with
    | none => rw [hd] at hj; cases hj
    | some p =>
      rw [hd] at hj
      obtain rfl : p.2 = q := by simpa using hj
      obtain ⟨u, hu⟩ : ∃ u, us[j]? = some u := ⟨_, List.getElem?_eq_getElem (by rw [h.hu]; exact (List.getElem?_eq_some_iff.1 hd).1)⟩
      obtain ⟨ad, e1, hcell⟩ := h.r6.at hu
      exact ⟨ad, u, e1, hcell, (h.hk j u p hu hd).1, (h.hk j u p hu hd).2⟩

set_option maxRecDepth 100000 in
set_option maxHeartbeats 2000000 in
theorem ref_allB (v : Value) (l : List UInt8) (w : World) (hv : Rd w v l) (hl : l.length ≤ 1000000) :
    Calls Try.prog 29 #[v] w (AllPostB w l) := by
  have HV := Lib.hid hv
  obtain ⟨A, c, rfl, hcc, hxx⟩ := hv
  have hcap : c ≤ 9223372036854775807 := by have := hcc.2; unfold maxLen at this; omega
  have hcl := hcc.1
  clear hxx hcc
  go_enter Try.func29, Try.ntmps29
  go_wp2
  go_loopw [5, 6, 7] (fun x5 x6 x7 wr => ∃ i done us, x7 = .int .i64 (i : Nat) ∧ AllRel w l wr x5 x6 i done us) (fun _ _ x7 _ => l.length - (intOf x7).toNat)
  case atStart => exact ⟨0, [], [], rfl, all_start w l⟩
  case round =>
    obtain ⟨i, done, us, rfl, hr⟩ := hrel
    have HR := Lib.hid hr
    obtain ⟨A5, c5, h5⟩ := hr.r5.shape
    rw [List.length_map] at h5
    subst h5
    obtain ⟨A6, c6, rfl⟩ := hr.r6.shape
    have hil := hr.hi
    clear hr
    by_cases h : i < l.length
    · obtain ⟨ad, rfl⟩ := HV.out.some_at (by omega)
      have HB := Lib.hid (HV.out.back i hil)
      have hic : ¬ c = i := by omega
      have HBK : Hid (∀ k, (Value.slice (some (ad.add i)) (l.length - i) (c - i)).ownBlock = some k → k < w.heap.size) := by
        intro k hk
        obtain ⟨x, hx⟩ : ∃ x, l[0]? = some x := ⟨_, List.getElem?_eq_getElem (by omega)⟩
        obtain ⟨ad', e, hc⟩ := HV.out.at hx
        cases e
        have hlt := World.block_lt_of_cell? w _ hc
        rw [add_block] at hlt
        have : (ad.add i).block = k := by simpa [Value.ownBlock] using hk
        rw [add_block] at this
        omega
      have HDL : Hid ((l.drop i).length = l.length - i) := List.length_drop
      obtain ⟨⟨p, n, f⟩, hq⟩ : ∃ q, q = takes (l.drop i) := ⟨_, rfl⟩
      have HTP : Hid (∀ e W', TakeAt (fun k => k < w.heap.size) wr (l.drop i) e W' → ∃ A c, e = .returned (.tuple #[.slice A p.length c, .int .i64 n, .int .i64 f]) ∧ Rd W' (.slice A p.length c) p ∧ Turn (fun _ => False) wr W' ∧ ∀ k, (Value.slice A p.length c).ownBlock = some k → k < w.heap.size) := by
        rintro e W' ⟨v', he, hr, ht, hk⟩
        rw [← hq] at he hr
        obtain ⟨A, c, rfl⟩ := Rd.shape hr
        exact ⟨A, c, he, hr, ht, hk⟩
      have HQ := Lib.hid hq.symm
      by_cases hf : f = 0
      · subst hf
        have hnl : n ≤ l.length - i := by
          have := (takes_sz (l.drop i) (by rw [← hq])).2.1
          rw [← hq, List.length_drop] at this
          exact this
        have HNP : Hid (5 ≤ n) := by
          have h1 := (takes_sz (l.drop i) (by rw [← hq])).1
          rw [← hq] at h1
          have h3 : n = sz p.length := h1
          have h2 := sz_pos p.length
          show 5 ≤ n
          omega
        clear hq
        go_wp2_with (first
          | (go_at_call 50; refine (ref_take_at (fun k => k < w.heap.size) _ (l.drop i) wr (HB.out.later HR.out.ht) (by rw [HDL.out]; omega) (by rw [HDL.out]; omega) HBK).mono ?_; intro e w1 hp; obtain ⟨Au, cu, rfl, hr1, ht1, hk1⟩ := HTP.out _ _ hp; have HR1 := Lib.hid hr1; have HT1 := Lib.hid ht1; have HK1 := Lib.hid hk1; clear hp hr1 ht1 hk1)
          | (at_builtin; go_must (refine wpList_push (o := ⟨some 28, _, _, _, _, _⟩) rfl (.tmp 25) (.tmp 27) 47 3 Try.underlying47 int_info rfl (by decide) rfl _ _ rfl (HR.out.r5.later (HT1.out.alloc _)) w1.heap.size (nv i) rfl ((Box.new w1 _ _).cell 0) rfl (by have := HR.out.hn; simp; omega) ?_)))
        intro A7 n7 c7 w2 r7 g7 a7
        have R7 := Lib.hid r7; have G7 := Lib.hid g7; have E7 := Lib.hid a7
        clear r7 g7 a7
        go_wp2_with (at_builtin; go_must (refine wpList_push (o := ⟨some 32, _, _, _, _, _⟩) rfl (.tmp 29) (.tmp 31) 63 22 Try.underlying63 bytes_info rfl (by decide) rfl _ us rfl ?_ w2.heap.size _ rfl ((Box.new w2 _ _).cell 0) rfl (by have := HR.out.hn; have := HR.out.hu; omega) ?_))
        · have p6 := HR.out.r6.later (HT1.out.alloc (.cells #[nv i] 3))
          have p5 := HR.out.r5.later (HT1.out.alloc (.cells #[nv i] 3))
          exact (p6.grown G7.out (p6.apart p5 (by decide))).later ((Turn.refl _ w2).alloc _)
        intro A8 n8 c8 w3 r8 g8 a8
        have HN := Lib.hid (all_next HR.out h HQ.out HT1.out HR1.out HK1.out R7.out G7.out E7.out r8 g8 a8)
        clear r8 g8 a8
        go_wp2
        go_roundw
        case rel => exact ⟨i + n, _, _, by go_num, HN.out⟩
        case measure => have := HNP.out; simp [intOf]; omega
      · have hf2 : (((f : Int) == 0) = false) := by rw [beq_eq_false_iff_ne]; omega
        have hf3 : (((f : Int) != 0) = true) := by rw [bne_iff_ne]; omega
        have H0 : Hid ((takes (l.drop i)).2.2 ≠ 0) := by rw [← hq]; exact hf
        clear hq hf
        go_wp2_with (go_at_call 50; refine (ref_take_at (fun k => k < w.heap.size) _ (l.drop i) wr (HB.out.later HR.out.ht) (by rw [HDL.out]; omega) (by rw [HDL.out]; omega) HBK).mono ?_; intro e w1 hp; obtain ⟨Au, cu, rfl, hr1, ht1, hk1⟩ := HTP.out _ _ hp; have HR1 := Lib.hid hr1; have HT1 := Lib.hid ht1; have HK1 := Lib.hid hk1; clear hp hr1 ht1 hk1)
        go_ret3
        exact all_end HR.out H0.out rfl HT1.out
    · have H0 : Hid ((takes (l.drop i)).2.2 ≠ 0) := by
        rw [List.drop_eq_nil_of_le (by omega)]
        exact takes_nil
      go_wp2
      go_ret3
      exact all_end HR.out H0.out rfl (Turn.refl _ _)

theorem ref_all (v : Value) (l : List UInt8) (w : World) (hv : Rd w v l) (hl : l.length ≤ 1000000) :
    Calls Try.prog 29 #[v] w (AllPost w l) := (ref_allB v l w hv hl).mono fun _ _ h => h.old

end Go.Proofs.Ytgchfckmhibeaaa

/-
  The document's frame of any bytes (the texts of stage 12, without its dictionaries).
-/
namespace Go.Proofs.Ytgchfckmhibeaaa
open Go.RowKit

set_option maxRecDepth 100000

theorem made_behind17 {a b c : World} {v : Value} {l : List UInt8} (h : Turn (fun _ => False) a b) (g : Made b c v l) : Made a c v l :=
  ⟨g.1, h.trans g.2.1 (fun _ _ f => f), fun k hk => Nat.le_trans h.size (g.2.2 k hk)⟩
theorem made_later17 {a b c : World} {v : Value} {l : List UInt8} (g : Made a b v l) (h : Turn (fun _ => False) b c) : Made a c v l :=
  ⟨g.1.turn h (fun _ _ f => f), g.2.1.trans h (fun _ _ f => f), g.2.2⟩
theorem made_more17 {w wr w2 w3 : World} {A A3 : Option Addr} {n c n3 c3 : Nat} {acc m : List UInt8} (h : Made w wr (.slice A n c) acc) (ht : Turn (fun _ => False) wr w2) (hb : By w3 (.slice A3 n3 c3) (acc ++ m))
    (hg : w2.grownBy w3 (Value.slice A n c).ownBlock) (ha : (Value.slice A3 n3 c3).ownBlock = (Value.slice A n c).ownBlock ∨ (Value.slice A3 n3 c3).ownBlock = some w2.heap.size) : Made w w3 (.slice A3 n3 c3) (acc ++ m) := made_app h ht hb hg ha rfl
set_option maxHeartbeats 2000000 in
theorem ref_frame17 (v : Value) (p : List UInt8) (w : World) (hv : Rd w v p) (hl : p.length ≤ 900000) : Calls Try.prog 54 #[v] w fun e w' => ∃ v', e = .returned v' ∧ Made w w' v' (fr p) := by
  have HV := Lib.hid hv
  obtain ⟨A, c, rfl⟩ := hv.shape
  clear hv
  have hwr : IntKind.u64.wrap (p.length : Int) = (p.length : Int) := by rw [IntKind.wrap_u64]; omega
  have HN : Hid (p.length < 18446744073709551616) := by show _ < _; omega
  have hel := enc_len p.length
  have HTL : Hid ((p ++ tl (more 0 p)).length ≤ 1000000) := by show _ ≤ _; rw [List.length_append, tl_len]; omega
  go_enter Try.func54, Try.ntmps54
  go_wp2_with fail
  refine (ref_num p.length w HN).mono ?_
  rintro e w1 ⟨v1, rfl, hm1⟩
  obtain ⟨A1, c1, rfl⟩ := hm1.1.shape
  have HM1 := Lib.hid hm1
  clear hm1
  go_wp2_with fail
  refine (ref_put _ p w1 (HV.out.later HM1.out.2.1) (by omega)).mono ?_
  rintro e w2 ⟨v2, rfl, hm2⟩
  obtain ⟨A2, c2, rfl⟩ := hm2.1.shape
  have HM2 := Lib.hid hm2
  have HB2 : Hid (By w2 (.slice A1 (enc p.length).length c1) (enc p.length)) := HM1.out.1.turn hm2.2.1 (fun _ _ f => f)
  clear hm2
  go_wp2_with (at_builtin; go_must (refine wpList_app _ rfl _ _ _ rfl _ (enc p.length) rfl HB2.out _ rfl (p ++ tl (more 0 p)) (by have h := HM2.out.1.yields; rw [List.length_append] at h; exact h) (by have := HTL.out; omega) ?_))
  intro A4 n4 c4 w4 hb hg ha
  have HM4 := Lib.hid (made_more17 HM1.out HM2.out.2.1 hb hg ha)
  clear hb hg ha
  go_wp2
  go_ret
  exact ⟨_, rfl, HM4.out⟩


end Go.Proofs.Ytgchfckmhibeaaa

/-
  Stage 17: batches, plain; batches in memory; the document's Right.
-/
namespace Go.Proofs.Ytgchfckmhibeaaa
open Go.RowKit

set_option maxRecDepth 100000

/-- A batch: its numbers, its facts, and where they lie. -/
structure B17 where
  seq : Int
  tick : Int
  bud : Int
  A : Option Addr
  c : Nat
  f : List F9
instance : Inhabited B17 := ⟨⟨0, 0, 0, none, 0, []⟩⟩
abbrev B17.sl (b : B17) : Value := .slice b.A b.f.length b.c
abbrev bv17 (b : B17) : Value := .agg #[.int .i64 b.seq, .int .i64 b.tick, .int .i64 b.bud, b.sl]
abbrev bcells17 (b : B17) : Array Value := #[.int .i64 b.seq, .int .i64 b.tick, .int .i64 b.bud, b.sl]
def EB17 : El B17 where
  sz := 4
  enc b := [.int .i64 b.seq, .int .i64 b.tick, .int .i64 b.bud, b.sl]
  len _ := rfl
  one b u hu := by
    simp only [List.mem_cons, List.not_mem_nil, or_false] at hu
    rcases hu with rfl | rfl | rfl | rfl <;> rfl
/-- What a batch is, wherever its facts lie. -/
structure P17 where
  seq : Int
  tick : Int
  bud : Int
  f : List F9
def B17.p (b : B17) : P17 := ⟨b.seq, b.tick, b.bud, b.f⟩
/-- What its numbers may be, as numbers of 64 bits. -/
def I64 (x : Int) : Prop := -9223372036854775808 ≤ x ∧ x ≤ 9223372036854775807
def B17.fits (b : B17) : Prop := I64 b.seq ∧ I64 b.tick ∧ I64 b.bud
def in17 (n a b : Int) : Bool := decide (a ≤ n) && decide (n ≤ b)
def numsR17 (s t u : Int) : Bool := in17 s 1 4611686018427387904 && in17 t 0 1006633020 && in17 u 0 4611686018427387904
def right17 (b : P17) (n : Int) : Bool := decide ((allB b.f n).1 = 0) && numsR17 b.seq b.tick b.bud
def pay17 (b : P17) (n : Nat) : List UInt8 := enc b.seq.toNat ++ enc b.tick.toNat ++ enc b.bud.toNat ++ batchB b.f n
def rec17 (b : P17) (n : Int) : List UInt8 × Int := if right17 b n then (fr (pay17 b n.toNat), 0) else ([], 1)
/-- What a payload is. -/
def parse17 (p : List UInt8) (n : Int) : P17 × Int :=
  if okDims n then
    let r := sNum' (sNum' (sNum' (p, 0)))
    let s := sNum (p, 0); let t := sNum (sNum' (p, 0)); let u := sNum (sNum' (sNum' (p, 0)))
    if r.2 ≠ 0 then (⟨0, 0, 0, []⟩, r.2)
    else if numsR17 s t u = false then (⟨0, 0, 0, []⟩, 4)
    else if (readB r.1 n).1 ≠ 0 then (⟨0, 0, 0, []⟩, (readB r.1 n).1)
    else (⟨s, t, u, (readB r.1 n).2⟩, 0)
  else (⟨0, 0, 0, []⟩, 1)
/-- The batches of payloads, as long as each is one, and its number above the one ahead; where they end. -/
def play17 (n : Int) : List (Nat × List UInt8) → Option Int → Nat → List P17 × Nat
  | [], _, e => ([], e)
  | (i, p) :: r, last, e =>
    if (parse17 p n).2 ≠ 0 then ([], i)
    else if last.any (fun s => decide ((parse17 p n).1.seq ≤ s)) then ([], i)
    else ((parse17 p n).1 :: (play17 n r (some (parse17 p n).1.seq) e).1, (play17 n r (some (parse17 p n).1.seq) e).2)
def replay17 (d : List UInt8) (n : Int) : List P17 × Nat := play17 n (allOf d) none (endOf 0 (allOf d))
def bytes17 (n : Int) : List P17 → List UInt8 × Int
  | [] => ([], 0)
  | b :: r => if (rec17 b n).2 ≠ 0 then ([], (rec17 b n).2) else if (bytes17 n r).2 ≠ 0 then ([], (bytes17 n r).2) else ((rec17 b n).1 ++ (bytes17 n r).1, 0)
def keepF17 (q mark a b : Int) (f : F9) : Bool := decide (q > mark) || decide (f.k.h < a) || decide (f.k.h ≥ b)
def trim17 (l : List P17) (a b mark : Int) : List P17 := (l.map fun x => { x with f := x.f.filter (keepF17 x.seq mark a b) }).filter fun x => !x.f.isEmpty
def facts17 (l : List P17) (a b : Int) : List F9 := l.flatMap fun x => x.f.filter fun f => decide (f.k.h ≥ a) && decide (f.k.h < b)

theorem ref_in17 (n a b : Int) (w : World) : Calls Try.prog 76 #[.int .i64 n, .int .i64 a, .int .i64 b] w fun e w' => e = .returned (.bool (in17 n a b)) ∧ w' = w := by
  by_cases h1 : a ≤ n
  · by_cases h2 : n ≤ b
    · have HB : Hid (in17 n a b = true) := by show _ = _; unfold in17; rw [decide_eq_true h1, decide_eq_true h2]; rfl
      go_enter Try.func76, Try.ntmps76
      go_wp2
      go_ret
      exact ⟨by rw [HB.out]; first | rfl | exact ret_bool (decide_eq_true (by omega)), rfl⟩
    · have HB : Hid (in17 n a b = false) := by show _ = _; unfold in17; rw [decide_eq_false h2, Bool.and_false]
      have h3 : b < n := by omega
      clear h2
      go_enter Try.func76, Try.ntmps76
      go_wp2
      go_ret
      exact ⟨by rw [HB.out]; first | rfl | exact ret_bool (decide_eq_false (by omega)), rfl⟩
  · have HB : Hid (in17 n a b = false) := by show _ = _; unfold in17; rw [decide_eq_false h1, Bool.false_and]
    have h3 : n < a := by omega
    clear h1
    go_enter Try.func76, Try.ntmps76
    go_wp2
    go_ret
    exact ⟨by rw [HB.out]; first | rfl | exact ret_bool (decide_eq_false (by omega)), rfl⟩

end Go.Proofs.Ytgchfckmhibeaaa

/-
  Stage 17: the document's Right, Payload, Record.
-/
namespace Go.Proofs.Ytgchfckmhibeaaa
open Go.RowKit

set_option maxRecDepth 100000

set_option maxHeartbeats 4000000 in
theorem ref_right17 (b : B17) (n : Int) (w : World) (hv : RdE EF w b.sl b.f) (hl : b.f.length ≤ 1000) :
    Calls Try.prog 53 #[bv17 b, .int .i64 n] w fun e w' => e = .returned (.bool (right17 b.p n)) ∧ Turn (fun _ => False) w w' := by
  obtain ⟨wb, hwb⟩ : ∃ wb, wb = w.alloc (.cells (bcells17 b) 52) := ⟨_, rfl⟩
  obtain ⟨q, hq⟩ : ∃ q, q = w.heap.size := ⟨_, rfl⟩
  have HTB : Hid (Turn (fun _ => False) w wb) := by rw [hwb]; exact (Turn.refl _ w).alloc _
  have HBX : Hid (Box wb q 52 (bcells17 b)) := by rw [hwb, hq]; exact Box.new w _ _
  have HWB := Lib.hid hwb; have HQ := Lib.hid hq
  have hk3 : (w.alloc (.cells (bcells17 b) 52)).cell? ⟨w.heap.size, 3, none⟩ = some b.sl := (Box.new w 52 (bcells17 b)).cell 3
  have HALL : Hid (Calls Try.prog 75 #[b.sl, .int .i64 n] wb fun e w' => e = .returned (allV b.f n) ∧ Turn (fun _ => False) wb w') := ref_all9 _ _ _ _ (hv.later HTB.out) (by omega)
  have HI1 : Hid (∀ W, Calls Try.prog 76 #[.int .i64 b.seq, .int .i64 1, .int .i64 4611686018427387904] W fun e w' => e = .returned (.bool (in17 b.seq 1 4611686018427387904)) ∧ w' = W) := fun W => ref_in17 _ _ _ W
  have HI2 : Hid (∀ W, Calls Try.prog 76 #[.int .i64 b.tick, .int .i64 0, .int .i64 1006633020] W fun e w' => e = .returned (.bool (in17 b.tick 0 1006633020)) ∧ w' = W) := fun W => ref_in17 _ _ _ W
  have HI3 : Hid (∀ W, Calls Try.prog 76 #[.int .i64 b.bud, .int .i64 0, .int .i64 4611686018427387904] W fun e w' => e = .returned (.bool (in17 b.bud 0 4611686018427387904)) ∧ w' = W) := fun W => ref_in17 _ _ _ W
  have HR : Hid (right17 b.p n = (decide ((allB b.f n).1 = 0) && (in17 b.seq 1 4611686018427387904 && in17 b.tick 0 1006633020 && in17 b.bud 0 4611686018427387904))) := rfl
  unfold allV at HALL
  generalize right17 b.p n = res at *
  generalize in17 b.seq 1 4611686018427387904 = p1 at *
  generalize in17 b.tick 0 1006633020 = p2 at *
  generalize in17 b.bud 0 4611686018427387904 = p3 at *
  generalize (allB b.f n).1 = x at *
  generalize (allB b.f n).2 = y at *
  clear hv hl hwb hq
  by_cases h0 : x = 0
  · subst h0
    cases p1 <;> cases p2 <;> cases p3
    all_goals (
      have HB := HR.out
      simp at HB
      have HB := Lib.hid HB
      clear HR
      go_enter Try.func53, Try.ntmps53
      go_wp2_with fail
      rw [← HWB.out, ← HQ.out]
      refine HALL.out.mono ?_
      rintro e w1 ⟨rfl, t1⟩
      have hb1 := HBX.out.turn t1 (fun f => f)
      have c0 := hb1.cell 0; have c1 := hb1.cell 1; have c2 := hb1.cell 2
      have HT1 := Lib.hid (HTB.out.trans t1 (fun _ _ f => f))
      clear t1 hb1 HALL hk3
      go_wp2_with (first
        | (with_reducible refine (HI1.out _).mono ?_; rintro e w' ⟨rfl, rfl⟩)
        | (with_reducible refine (HI2.out _).mono ?_; rintro e w' ⟨rfl, rfl⟩)
        | (with_reducible refine (HI3.out _).mono ?_; rintro e w' ⟨rfl, rfl⟩)
        | fail)
      go_ret
      exact ⟨by rw [HB.out]; rfl, HT1.out⟩)
  · have HB : Hid (res = false) := by show _ = _; rw [HR.out, decide_eq_false h0, Bool.false_and]
    have hx1 : (x == 0) = false := by rw [beq_eq_false_iff_ne]; exact h0
    clear HR h0
    go_enter Try.func53, Try.ntmps53
    go_wp2_with fail
    rw [← HWB.out, ← HQ.out]
    refine HALL.out.mono ?_
    rintro e w1 ⟨rfl, t1⟩
    have HT1 := Lib.hid (HTB.out.trans t1 (fun _ _ f => f))
    clear t1 HALL hk3
    go_wp2
    go_ret
    exact ⟨by rw [HB.out]; rfl, HT1.out⟩

end Go.Proofs.Ytgchfckmhibeaaa

/-
  Stage 17: the document's Payload, Record.
-/
namespace Go.Proofs.Ytgchfckmhibeaaa
open Go.RowKit

set_option maxRecDepth 100000

set_option maxHeartbeats 8000000 in
theorem ref_pay17 (b : B17) (n : Int) (s t u : Nat) (hs : b.seq = s) (ht : b.tick = t) (hu : b.bud = u) (hb : s ≤ 4611686018427387904 ∧ t ≤ 4611686018427387904 ∧ u ≤ 4611686018427387904) (w : World) (hv : RdE EF w b.sl b.f) (hl : b.f.length ≤ 1000) (h0 : (allB b.f n).1 = 0) (hbl : (batchB b.f n.toNat).length ≤ 800000) :
    Calls Try.prog 55 #[bv17 b, .int .i64 n] w fun e w' => ∃ v, e = .returned v ∧ Made w w' v (pay17 b.p n.toNat) := by
  obtain ⟨wb, hwb⟩ : ∃ wb, wb = w.alloc (.cells (bcells17 b) 52) := ⟨_, rfl⟩
  obtain ⟨q, hq⟩ : ∃ q, q = w.heap.size := ⟨_, rfl⟩
  have HTB : Hid (Turn (fun _ => False) w wb) := by rw [hwb]; exact (Turn.refl _ w).alloc _
  have HC : Hid (∀ W, Turn (fun _ => False) wb W → W.cell? ⟨q, 0, none⟩ = some (.int .i64 (s : Int)) ∧ W.cell? ⟨q, 1, none⟩ = some (.int .i64 (t : Int)) ∧ W.cell? ⟨q, 2, none⟩ = some (.int .i64 (u : Int)) ∧ W.cell? ⟨q, 3, none⟩ = some b.sl) := fun W hW => by
    have hx : Box W q 52 (bcells17 b) := (show Box wb q _ _ by rw [hwb, hq]; exact Box.new w _ _).turn hW (fun f => f)
    exact ⟨by rw [← hs]; exact hx.cell 0, by rw [← ht]; exact hx.cell 1, by rw [← hu]; exact hx.cell 2, hx.cell 3⟩
  have HWB := Lib.hid hwb; have HQ := Lib.hid hq
  have hk0 : (w.alloc (.cells (bcells17 b) 52)).cell? ⟨w.heap.size, 0, none⟩ = some (.int .i64 (s : Int)) := by rw [← hs]; exact (Box.new w 52 (bcells17 b)).cell 0
  have hw1 : IntKind.u64.wrap (s : Int) = (s : Int) := by rw [IntKind.wrap_u64]; omega
  have hw2 : IntKind.u64.wrap (t : Int) = (t : Int) := by rw [IntKind.wrap_u64]; omega
  have hw3 : IntKind.u64.wrap (u : Int) = (u : Int) := by rw [IntKind.wrap_u64]; omega
  have HN1 : Hid (s < 18446744073709551616) := by show _ < _; omega
  have HN2 : Hid (t < 18446744073709551616) := by show _ < _; omega
  have HN3 : Hid (u < 18446744073709551616) := by show _ < _; omega
  have HV := Lib.hid (hv.later HTB.out)
  have HEN : Hid (∀ W, Turn (fun _ => False) wb W → Calls Try.prog 79 #[b.sl, .int .i64 n] W fun e w' => ∃ v, e = .returned (.tuple #[v, .int .i64 0]) ∧ Made W w' v (batchB b.f n.toNat)) := fun W hW => (ref_encode9 _ _ n W (HV.out.later hW) hl).mono (by
    rintro e w' ⟨v, rfl, hmm⟩
    rw [h0, if_pos rfl] at hmm
    exact ⟨v, by rw [h0], hmm⟩)
  have HP : Hid (pay17 b.p n.toNat = enc s ++ enc t ++ enc u ++ batchB b.f n.toNat) := by
    show enc b.seq.toNat ++ enc b.tick.toNat ++ enc b.bud.toNat ++ _ = _
    rw [hs, ht, hu]
    rfl
  have HL1 : Hid ((enc s).length ≤ 20 ∧ (enc t).length ≤ 20 ∧ (enc u).length ≤ 20) := ⟨by have := enc_len s; omega, by have := enc_len t; omega, by have := enc_len u; omega⟩
  have HL2 : Hid ((batchB b.f n.toNat).length ≤ 800000) := hbl
  clear hs ht hu hb hv hl h0 hwb hq hbl
  generalize batchB b.f n.toNat = X at *
  go_enter Try.func55, Try.ntmps55
  go_wp2_with fail
  rw [← HWB.out, ← HQ.out]
  refine (ref_num s _ HN1).mono ?_
  rintro e w1 ⟨v1, rfl, hm1⟩
  obtain ⟨A1, c1, rfl⟩ := hm1.1.shape
  have HM1 := Lib.hid hm1
  have HT1 := Lib.hid hm1.2.1
  obtain ⟨-, x1, -, -⟩ := HC.out w1 HT1.out
  clear hm1 hk0
  go_wp2_with fail
  refine (ref_num t _ HN2).mono ?_
  rintro e w2 ⟨v2, rfl, hm2⟩
  obtain ⟨A2, c2, rfl⟩ := hm2.1.shape
  have HM2 := Lib.hid hm2
  have HB2 : Hid (By w2 (.slice A1 (enc s).length c1) (enc s)) := HM1.out.1.turn hm2.2.1 (fun _ _ f => f)
  have HLA : Hid ((enc s).length + (enc t).length ≤ 1000000000) := by show _ ≤ _; have := HL1.out; omega
  clear hm2 x1
  go_wp2_with (at_builtin; go_must (refine wpList_app _ rfl _ _ _ rfl _ (enc s) rfl HB2.out _ rfl (enc t) HM2.out.1.yields HLA.out ?_))
  intro A3 n3 c3 w3 hby hg ha
  have HM3 := Lib.hid (made_more17 HM1.out HM2.out.2.1 hby hg ha)
  have HT3 := Lib.hid (HM3.out.2.1)
  obtain ⟨-, -, x2, -⟩ := HC.out w3 HT3.out
  clear hby hg ha HB2 HM1 HM2
  go_wp2_with fail
  refine (ref_num u _ HN3).mono ?_
  rintro e w4 ⟨v4, rfl, hm4⟩
  obtain ⟨A4, c4, rfl⟩ := hm4.1.shape
  have HM4 := Lib.hid hm4
  have HB4 : Hid (By w4 (.slice A3 n3 c3) (enc s ++ enc t)) := HM3.out.1.turn hm4.2.1 (fun _ _ f => f)
  have HLB : Hid ((enc s ++ enc t).length + (enc u).length ≤ 1000000000) := by show _ ≤ _; rw [List.length_append]; have := HL1.out; omega
  clear hm4 x2
  go_wp2_with (at_builtin; go_must (refine wpList_app _ rfl _ _ _ rfl _ (enc s ++ enc t) rfl HB4.out _ rfl (enc u) HM4.out.1.yields HLB.out ?_))
  intro A5 n5 c5 w5 hby hg ha
  have hby5 : By w5 (.slice A5 n5 c5) ((enc s ++ enc t) ++ enc u) := by simpa only [List.append_assoc] using hby
  have HM5 := Lib.hid (made_more17 HM3.out HM4.out.2.1 hby5 hg ha)
  have HT5 := Lib.hid (HM5.out.2.1)
  obtain ⟨-, -, -, x3⟩ := HC.out w5 HT5.out
  clear hby hby5 hg ha HB4 HM3 HM4
  go_wp2_with fail
  refine (HEN.out w5 HT5.out).mono ?_
  rintro e w6 ⟨v6, rfl, hm6⟩
  obtain ⟨A6, c6, rfl⟩ := hm6.1.shape
  have HM6 := Lib.hid hm6
  have HB6 : Hid (By w6 (.slice A5 n5 c5) (enc s ++ enc t ++ enc u)) := HM5.out.1.turn hm6.2.1 (fun _ _ f => f)
  have HLC : Hid ((enc s ++ enc t ++ enc u).length + X.length ≤ 1000000000) := by show _ ≤ _; rw [List.length_append, List.length_append]; have := HL1.out; have := HL2.out; omega
  clear hm6 x3
  go_wp2_with (at_builtin; go_must (refine wpList_app _ rfl _ _ _ rfl _ (enc s ++ enc t ++ enc u) rfl HB6.out _ rfl X HM6.out.1.yields HLC.out ?_))
  intro A7 n7 c7 w7 hby hg ha
  have hby7 : By w7 (.slice A7 n7 c7) ((enc s ++ enc t ++ enc u) ++ X) := by simpa only [List.append_assoc] using hby
  have HM7 := Lib.hid (made_more17 HM5.out HM6.out.2.1 hby7 hg ha)
  clear hby hby7 hg ha HB6 HM5 HM6
  go_wp2
  go_ret
  refine ⟨_, rfl, ?_⟩
  rw [HP.out]
  have hm := HM7.out
  exact ⟨hm.1, HTB.out.trans hm.2.1 (fun _ _ f => f), fun k hk => Nat.le_trans HTB.out.size (hm.2.2 k hk)⟩

/-- What holds of numbers in their ranges. -/
theorem nums_of17 {s t u : Int} (h : numsR17 s t u = true) : ∃ a b c : Nat, s = a ∧ t = b ∧ u = c ∧ (a ≤ 4611686018427387904 ∧ b ≤ 4611686018427387904 ∧ c ≤ 4611686018427387904) ∧ 1 ≤ a ∧ b ≤ 1006633020 := by
  unfold numsR17 in17 at h
  simp only [Bool.and_eq_true, decide_eq_true_iff] at h
  obtain ⟨⟨⟨h1, h2⟩, h3, h4⟩, h5, h6⟩ := h
  exact ⟨s.toNat, t.toNat, u.toNat, by omega, by omega, by omega, by omega, by omega, by omega⟩
/-- Behind Record. -/
def Rec17 (w : World) (r : List UInt8 × Int) (e : Ending) (w' : World) : Prop := ∃ v, e = .returned (.tuple #[v, .int .i64 r.2]) ∧ Made w w' v r.1
theorem made_none17 {w w' : World} (h : Turn (fun _ => False) w w') : Made w w' (.slice none 0 0) [] := ⟨By.nil w', h, fun k hk => by cases hk⟩
set_option maxHeartbeats 8000000 in
theorem ref_rec17 (b : B17) (n : Int) (w : World) (hv : RdE EF w b.sl b.f) (hl : b.f.length ≤ 1000) (hbl : (allB b.f n).1 = 0 → (batchB b.f n.toNat).length ≤ 700000) :
    Calls Try.prog 31 #[bv17 b, .int .i64 n] w fun e w' => Rec17 w (rec17 b.p n) e w' := by
  obtain ⟨wb, hwb⟩ : ∃ wb, wb = w.alloc (.cells (bcells17 b) 52) := ⟨_, rfl⟩
  have HTB : Hid (Turn (fun _ => False) w wb) := by rw [hwb]; exact (Turn.refl _ w).alloc _
  have HC : Hid (∀ W, Turn (fun _ => False) wb W → Box W w.heap.size 52 (bcells17 b)) := fun W hW => (show Box wb w.heap.size _ _ by rw [hwb]; exact Box.new w _ _).turn hW (fun f => f)
  have HWB := Lib.hid hwb
  have hbx := HC.out wb (Turn.refl _ _)
  rw [hwb] at hbx
  have y0 := hbx.cell 0; have y1 := hbx.cell 1; have y2 := hbx.cell 2; have y3 := hbx.cell 3
  have HRT : Hid (Calls Try.prog 53 #[bv17 b, .int .i64 n] wb fun e w' => e = .returned (.bool (right17 b.p n)) ∧ Turn (fun _ => False) wb w') := ref_right17 b n wb (hv.later HTB.out) hl
  clear hbx hwb
  cases hr : right17 b.p n with
  | false =>
    have HS : Hid (rec17 b.p n = ([], 1)) := by show _ = _; unfold rec17; rw [hr]; rfl
    rw [hr] at HRT
    clear hr hv hl hbl
    go_enter Try.func31, Try.ntmps31
    go_wp2_with fail
    rw [← HWB.out]
    refine HRT.out.mono ?_
    rintro e w1 ⟨rfl, t1⟩
    have HT1 := Lib.hid (HTB.out.trans t1 (fun _ _ f => f))
    clear t1 y0 y1 y2 y3
    go_wp2
    go_ret2
    rw [HS.out]
    exact ⟨_, rfl, made_none17 HT1.out⟩
  | true =>
    have HS : Hid (rec17 b.p n = (fr (pay17 b.p n.toNat), 0)) := by show _ = _; unfold rec17; rw [hr]; rfl
    rw [hr] at HRT
    have hr2 := hr
    unfold right17 at hr2
    rw [Bool.and_eq_true, decide_eq_true_iff] at hr2
    obtain ⟨s, t, u, e1, e2, e3, e4, -, -⟩ := nums_of17 hr2.2
    have HPY : Hid (∀ W, Turn (fun _ => False) wb W → Calls Try.prog 55 #[bv17 b, .int .i64 n] W fun e w' => ∃ v, e = .returned v ∧ Made W w' v (pay17 b.p n.toNat)) := fun W hW => ref_pay17 b n s t u e1 e2 e3 e4 W ((hv.later HTB.out).later hW) hl hr2.1 (by have := hbl hr2.1; omega)
    have HLP : Hid ((pay17 b.p n.toNat).length ≤ 900000) := by
      show (enc b.seq.toNat ++ enc b.tick.toNat ++ enc b.bud.toNat ++ batchB b.f n.toNat).length ≤ _
      have := enc_len b.seq.toNat; have := enc_len b.tick.toNat; have := enc_len b.bud.toNat; have := hbl hr2.1
      simp only [List.length_append]
      omega
    clear hr hr2 e1 e2 e3 e4 hv hl hbl
    generalize pay17 b.p n.toNat = X at *
    go_enter Try.func31, Try.ntmps31
    go_wp2_with fail
    rw [← HWB.out]
    refine HRT.out.mono ?_
    rintro e w1 ⟨rfl, t1⟩
    have hb1 := HC.out w1 t1
    have z0 := hb1.cell 0; have z1 := hb1.cell 1; have z2 := hb1.cell 2; have z3 := hb1.cell 3
    have HTQ := Lib.hid t1
    clear t1 y0 y1 y2 y3 hb1
    go_wp2_with fail
    refine (HPY.out w1 HTQ.out).mono ?_
    rintro e w2 ⟨v2, rfl, hm2⟩
    obtain ⟨A2, c2, rfl⟩ := hm2.1.shape
    have HM2 := Lib.hid hm2
    clear hm2 z0 z1 z2 z3
    go_wp2_with fail
    refine (ref_frame17 _ X w2 HM2.out.1.rd HLP.out).mono ?_
    rintro e w3 ⟨v3, rfl, hm3⟩
    obtain ⟨A3, c3, rfl⟩ := hm3.1.shape
    have HM3 := Lib.hid hm3
    clear hm3
    go_wp2
    go_ret2
    rw [HS.out]
    exact ⟨_, rfl, made_behind17 ((HTB.out.trans HTQ.out (fun _ _ f => f)).trans HM2.out.2.1 (fun _ _ f => f)) HM3.out⟩

end Go.Proofs.Ytgchfckmhibeaaa

/-
  Stage 9: keys and facts held against each other by ==.
-/
namespace Go.Proofs.Ytgchfckmhibeaaa
open Go.RowKit

theorem bytes_beq9 (a b : List UInt8) : ((⟨a.toArray⟩ : ByteArray).toList == (⟨b.toArray⟩ : ByteArray).toList) = decide (a = b) := by
  rw [ByteArray.toList_eq, ByteArray.toList_eq]
  by_cases h : a = b
  · subst h; simp
  · simp [h]
theorem eq_texts9 (d : Nat) (a0 a1 a2 a3 b0 b1 b2 b3 : List UInt8) (w : World) :
    (Op.equalIn (d + 2) 72 (.agg #[sv9 a0, sv9 a1, sv9 a2, sv9 a3]) (.agg #[sv9 b0, sv9 b1, sv9 b2, sv9 b3])).run Try.prog w = .ok (decide (a0 = b0) && decide (a1 = b1) && decide (a2 = b2) && decide (a3 = b3)) w := by
  have u3 := Try.underlying9
  have a3' := Try.isAgg9
  have z3 := Try.sizeOf9
  rw [Op.equalIn]
  simp only [Sem.run_bind, run_underlying Try.underlying72, Result.andThen_ok]
  simp only [Std.Legacy.Range.forIn_eq_forIn_range', Std.Legacy.Range.size, Nat.sub_zero, Nat.add_sub_cancel, Nat.div_one, List.range'_succ, List.range'_zero, List.forIn_cons, List.forIn_nil]
  go_simp
  by_cases h0 : a0 = b0 <;> by_cases h1 : a1 = b1 <;> by_cases h2 : a2 = b2 <;> by_cases h3 : a3 = b3 <;> simp [h0, h1, h2, h3]

theorem eq_key9 (d : Nat) (p q : K9) (w : World) : (Op.equalIn (d + 3) 74 (kv9 p) (kv9 q)).run Try.prog w = .ok (decide (p = q)) w := by
  have hS : Try.prog.underlying 74 = some (.struct (Try.prog.fieldsOf 74)) := by kernel_rfl
  have hp : Try.prog.stoodInHeld 74 = false := by kernel_rfl
  have u2 := Try.underlying2
  have i2 := Try.isAgg2
  have z2 := Try.sizeOf2
  have i4 := Try.isAgg72
  have z4 := Try.sizeOf72
  have key := eq_texts9 d p.a p.b p.c p.d q.a q.b q.c q.d
  rw [run_equalIn_agg w (d + 2) 74 _ _ hS hp]
  simp only [Program.fieldsOf, Try.underlying74]
  go_simp
  obtain ⟨h, a, b, c, e⟩ := p
  obtain ⟨h', a', b', c', e'⟩ := q
  by_cases h0 : h = h' <;> by_cases h1 : a = a' <;> by_cases h2 : b = b' <;> by_cases h3 : c = c' <;> by_cases h4 : e = e' <;> simp [h0, h1, h2, h3, h4]
theorem eq_fact9 (d : Nat) (f g : F9) (w : World) : (Op.equalIn (d + 4) 76 (fv9 f) (fv9 g)).run Try.prog w = .ok (decide (f = g)) w := by
  have hS : Try.prog.underlying 76 = some (.struct (Try.prog.fieldsOf 76)) := by kernel_rfl
  have hp : Try.prog.stoodInHeld 76 = false := by kernel_rfl
  have u2 := Try.underlying2
  have i2 := Try.isAgg2
  have z2 := Try.sizeOf2
  have i4 := Try.isAgg74
  have z4 := Try.sizeOf74
  have key := eq_key9 d f.k g.k
  rw [run_equalIn_agg w (d + 3) 76 _ _ hS hp]
  simp only [Program.fieldsOf, Try.underlying76]
  go_simp
  obtain ⟨k, v⟩ := f
  obtain ⟨k', v'⟩ := g
  by_cases h0 : k = k' <;> by_cases h1 : v = v' <;> simp [h0, h1]
theorem run_neq_fact (f g : F9) (w : World) : (binOp .neq 76 (fv9 f) (fv9 g)).run Try.prog w = .ok (.bool (!decide (f = g))) w := by
  rw [run_neq_struct, show (10000 : Nat) = 9996 + 4 from rfl, eq_fact9]
  rfl
theorem run_eql_fact (f g : F9) (w : World) : (binOp .eql 76 (fv9 f) (fv9 g)).run Try.prog w = .ok (.bool (decide (f = g))) w := by
  rw [run_eql_struct, show (10000 : Nat) = 9996 + 4 from rfl, eq_fact9]
  rfl
theorem run_neq_key (p q : K9) (w : World) : (binOp .neq 74 (kv9 p) (kv9 q)).run Try.prog w = .ok (.bool (!decide (p = q))) w := by
  rw [run_neq_struct, show (10000 : Nat) = 9997 + 3 from rfl, eq_key9]
  rfl
theorem run_eql_key (p q : K9) (w : World) : (binOp .eql 74 (kv9 p) (kv9 q)).run Try.prog w = .ok (.bool (decide (p = q))) w := by
  rw [run_eql_struct, show (10000 : Nat) = 9997 + 3 from rfl, eq_key9]
  rfl
theorem guard_fact9 (op : BinOp) (x y : Operand) (f g : F9) (w : World) : (eqGuard op 76 x y (fv9 f) (fv9 g)).run Try.prog w = .ok () w := run_eqGuard_agg w op _ x y _ _ (by kernel_rfl)
theorem guard_key9 (op : BinOp) (x y : Operand) (p q : K9) (w : World) : (eqGuard op 74 x y (kv9 p) (kv9 q)).run Try.prog w = .ok () w := run_eqGuard_agg w op _ x y _ _ (by kernel_rfl)

end Go.Proofs.Ytgchfckmhibeaaa
