
/-
  Stage 9: the document's Read.
-/
import Derived.Test.YtejilonhdgfkbaaZl
import Derived.Test.YtejilonhdgfkbaaEa
namespace Go.Proofs.Ytejilonhdgfkbaa
open Go.RowKit

set_option maxRecDepth 100000

/-- The texts that are read into a key; a fact; all facts. -/
def textsK (k0 : K9) (s : RS9) : Nat → K9 × RS9
  | 0 => (k0, s)
  | i + 1 => ((textsK k0 s i).1.put i (sText (textsK k0 s i).2), sText' (textsK k0 s i).2)
def oneF (n h : Nat) (s : RS9) : F9 × RS9 := (⟨(textsK ⟨h, [], [], [], []⟩ s n).1, sInt (textsK ⟨h, [], [], [], []⟩ s n).2⟩, sNum' (textsK ⟨h, [], [], [], []⟩ s n).2)
def readR (n : Nat) : Nat → RS9 → List F9 → Int × List F9
  | 0, s, out => if s.2 ≠ 0 then ((s.2 : Int), []) else if 0 < s.1.length then (4, []) else if (allB out n).1 ≠ 0 then ((allB out n).1, []) else (0, out)
  | i + 1, s, out => if 16777216 < sNum s then (2, []) else if (oneF n (sNum s) (sNum' s)).2.2 ≠ 0 then (((oneF n (sNum s) (sNum' s)).2.2 : Int), []) else readR n i (oneF n (sNum s) (sNum' s)).2 (out ++ [(oneF n (sNum s) (sNum' s)).1])
def readB (m : List UInt8) (n : Int) : Int × List F9 := if okDims n then readR n.toNat (sCount (m, 0)) (sCount' (m, 0)) [] else (1, [])
/-- Behind Read: the facts, or none. -/
def Readed (w : World) (m : List UInt8) (n : Int) (e : Ending) (w' : World) : Prop := ∃ v, e = .returned (.tuple #[v, .int .i64 (readB m n).1]) ∧ RdE EF w' v (readB m n).2 ∧ Turn (fun _ => False) w w'

/-- A fact's cells, in the block that a round has made. -/
abbrev cells9 (k : K9) (v : Int) : Array Value := #[.int .i64 k.h, sv9 k.a, sv9 k.b, sv9 k.c, sv9 k.d, .int .i64 v]
structure In9 (w : World) (q B b : Nat) (x8 : Value) (out : List F9) (k : K9) (v : Int) (s : RS9) (W : World) : Prop where
  box : Box W b 33 (cells9 k v)
  xs : XS W q B s
  new : NewE EF 33 w W x8 out
  ob : ∀ k, x8.ownBlock = some k → k ≠ b ∧ k ≠ q
  lo : w.heap.size ≤ q ∧ w.heap.size ≤ b ∧ b ≠ q
  hB : B < w.heap.size
section
variable {w W W2 : World} {q B b : Nat} {x8 : Value} {out : List F9} {k : K9} {v : Int} {s s2 : RS9}
theorem new_over {S : Nat → Prop} (h : NewE EF 33 w W x8 out) (ht : Turn S W W2) (h1 : ∀ k, x8.ownBlock = some k → ¬ S k) (h2 : ∀ k, S k → w.heap.size ≤ k) : NewE EF 33 w W2 x8 out :=
  ⟨h.own.turn ht h1, h.new, h.turn.trans ht (fun k hk e => by have := h2 k e; omega)⟩
theorem In9.read (h : In9 w q B b x8 out k v s W) (hx : XS W2 q B s2) (ht : Turn (fun g => g = q) W W2) : In9 w q B b x8 out k v s2 W2 :=
  ⟨h.box.turn ht h.lo.2.2, hx, new_over h.new ht (fun k hk e => (h.ob k hk).2 e) (fun k e => by have := h.lo.1; omega), h.ob, h.lo, h.hB⟩
theorem In9.set (h : In9 w q B b x8 out k v s W) (i : Nat) (u : Value) {k2 : K9} {v2 : Int} (hc : (cells9 k v).setIfInBounds i u = cells9 k2 v2) : In9 w q B b x8 out k2 v2 s (W.setCell ⟨b, i, none⟩ u) := by
  have ht : Turn (fun g => g = b) W (W.setCell ⟨b, i, none⟩ u) := Turn.setCell (S := fun g => g = b) (p := ⟨b, i, none⟩) (Turn.refl _ W) (fun _ => rfl) u
  refine ⟨?_, h.xs.turn ht (fun e => h.lo.2.2 e.symm) (fun e => by have := h.lo.2.1; have := h.hB; omega), new_over h.new ht (fun k hk e => (h.ob k hk).1 e) (fun k e => by have := h.lo.2.1; omega), h.ob, h.lo, h.hB⟩
  rw [← hc]
  exact h.box.set i u
theorem put_cells9 (k : K9) (v : Int) {i : Nat} (hi : i < 4) (t : List UInt8) : (cells9 k v).setIfInBounds (1 + i) (sv9 t) = cells9 (k.put i t) v := by
  match i, hi with
  | 0, _ => rfl
  | 1, _ => rfl
  | 2, _ => rfl
  | 3, _ => rfl
end

theorem wpList_facts9 (w : World) {ops : Array Oper} {rest : List Oper} {o : Oper} {a : Act} {Q : Exit → Act → World → Prop} (hgd : o.guard = none) (s x : Operand)
    (ho : o.op = .call { callee := .builtin .append, args := #[s, x], argTypes := #[28, 28] }) (v : Value) (l : List F9) (hs : a.eval s = v) (hown : OwE EF 33 w v l)
    (y : Value) (hx : a.eval x = y) (m : List F9) (hy : RdE EF w y m) (hl : l.length + m.length ≤ 1000000)
    (h : ∀ A n c w', OwE EF 33 w' (.slice A n c) (l ++ m) → Turn (fun k => v.ownBlock = some k) w w' → ((Value.slice A n c).ownBlock = v.ownBlock ∨ (Value.slice A n c).ownBlock = some w.heap.size) → wpList Try.prog ops Q rest (a.put o.dst (.slice A n c)) w') :
    wpList Try.prog ops Q (o :: rest) a w :=
  wpList_appE Try.underlying28 fact_info fact_zero w hgd s x _ ho v l hs hown y hx m (hy.src Try.underlying28) (by simp only [maxLen]; omega) (by omega) h

set_option maxHeartbeats 8000000 in
theorem ref_read9 (u : Value) (m : List UInt8) (n : Int) (w : World) (hv : Rd w u m) (hB : ∀ g, u.ownBlock = some g → g < w.heap.size) : Calls Try.prog 27 #[u, .int .i64 n] w fun e w' => Readed w m n e w' := by
  obtain ⟨A, c, rfl⟩ := hv.shape
  by_cases hn : 1 ≤ n ∧ n ≤ 4
  · obtain ⟨n1, n4⟩ := hn
    obtain ⟨N, rfl⟩ := Int.eq_ofNat_of_zero_le (show 0 ≤ n by omega)
    obtain ⟨B, hBl, hx⟩ := XS.new hv hB
    have HX := Lib.hid hx
    have HBL := Lib.hid hBl
    have HSPEC : Hid (readB m (N : Int) = readR N (sCount (m, 0)) (sCount' (m, 0)) []) := by
      have e : okDims (N : Int) = true := by unfold okDims; simp [n1, n4]
      show readB m (N : Int) = _
      unfold readB
      rw [e, Int.toNat_natCast]
      rfl
    have hC50 : sCount (m, 0) ≤ 50 := by
      unfold sCount rdCount
      simp only [if_true]
      split
      · exact Nat.zero_le _
      · split
        · exact Nat.zero_le _
        · omega
    have HCM : Hid (0 < sCount (m, 0) → m ≠ []) := fun h e => by rw [e] at h; exact absurd h (by decide)
    have hN4 : N ≤ 4 := by omega
    clear hx hBl hB hv
    go_enter Try.func27, Try.ntmps27
    go_wp2_with fail
    refine (xs_count HX.out).mono ?_
    rintro e w2 ⟨rfl, h2, t2⟩
    generalize sCount (m, 0) = C at *
    generalize sCount' (m, 0) = s0 at *
    have H2 := Lib.hid h2
    have HN0 : Hid (NewE EF 33 w w2 (.slice none 0 0) []) := ⟨OwE.nil _, (fun k e => by simp [Value.ownBlock] at e), ((Turn.refl _ w).alloc _).trans t2 (fun k hk e => by omega)⟩
    clear h2 t2
    go_wp2_with fail
    generalize hq : w.heap.size = q at *
    go_loopw [8, 9] (fun x8 x9 wr => ∃ i s out, x9 = .int .i64 ((i : Nat) : Int) ∧ i ≤ C ∧ out.length = i ∧ NewE EF 33 w wr x8 out ∧ XS wr q B s ∧ readB m (N : Int) = readR N (C - i) s out) (fun _ x9 _ => C - (intOf x9).toNat)
    case atStart => exact ⟨0, s0, [], rfl, Nat.zero_le _, rfl, HN0.out, H2.out, HSPEC.out⟩
    case round =>
      obtain ⟨i, s, out, rfl, hi, ho, hnew, hxs, hsp⟩ := hrel
      have HNW := Lib.hid hnew
      have HXS := Lib.hid hxs
      have HSP := Lib.hid hsp
      obtain ⟨A8, c8, hv8⟩ := hnew.own.shape
      rw [ho] at hv8
      subst hv8
      have HO := Lib.hid ho
      clear hnew hxs hsp ho
      by_cases hlt : i < C
      · have hil : (i : Int) < C := by omega
        have HBW : Hid (B < q) := HBL.out (HCM.out (by omega))
        go_wp2_with fail
        refine (xs_num HXS.out).mono ?_
        rintro e w3 ⟨rfl, h3, t3⟩
        have H3 := Lib.hid h3
        have HT3 := Lib.hid t3
        clear h3 t3
        by_cases hbig : 16777216 < sNum s
        · have HE : Hid (readB m (N : Int) = (2, [])) := by
            rw [HSP.out, show C - i = (C - (i + 1)) + 1 by omega]
            show readR _ _ _ _ = _
            unfold readR
            rw [if_pos hbig]
          go_wp2
          go_ret2
          exact ⟨.slice none 0 0, by rw [HE.out]; rfl, by rw [HE.out]; exact RdE.nil _, HNW.out.turn.trans HT3.out (fun k hk e => by omega)⟩
        · have hbig' : ((sNum s : Nat) : Int) ≤ 16777216 := by omega
          have HNB := Lib.hid hbig
          go_wp2_with fail
          have hin : In9 w q B w3.heap.size (.slice A8 i c8) out ⟨(sNum s : Int), [], [], [], []⟩ 0 (sNum' s) (w3.alloc (.cells #[.int .i64 (sNum s : Int), .string ⟨#[]⟩, .string ⟨#[]⟩, .string ⟨#[]⟩, .string ⟨#[]⟩, .int .i64 0] 33)) := by
            have ht3a := (Turn.refl (fun _ => False) w3).alloc (.cells #[.int .i64 (sNum s : Int), .string ⟨#[]⟩, .string ⟨#[]⟩, .string ⟨#[]⟩, .string ⟨#[]⟩, .int .i64 0] 33)
            obtain ⟨AX, cX, hX⟩ := HXS.out
            have hnq : ∀ k, (Value.slice A8 i c8).ownBlock = some k → k ≠ q := fun k hk e => HNW.out.own.not_box hX.1 (by decide) (e ▸ hk)
            have hq3 : q < w3.heap.size := Nat.lt_of_lt_of_le hX.1.lt HT3.out.size
            refine ⟨Box.new w3 _ _, H3.out.later ht3a, (new_over HNW.out HT3.out hnq (fun k e => by omega)).later ht3a, fun k hk => ⟨?_, hnq k hk⟩, ⟨by omega, ?_, by omega⟩, by rw [hq]; exact HBW.out⟩
            · have := HNW.out.own.lt hk
              have := HT3.out.size
              omega
            · have := HNW.out.turn.size
              have := HT3.out.size
              omega
          generalize hb : w3.heap.size = b at *
          generalize w3.alloc (.cells #[.int .i64 (sNum s : Int), .string ⟨#[]⟩, .string ⟨#[]⟩, .string ⟨#[]⟩, .string ⟨#[]⟩, .int .i64 0] 33) = w4 at *
          have HIN := Lib.hid hin
          clear hin hb H3 HT3
          go_loopw [12] (fun x12 wk => ∃ k : Nat, x12 = .int .i64 (k : Int) ∧ k ≤ N ∧ In9 w q B b (.slice A8 i c8) out (textsK ⟨(sNum s : Int), [], [], [], []⟩ (sNum' s) k).1 0 (textsK ⟨(sNum s : Int), [], [], [], []⟩ (sNum' s) k).2 wk) (fun x12 _ => N - (intOf x12).toNat)
          case atStart => exact ⟨0, rfl, Nat.zero_le _, HIN.out⟩
          case round =>
            clear HIN
            obtain ⟨k, rfl, hk, hm⟩ := hrel
            have HM := Lib.hid hm
            clear hm
            by_cases hkN : k < N
            · have hki : (k : Int) < N := by omega
              have hk4 : (k : Int) < 4 := by omega
              have HST : Hid (textsK ⟨(sNum s : Int), [], [], [], []⟩ (sNum' s) (k + 1) = ((textsK ⟨(sNum s : Int), [], [], [], []⟩ (sNum' s) k).1.put k (sText (textsK ⟨(sNum s : Int), [], [], [], []⟩ (sNum' s) k).2), sText' (textsK ⟨(sNum s : Int), [], [], [], []⟩ (sNum' s) k).2)) := rfl
              generalize textsK ⟨(sNum s : Int), [], [], [], []⟩ (sNum' s) k = kk at *
              go_wp2_with fail
              refine (xs_text HM.out.xs).mono ?_
              rintro e w5 ⟨rfl, h5, t5⟩
              have hm5 := HM.out.read h5 t5
              have HM5 := Lib.hid hm5
              have e1 := dim_cell (o := 1) (k := kk.1) hm5.box (fact_cells (f := ⟨kk.1, 0⟩)) k (by omega)
              have f1 := hm5.box.free (1 + k)
              unfold sv9 at e1
              clear h5 t5 hm5
              have hm6 := HM5.out.set (1 + k) (sv9 (sText kk.2)) (put_cells9 kk.1 0 (by omega) (sText kk.2))
              have HM6 := Lib.hid hm6
              clear hm6
              generalize sText kk.2 = T at *
              go_wp2_with fail
              go_roundw
              case rel => exact ⟨k + 1, by go_num, hkN, by rw [HST.out]; exact HM6.out⟩
              case measure => simp [intOf]; omega
            · obtain rfl : k = N := by omega
              have HONE : Hid (oneF k (sNum s) (sNum' s) = (⟨(textsK ⟨(sNum s : Int), [], [], [], []⟩ (sNum' s) k).1, sInt (textsK ⟨(sNum s : Int), [], [], [], []⟩ (sNum' s) k).2⟩, sNum' (textsK ⟨(sNum s : Int), [], [], [], []⟩ (sNum' s) k).2)) := rfl
              have HNX : Hid (readB m (k : Int) = if (oneF k (sNum s) (sNum' s)).2.2 ≠ 0 then (((oneF k (sNum s) (sNum' s)).2.2 : Int), []) else readR k (C - (i + 1)) (oneF k (sNum s) (sNum' s)).2 (out ++ [(oneF k (sNum s) (sNum' s)).1])) := by
                rw [HSP.out, show C - i = (C - (i + 1)) + 1 by omega]
                show readR _ _ _ _ = _
                conv => lhs; unfold readR
                rw [if_neg HNB.out]
              rw [HONE.out] at HNX
              clear HONE HSP
              generalize textsK ⟨(sNum s : Int), [], [], [], []⟩ (sNum' s) k = kk at *
              go_wp2_with fail
              refine (xs_int HM.out.xs).mono ?_
              rintro e w5 ⟨rfl, h5, t5⟩
              have hm5 := HM.out.read h5 t5
              have f1 := hm5.box.free 5
              have e1 := hm5.box.cell 5
              have HM5 := Lib.hid hm5
              clear h5 t5 hm5
              generalize sInt kk.2 = V at *
              have hm6 := HM5.out.set 5 (.int .i64 V) (k2 := kk.1) (v2 := V) rfl
              have HM6 := Lib.hid hm6
              have e6 := hm6.xs.fault
              have b0 := hm6.box.cell 0
              have b1 := hm6.box.cell 1
              have b2 := hm6.box.cell 2
              have b3 := hm6.box.cell 3
              have b4 := hm6.box.cell 4
              have b5 := hm6.box.cell 5
              clear hm6
              by_cases hf : (sNum' kk.2).2 = 0
              · have HNX2 : Hid (readB m (k : Int) = readR k (C - (i + 1)) (sNum' kk.2) (out ++ [⟨kk.1, V⟩])) := HNX.out.trans (if_neg (by simp [hf]))
                rw [hf] at e6
                have hn7 := HM6.out.new.alloc (.cells #[.int .i64 kk.1.h, sv9 kk.1.a, sv9 kk.1.b, sv9 kk.1.c, sv9 kk.1.d, .int .i64 V] 33)
                have HN7 := Lib.hid hn7
                have hxs7 := HM6.out.xs.later ((Turn.refl (fun _ => False) (w5.setCell ⟨b, 5, none⟩ (.int .i64 V))).alloc (.cells #[.int .i64 kk.1.h, sv9 kk.1.a, sv9 kk.1.b, sv9 kk.1.c, sv9 kk.1.d, .int .i64 V] 33))
                have HXS7 := Lib.hid hxs7
                have hsr := one_row EF 33 (w5.setCell ⟨b, 5, none⟩ (.int .i64 V)) ⟨kk.1, V⟩
                rw [show (w5.setCell ⟨b, 5, none⟩ (.int .i64 V)).heap.size = w5.heap.size by simp [World.setCell]] at hsr
                have HSR := Lib.hid hsr
                clear hsr
                have HLO : Hid (∀ g, (Value.slice A8 i c8).ownBlock = some g → g ≠ q ∧ g ≠ B) := fun g hg => ⟨(HM6.out.ob g hg).2, fun e => by have := HM6.out.new.new g hg; have := HBW.out; omega⟩
                have ho := HO.out
                clear hn7 hxs7
                go_wp2_with (at_builtin; refine wpList_facts9 _ rfl _ _ rfl _ _ rfl HN7.out.own _ rfl [⟨kk.1, V⟩] HSR.out (by simp only [List.length_cons, List.length_nil]; omega) ?_; intro A3 n3 c3 w7 ho7 ht7 hn7; have HN8 := Lib.hid (HN7.out.step ho7 ht7 hn7); have HX8 := Lib.hid (HXS7.out.turn ht7 (fun e => (HLO.out _ e).1 rfl) (fun e => (HLO.out _ e).2 rfl)); clear ho7 ht7 hn7)
                go_roundw
                case rel => exact ⟨i + 1, _, _, by go_num, hlt, by rw [List.length_append, HO.out]; rfl, HN8.out, HX8.out, HNX2.out⟩
                case measure => simp [intOf]; omega
              · have HNX2 : Hid (readB m (k : Int) = (((sNum' kk.2).2 : Int), [])) := HNX.out.trans (if_pos hf)
                have hf2 : (((sNum' kk.2).2 : Int) == 0) = false := by rw [beq_eq_false_iff_ne]; omega
                have HTF : Hid (Turn (fun _ => False) w (w5.setCell ⟨b, 5, none⟩ (.int .i64 V))) := HM6.out.new.turn
                go_wp2_with fail
                go_quiet (fail)
                go_wp2
                go_ret2
                exact ⟨.slice none 0 0, by rw [HNX2.out]; rfl, by rw [HNX2.out]; exact RdE.nil _, HTF.out.drewN _⟩
      · obtain rfl : i = C := by omega
        have hnd : readB m (N : Int) = if s.2 ≠ 0 then ((s.2 : Int), []) else if 0 < s.1.length then (4, []) else if (allB out N).1 ≠ 0 then ((allB out N).1, []) else (0, out) := by
          rw [HSP.out, Nat.sub_self]
          rfl
        have HALL := Lib.hid (ref_all9 (.slice A8 i c8) out (N : Int) wr HNW.out.own.rd (by rw [HO.out]; omega))
        have e1 := HXS.out.fault
        obtain ⟨AL, cL, e0⟩ := HXS.out.left
        clear HSP
        by_cases hf : s.2 = 0
        · rw [if_neg (by simp [hf])] at hnd
          rw [hf] at e1
          by_cases hlen : 0 < s.1.length
          · rw [if_pos hlen] at hnd
            have HND := Lib.hid hnd
            have hli : (0 : Int) < s.1.length := by omega
            clear hnd
            go_wp2
            go_ret2
            exact ⟨.slice none 0 0, by rw [HND.out]; rfl, by rw [HND.out]; exact RdE.nil _, HNW.out.turn⟩
          · rw [if_neg hlen] at hnd
            have hl0 : s.1.length = 0 := by omega
            have HND := Lib.hid hnd
            rw [hl0] at e0
            clear hnd hlen
            by_cases ha : (allB out N).1 = 0
            · have hag := (all_good ha).2.2.2
              unfold allV at HALL
              rw [hag] at HALL HND
              clear ha hag
              go_wp2_with fail
              refine HALL.out.mono ?_
              rintro e w9 ⟨rfl, t9⟩
              have HT9 := Lib.hid t9
              clear t9
              have HFIN : Hid (readB m (N : Int) = (0, out)) := HND.out
              have HRD : Hid (RdE EF w9 (.slice A8 i c8) out) := HNW.out.own.rd.later HT9.out
              have HTF : Hid (Turn (fun _ => False) w w9) := HNW.out.turn.trans HT9.out (fun _ _ f => f)
              go_wp2
              go_ret2
              exact ⟨.slice A8 i c8, by rw [HFIN.out]; rfl, by rw [HFIN.out]; exact HRD.out, HTF.out⟩
            · have HFIN : Hid (readB m (N : Int) = ((allB out N).1, [])) := HND.out.trans (if_pos ha)
              have hne : ((allB out N).1 == 0) = false := by simpa using ha
              unfold allV at HALL
              clear ha HND
              generalize (allB out N).1 = a at *
              generalize (allB out N).2 = b at *
              go_wp2_with fail
              refine HALL.out.mono ?_
              rintro e w9 ⟨rfl, t9⟩
              have HTF : Hid (Turn (fun _ => False) w w9) := HNW.out.turn.trans t9 (fun _ _ f => f)
              clear t9
              go_wp2
              go_ret2
              exact ⟨.slice none 0 0, by rw [HFIN.out]; rfl, by rw [HFIN.out]; exact RdE.nil _, HTF.out⟩
        · rw [if_pos hf] at hnd
          have HND := Lib.hid hnd
          have hf2 : ((s.2 : Int) == 0) = false := by rw [beq_eq_false_iff_ne]; omega
          clear hnd
          go_wp2_with fail
          go_quiet (fail)
          go_wp2
          go_ret2
          exact ⟨.slice none 0 0, by rw [HND.out]; rfl, by rw [HND.out]; exact RdE.nil _, HNW.out.turn.drewN _⟩
  · have e : readB m n = (1, []) := by
      unfold readB
      rw [if_neg (by unfold okDims; simpa using hn)]
    have HE := Lib.hid e
    clear e hv hB
    by_cases n1 : n < 1
    · clear hn
      go_enter Try.func27, Try.ntmps27
      go_wp2_with fail
      go_ret2
      exact ⟨.slice none 0 0, by rw [HE.out]; rfl, by rw [HE.out]; exact RdE.nil _, Turn.refl _ w⟩
    · have n2 : 4 < n := by omega
      clear hn
      go_enter Try.func27, Try.ntmps27
      go_wp2_with fail
      go_ret2
      exact ⟨.slice none 0 0, by rw [HE.out]; rfl, by rw [HE.out]; exact RdE.nil _, Turn.refl _ w⟩

end Go.Proofs.Ytejilonhdgfkbaa
