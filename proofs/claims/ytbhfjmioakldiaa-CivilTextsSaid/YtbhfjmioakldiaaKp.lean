
/-
  The numbers of a text, by the program.
-/
import Derived.Test.YtbhfjmioakldiaaKn
import Derived.Test.YtbhfjmioakldiaaKi
import Derived.Laws.ResultCell
import Derived.Deep.RegionWith
namespace Go.Proofs.Ytbhfjmioakldiaa
open Go.RowKit

def iv (n : Nat) : Value := .int .i64 (n : Int)
/-- Behind the reading of a text's numbers. -/
def PNum (l : List UInt8) (w : World) (e : Ending) (w' : World) : Prop :=
  ∃ (a b c d : Nat) (o : Bool), e = .returned (.tuple #[.agg #[.int .i64 (a : Int), .int .i64 (b : Int), .int .i64 (c : Int), .int .i64 (d : Int)], .bool o]) ∧ (o = true → l.length = 13 ∧ fits l 13 = true ∧ vals l 13 = [a, b, c, d]) ∧
    (o = false → ¬ (l.length = 13 ∧ fits l 13 = true)) ∧ Turn (fun _ => False) w w'

/-- The first k places have the form. -/
def okTo (l : List UInt8) (k : Nat) : Prop := ∀ j, j < k → okc (l.getD j 0) (formL.getD j 0) = true
theorem okTo_succ {l : List UInt8} {k : Nat} (h : okTo l k) (g : okc (l.getD k 0) (formL.getD k 0) = true) : okTo l (k + 1) := fun j hj => by
  rcases Nat.lt_or_ge j k with c | c
  · exact h j c
  · obtain rfl : j = k := by omega
    exact g
theorem fits_okTo {l : List UInt8} (h : l.length = 13) : fits l 13 = true ↔ okTo l 13 := by
  obtain ⟨a, b, c, d, e, f, g, i, j, k, m, n, o, rfl⟩ := thirteen h
  have e1 : fits [a, b, c, d, e, f, g, i, j, k, m, n, o] 13 = (isd a && (isd b && (isd c && (isd d && ((e == 45) && (isd f && (isd g && ((i == 45) && (isd j && (isd k && ((m == 84) && (isd n && (isd o && true))))))))))))) := rfl
  rw [e1]
  simp only [Bool.and_true, Bool.and_eq_true]
  constructor
  · rintro ⟨h0, h1, h2, h3, h4, h5, h6, h7, h8, h9, h10, h11, h12⟩ x hx
    match x, hx with
    | 0, _ => exact h0
    | 1, _ => exact h1
    | 2, _ => exact h2
    | 3, _ => exact h3
    | 4, _ => exact h4
    | 5, _ => exact h5
    | 6, _ => exact h6
    | 7, _ => exact h7
    | 8, _ => exact h8
    | 9, _ => exact h9
    | 10, _ => exact h10
    | 11, _ => exact h11
    | 12, _ => exact h12
    | x + 13, hx => omega
  · intro h
    exact ⟨h 0 (by omega), h 1 (by omega), h 2 (by omega), h 3 (by omega), h 4 (by omega), h 5 (by omega), h 6 (by omega), h 7 (by omega), h 8 (by omega), h 9 (by omega), h 10 (by omega), h 11 (by omega), h 12 (by omega)⟩
theorem fld_step : ∀ k, k < 13 → (formL.getD k 0 = 48 → fld (k + 1) = fld k ∧ fld k ≤ 3) ∧ (formL.getD k 0 ≠ 48 → fld (k + 1) = fld k + 1) := by decide
theorem vals_len (l : List UInt8) : ∀ k, (vals l k).length = 4
  | 0 => rfl
  | k + 1 => by
    unfold vals
    split
    · rw [List.length_set]
      exact vals_len l k
    · exact vals_len l k
theorem vals_dig {l : List UInt8} {k : Nat} (h : formL.getD k 0 = 48) : vals l (k + 1) = (vals l k).set (fld k) (10 * (vals l k).getD (fld k) 0 + ((l.getD k 0).toNat - 48)) := by
  conv => lhs; unfold vals
  rw [if_pos h]
theorem vals_mark {l : List UInt8} {k : Nat} (h : formL.getD k 0 ≠ 48) : vals l (k + 1) = vals l k := by
  conv => lhs; unfold vals
  rw [if_neg h]
theorem four {v : List Nat} (h : v.length = 4) : ∃ a b c d, v = [a, b, c, d] := by
  match v, h with
  | [a, b, c, d], _ => exact ⟨a, b, c, d, rfl⟩

/-- The numbers so far, in memory. -/
structure NS (w wr : World) (l : List UInt8) (k : Nat) : Prop where
  row : Box wr (w.heap.size + 1) 40 ((vals l k).map iv).toArray
  out : Box wr w.heap.size 40 #[iv 0, iv 0, iv 0, iv 0]
  turn : Turn (fun _ => False) w wr
  small : ∀ i, (vals l k).getD i 0 < 10 ^ k
theorem ns_start (w : World) (l : List UInt8) : NS w ((w.alloc (.cells #[iv 0, iv 0, iv 0, iv 0] 40)).alloc (.cells #[iv 0, iv 0, iv 0, iv 0] 40)) l 0 := by
  refine ⟨?_, (Box.new w _ _).alloc _, ((Turn.refl _ w).alloc _).alloc _, fun i => ?_⟩
  · have h := Box.new (w.alloc (.cells #[iv 0, iv 0, iv 0, iv 0] 40)) 40 #[iv 0, iv 0, iv 0, iv 0]
    rw [show (w.alloc (.cells #[iv 0, iv 0, iv 0, iv 0] 40)).heap.size = w.heap.size + 1 by simp] at h
    exact h
  · match i with
    | 0 | 1 | 2 | 3 => show (0 : Nat) < 1; omega
    | i + 4 => show (0 : Nat) < 1; omega
theorem NS.drewN {w wr : World} {l : List UInt8} {k : Nat} (h : NS w wr l k) (n : Nat) : NS w (wr.drewN n) l k :=
  ⟨h.row.turn ((Turn.refl (fun _ => False) wr).drewN n) (fun f => f), h.out.turn ((Turn.refl (fun _ => False) wr).drewN n) (fun f => f), h.turn.drewN n, h.small⟩
theorem ns_dig {w wr : World} {l : List UInt8} {k f x : Nat} {c : UInt8} {z : Int} (h : NS w wr l k) (h48 : formL.getD k 0 = 48) (hf : fld k = f) (hc : l.getD k 0 = c) (hx : (vals l k).getD f 0 = x) (hz : z = (10 * x + (c.toNat - 48) : Nat)) (h2 : c.toNat ≤ 57) :
    NS w (wr.setCell ⟨w.heap.size + 1, f, none⟩ (.int .i64 z)) l (k + 1) := by
  have e := vals_dig (l := l) h48
  rw [hf, hc, hx] at e
  subst hz
  refine ⟨?_, ?_, h.turn.setCell (fun g => by simp at g; omega) _, fun i => ?_⟩
  · rw [e, List.map_set]
    have := h.row.set f (iv (10 * x + (c.toNat - 48)))
    rw [List.setIfInBounds_toArray] at this
    exact this
  · exact h.out.far (by show w.heap.size ≠ w.heap.size + 1; omega) _
  · rw [e, Nat.pow_succ]
    have a := h.small i
    have b := h.small f
    rw [hx] at b
    rw [List.getD_eq_getElem?_getD, List.getElem?_set]
    split
    · split
      · show 10 * x + (c.toNat - 48) < _
        omega
      · show 0 < _
        omega
    · rw [← List.getD_eq_getElem?_getD]
      omega
theorem ns_mark {w wr : World} {l : List UInt8} {k : Nat} (h : NS w wr l k) (h48 : formL.getD k 0 ≠ 48) : NS w wr l (k + 1) := by
  refine ⟨?_, h.out, h.turn, fun i => ?_⟩
  · rw [vals_mark h48]
    exact h.row
  · rw [vals_mark h48, Nat.pow_succ]
    have := h.small i
    omega
theorem ns_cells {w wr : World} {l : List UInt8} {k : Nat} (h : NS w wr l k) : ∃ a b c d : Nat, vals l k = [a, b, c, d] ∧
    (wr.cell? ⟨w.heap.size + 1, 0, none⟩ = some (.int .i64 a) ∧ wr.cell? ⟨w.heap.size + 1, 1, none⟩ = some (.int .i64 b) ∧ wr.cell? ⟨w.heap.size + 1, 2, none⟩ = some (.int .i64 c) ∧ wr.cell? ⟨w.heap.size + 1, 3, none⟩ = some (.int .i64 d)) ∧
    (wr.cell? ⟨w.heap.size, 0, none⟩ = some (.int .i64 0) ∧ wr.cell? ⟨w.heap.size, 1, none⟩ = some (.int .i64 0) ∧ wr.cell? ⟨w.heap.size, 2, none⟩ = some (.int .i64 0) ∧ wr.cell? ⟨w.heap.size, 3, none⟩ = some (.int .i64 0)) ∧
    (wr.frozen? ⟨w.heap.size, 0, none⟩ = false ∧ wr.frozen? ⟨w.heap.size, 1, none⟩ = false ∧ wr.frozen? ⟨w.heap.size, 2, none⟩ = false ∧ wr.frozen? ⟨w.heap.size, 3, none⟩ = false) := by
  obtain ⟨a, b, c, d, e⟩ := four (vals_len l k)
  have h1 := h.row
  rw [e] at h1
  exact ⟨a, b, c, d, e, ⟨h1.cell 0, h1.cell 1, h1.cell 2, h1.cell 3⟩, ⟨h.out.cell 0, h.out.cell 1, h.out.cell 2, h.out.cell 3⟩, ⟨h.out.free 0, h.out.free 1, h.out.free 2, h.out.free 3⟩⟩
theorem ns_turn {w wr : World} {l : List UInt8} {k : Nat} (h : NS w wr l k) (n : Nat) (a b c d : Value) :
    Turn (fun _ => False) w (((((wr.drewN n).setCell ⟨w.heap.size, 0, none⟩ a).setCell ⟨w.heap.size, 1, none⟩ b).setCell ⟨w.heap.size, 2, none⟩ c).setCell ⟨w.heap.size, 3, none⟩ d) :=
  ((((h.turn.drewN n).setCell (fun g => absurd g (Nat.lt_irrefl _)) _).setCell (fun g => absurd g (Nat.lt_irrefl _)) _).setCell (fun g => absurd g (Nat.lt_irrefl _)) _).setCell (fun g => absurd g (Nat.lt_irrefl _)) _
theorem pnum_no {l : List UInt8} {w w' : World} {k a b c d : Nat} (hk : k < 13) (h : ¬ okc (l.getD k 0) (formL.getD k 0) = true) (ht : Turn (fun _ => False) w w') :
    PNum l w (.returned (.tuple #[.agg #[.int .i64 (a : Int), .int .i64 (b : Int), .int .i64 (c : Int), .int .i64 (d : Int)], .bool false])) w' :=
  ⟨a, b, c, d, false, rfl, (fun e => by cases e), (fun _ g => h ((fits_okTo g.1).1 g.2 k hk)), ht⟩
theorem pow_small {k : Nat} (h : k ≤ 13) : 10 ^ k ≤ 10000000000000 := Nat.pow_le_pow_right (n := 10) (by omega) h

set_option maxRecDepth 100000 in
set_option maxHeartbeats 2000000 in
theorem numbers_any (l : List UInt8) (w : World) (hl : l.length ≤ 100) :
    Calls Try.prog 31 #[.string ⟨l.toArray⟩] w (PNum l w) := by
  have hsz : ByteArray.size ⟨l.toArray⟩ = l.length := str_len l
  by_cases h13 : l.length = 13
  · go_enter Try.func31, Try.ntmps31
    go_wp2
    go_step3
    go_wp2
    go_step3
    go_wp2
    go_loopw [5, 6, 13] (fun x5 x6 x13 wr => ∃ k : Nat, x5 = .int .i64 k ∧ x6 = .int .i64 (fld k) ∧ x13 = .int .i64 k ∧ k ≤ 13 ∧ okTo l k ∧ NS w wr l k) (fun _ _ x13 _ => 13 - (intOf x13).toNat)
    case atStart => exact ⟨0, rfl, rfl, rfl, by omega, fun j hj => by omega, ns_start w l⟩
    case round =>
      obtain ⟨k, rfl, rfl, rfl, hk, hok, hns⟩ := hrel
      have HOK := Lib.hid hok; clear hok
      have HNS := Lib.hid hns; clear hns
      by_cases hlt : k < 13
      · obtain ⟨c, hc⟩ : ∃ c, l[k]? = some c := ⟨_, List.getElem?_eq_getElem (by omega)⟩
        obtain ⟨f, hf⟩ : ∃ f, formL[k]? = some f := ⟨_, List.getElem?_eq_getElem (by show k < 13; exact hlt)⟩
        have ec : (⟨l.toArray⟩ : ByteArray)[k]'(by rw [hsz]; omega) = c := str_at hc (by rw [hsz]; omega)
        have ef : (⟨#[48, 48, 48, 48, 45, 48, 48, 45, 48, 48, 84, 48, 48]⟩ : ByteArray)[k]'(by show k < 13; exact hlt) = f := str_at (l := formL) hf (by show k < 13; exact hlt)
        have Hc : Hid (l.getD k 0 = c) := by show _ = _; rw [List.getD_eq_getElem?_getD, hc]; rfl
        have Hf : Hid (formL.getD k 0 = f) := by show _ = _; rw [List.getD_eq_getElem?_getD, hf]; rfl
        clear hc hf
        by_cases h48 : f = 48
        · subst h48
          obtain ⟨fs, fb⟩ := (fld_step k hlt).1 Hf.out
          have FS := Lib.hid fs; clear fs
          obtain ⟨x, hx⟩ : ∃ x, (vals l k).getD (fld k) 0 = x := ⟨_, rfl⟩
          have bx : x < 10000000000000 := by have := HNS.out.small (fld k); have := pow_small (k := k) (by omega); omega
          have hcell : wr.cell? ⟨w.heap.size + 1, fld k, none⟩ = some (.int .i64 x) := by
            rw [HNS.out.row.cell, List.getElem?_toArray, List.getElem?_map, ← hx, List.getD_eq_getElem?_getD, List.getElem?_eq_getElem (by rw [vals_len]; omega)]
            rfl
          have hfree := HNS.out.row.free (fld k)
          have HX := Lib.hid hx; clear hx
          generalize hj : fld k = f at *
          have HJ := Lib.hid hj; clear hj
          by_cases h1 : 48 ≤ c.toNat
          · by_cases h2 : c.toNat ≤ 57
            · go_wp2
              go_region
              go_wp2
              go_roundw
              case rel => exact ⟨k + 1, by go_num, i64_eq (by rw [FS.out]), by go_num, by omega, okTo_succ HOK.out (by rw [Hf.out, Hc.out]; unfold okc isd; simp; omega), (ns_dig HNS.out Hf.out HJ.out Hc.out HX.out (by omega) h2).drewN 1⟩
              case measure => simp [intOf]; omega
            · obtain ⟨a, b, cc, d, hv, ⟨n0, n1, n2, n3⟩, ⟨o0, o1, o2, o3⟩, ⟨g0, g1, g2, g3⟩⟩ := ns_cells HNS.out
              have HV := Lib.hid hv; clear hv
              clear hcell hfree
              have hk13 : ((k : Int) == 13) = false := by rw [beq_eq_false_iff_ne]; omega
              go_wp2
              go_quiet (fail)
              go_wp2
              rw [Exit.noGoto_ret]
              refine bodyPost_ret (v := .tuple #[.agg #[.int .i64 a, .int .i64 b, .int .i64 cc, .int .i64 d], .bool false]) ?_ rfl (pnum_no hlt (by rw [Hf.out, Hc.out]; unfold okc isd; simp; omega) (ns_turn HNS.out _ _ _ _ _))
              rw [results_cell_tmp rfl]
              go_simp
          · obtain ⟨a, b, cc, d, hv, ⟨n0, n1, n2, n3⟩, ⟨o0, o1, o2, o3⟩, ⟨g0, g1, g2, g3⟩⟩ := ns_cells HNS.out
            have HV := Lib.hid hv; clear hv
            clear hcell hfree
            have hk13 : ((k : Int) == 13) = false := by rw [beq_eq_false_iff_ne]; omega
            go_wp2
            go_quiet (fail)
            go_wp2
            rw [Exit.noGoto_ret]
            refine bodyPost_ret (v := .tuple #[.agg #[.int .i64 a, .int .i64 b, .int .i64 cc, .int .i64 d], .bool false]) ?_ rfl (pnum_no hlt (by rw [Hf.out, Hc.out]; unfold okc isd; simp; omega) (ns_turn HNS.out _ _ _ _ _))
            rw [results_cell_tmp rfl]
            go_simp
        · have hfn : ((f.toNat : Int) == 48) = false := by
            rw [beq_eq_false_iff_ne]
            intro e
            exact h48 (UInt8.toNat_inj.1 (by show f.toNat = 48; omega))
          have hm := (fld_step k hlt).2 (by rw [Hf.out]; exact h48)
          by_cases hcf : c = f
          · subst hcf
            have hk2 : fld k ≤ 13 := by
              have : ∀ k, k < 13 → fld k ≤ 13 := by decide
              exact this k hlt
            have HM := Lib.hid hm
            clear hm
            generalize hj : fld k = j at *
            go_wp2
            go_quiet (fail)
            go_wp2
            go_roundw
            case rel => exact ⟨k + 1, by go_num, i64_eq (by rw [HM.out]; omega), by go_num, by omega, okTo_succ HOK.out (by rw [Hf.out, Hc.out]; unfold okc; rw [if_neg h48]; simp), (ns_mark HNS.out (by rw [Hf.out]; exact h48)).drewN _⟩
            case measure => simp [intOf]; omega
          · have hcfn : ((c.toNat : Int) == (f.toNat : Int)) = false := by
              rw [beq_eq_false_iff_ne]
              intro e
              exact hcf (UInt8.toNat_inj.1 (by omega))
            obtain ⟨a, b, cc, d, hv, ⟨n0, n1, n2, n3⟩, ⟨o0, o1, o2, o3⟩, ⟨g0, g1, g2, g3⟩⟩ := ns_cells HNS.out
            have HV := Lib.hid hv; clear hv
            clear hm
            have hk13 : ((k : Int) == 13) = false := by rw [beq_eq_false_iff_ne]; omega
            go_wp2
            go_quiet (fail)
            go_wp2
            rw [Exit.noGoto_ret]
            refine bodyPost_ret (v := .tuple #[.agg #[.int .i64 a, .int .i64 b, .int .i64 cc, .int .i64 d], .bool false]) ?_ rfl (pnum_no hlt (by rw [Hf.out, Hc.out]; unfold okc; rw [if_neg h48]; simp [hcf]) (ns_turn HNS.out _ _ _ _ _))
            rw [results_cell_tmp rfl]
            go_simp
      · obtain rfl : k = 13 := by omega
        obtain ⟨a, b, cc, d, hv, ⟨n0, n1, n2, n3⟩, ⟨o0, o1, o2, o3⟩, ⟨g0, g1, g2, g3⟩⟩ := ns_cells HNS.out
        have HV := Lib.hid hv; clear hv
        go_wp2
        rw [Exit.noGoto_ret]
        refine bodyPost_ret (v := .tuple #[.agg #[.int .i64 a, .int .i64 b, .int .i64 cc, .int .i64 d], .bool true]) ?_ rfl ⟨a, b, cc, d, true, rfl, (fun _ => ⟨h13, (fits_okTo h13).2 HOK.out, HV.out⟩), (fun h => by cases h), ns_turn HNS.out 0 _ _ _ _⟩
        rw [results_cell_tmp rfl]
        go_simp
  · have hb : ((l.length : Int) == 13) = false := by rw [beq_eq_false_iff_ne]; omega
    go_enter Try.func31, Try.ntmps31
    go_wp2
    go_step3
    go_wp2
    rw [Exit.noGoto_ret]
    refine bodyPost_ret (v := .tuple #[.agg #[.int .i64 0, .int .i64 0, .int .i64 0, .int .i64 0], .bool false]) ?_ rfl ⟨0, 0, 0, 0, false, rfl, (fun h => by cases h), (fun _ h => h13 h.1), ((Turn.refl _ w).alloc _).alloc _⟩
    rw [results_cell_tmp rfl]
    go_simp

end Go.Proofs.Ytbhfjmioakldiaa
