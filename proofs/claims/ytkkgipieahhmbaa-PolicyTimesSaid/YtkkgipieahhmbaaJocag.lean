/-
  Texts laid one behind the other: Ey R2h R2p R2q R2q1 R2r Ew R2s.
-/
import Derived.Test.YtkkgipieahhmbaaJocab
import Derived.Test.YtkkgipieahhmbaaJocaf
import Derived.Test.YtkkgipieahhmbaaJocae
import Derived.Laws.Rows
import Derived.Test.YtkkgipieahhmbaaJocac

/-
  A guarded operation that is not wanted, in a region that draws. No type is named here.
-/
namespace Go.Proofs.Ytkkgipieahhmbaa
open Go.RowKit

/-- The walk stands still here. -/
def Halt11 (p : Prop) : Prop := p
theorem halt11 {p : Prop} (h : Halt11 p) : p := h

section
variable {P : Program} {ops : Array Oper} {Q : Exit → Act → World → Prop} {S : World → Prop} {zs : List Nat}
theorem drawn_skip (i d : Nat) {oi : Oper} {fuel : Nat} {listed : Array Bool} {ts : Array Value} {ds : List Deferred} {w : World} (hi0 : nthL ops.toList i = some oi) (hd : oi.dst = some d)
    (hs : Region.noSelect ops = true) (hf : Region.free .any ops listed i = true) (hr : (Region.ready .any ops listed).contains i = true) (hz : (!zs.contains i) = true)
    (hQ : ∀ c (a : Act) w, Q (.panic c) (a.put oi.dst undef) w → Q (.panic c) a w) (hw : Region.wanted oi (yielded ops ts) = false) (hS : freshB zs listed = true → S w)
    (h : Drawn P ops Q S zs fuel (listed.setIfInBounds i true) (ts.setIfInBounds d undef) ds w) : Drawn P ops Q S zs (fuel + 1) listed ts ds w := fun hc => by
  have hi := nth_at hi0
  have hm : i ∈ Region.ready .any ops listed := by simpa using hr
  refine wpAnyG_first hi (Region.noSelect_spec hs) hQ (by simpa using hz) (fun _ => True) (fun _ _ _ _ _ => trivial) fuel listed _ w hc (Region.free_spec hi hf) hm (.inr ⟨hw, rfl⟩) hS ?_
  have h2 := h (hc.step hm)
  rw [hd]
  exact h2
end

section
variable {P : Program} {T : Type} {E : El T} {tS e : TypeId} {ops : Array Oper} {rest : List Oper} {Q : Exit → Act → World → Prop} {op : Oper} {a : Act} {w : World} {A : Option Addr} {n c i : Nat} {L : List T}
/-- A slice's tail, in a region that draws nothing. -/
theorem wpList_cut (ht : P.underlying tS = some (.slice e)) (hz : (P.info? e).map (·.size) = some E.sz) (hgd : op.guard = none) (xo ko : Operand) (ho : op.op = .slice tS xo (some ko) none none) (hrd : RdE E w (.slice A n c) L) (hx : a.eval xo = .slice A n c) (hk : a.eval ko = .int .i64 (i : Int)) (hi : i ≤ n)
    (h : ∀ B, RdE E w (.slice B (n - i) (c - i)) (L.drop i) → (∀ g, (Value.slice B (n - i) (c - i)).ownBlock = some g → (Value.slice A n c).ownBlock = some g) → wpList P ops Q rest (a.put op.dst (.slice B (n - i) (c - i))) w) : wpList P ops Q (op :: rest) a w :=
  wpList_plain hgd fun K hK => by
    unfold Oper.wp
    rw [exec_tail (E := E) ho hx hk ht hz hi w]
    refine hK _ _ (h _ (rd_tailV hrd hi) (fun g hg => ?_))
    by_cases e : c = i
    · rw [if_pos e] at hg
      cases A with
      | none => simp [Value.ownBlock] at hg
      | some ad => simpa [Value.ownBlock] using hg
    · rw [if_neg e] at hg
      cases A with
      | none => simp [Value.ownBlock] at hg
      | some ad => simpa [Value.ownBlock, eadd_block] using hg
/-- No elements: whatever the world. -/
theorem rd_empty {w' : World} {v : Value} (h : RdE E w v []) : RdE E w' v [] := by
  obtain ⟨A, c, e, h1, h2, _⟩ := h
  exact ⟨A, c, e, h1, h2, fun _ _ i u hi => by simp [El.flat] at hi⟩
/-- A slice's front, in a region that draws nothing. -/
theorem wpList_front (ht : P.underlying tS = some (.slice e)) (hz : (P.info? e).map (·.size) = some E.sz) (hgd : op.guard = none) (xo ko : Operand) (ho : op.op = .slice tS xo none (some ko) none) (hrd : RdE E w (.slice A n c) L) (hx : a.eval xo = .slice A n c) (hk : a.eval ko = .int .i64 (i : Int)) (hi : i ≤ n)
    (h : RdE E w (.slice A i c) (L.take i) → wpList P ops Q rest (a.put op.dst (.slice A i c)) w) : wpList P ops Q (op :: rest) a w :=
  wpList_plain hgd fun K hK => by
    unfold Oper.wp
    rw [exec_front (E := E) ho hx hk ht hz (Nat.le_trans hi (by have := hrd.fits; omega)) w]
    exact hK _ _ (h (hrd.front i hi))
end

end Go.Proofs.Ytkkgipieahhmbaa

/-
  Stage 18: PolicyReads over any program that answers as is asked.
-/
namespace Go.Proofs.Ytkkgipieahhmbaa
open Go.RowKit

set_option maxRecDepth 100000

theorem read_ok18 {s : RS9} (h : (readY s).2 = 0) : (iter18 9 s).2 = 0 := by
  by_cases h1 : (iter18 9 s).2 = 0
  · exact h1
  · unfold readY at h
    rw [if_pos h1] at h
    have h2 : ((iter18 9 s).2 : Int) = 0 := h
    omega

set_option maxHeartbeats 16000000 in
theorem reads_any18 (P : Prog18) (u : Value) (b : List UInt8) (w : World) (hu : Rd w u b) (hl : b.length ≤ maxLen) (hB : ∀ g, u.ownBlock = some g → g < w.heap.size) :
    Calls Try.prog 4 #[u] w fun e w' => e = .returned (.bool true) ∧ Turn (fun _ => False) w w' := by
  have HAL : Hid (∀ W, Calls Try.prog 12 #[] W fun e w' => e = .returned (.bool true) ∧ Turn (fun _ => False) W w') := fun W => alive_any18 P W
  have HU := Lib.hid hu
  obtain ⟨A, c, rfl⟩ := hu.shape
  have HOW := Lib.hid hB
  unfold maxLen at hl
  by_cases h2 : b.length ≤ 200
  · have HFT := Lib.hid hu.fits
    have HNR := Lib.hid (pr_new (w := w) _ b (Turn.refl _ w) hu (by omega))
    have HRN := Lib.hid P.readnil
    have HPRD := Lib.hid P.read
    have hli : (b.length : Int) ≤ 200 := by omega
    clear hu hl hB h2 P
    obtain ⟨s, hs⟩ : ∃ s : RS9, s = (b, 0) := ⟨_, rfl⟩
    have HS := Lib.hid hs
    clear hs
    go_enter Try.func4, Try.ntmps4
    go_wp2_with fail
    refine HNR.out.mono ?_
    rintro e w2 ⟨d, rfl, p2, l2⟩
    obtain ⟨q, hq⟩ : ∃ q, q = w2.heap.size := ⟨_, rfl⟩
    obtain ⟨w3, hw3⟩ : ∃ w3, w3 = w2.alloc (.cells #[.slice A b.length c, .int .i64 0] 36) := ⟨_, rfl⟩
    have HQ3 : Hid (Box w3 q 36 #[.slice A b.length c, .int .i64 0]) := by rw [hw3, hq]; exact Box.new w2 _ _
    have HP3 : Hid (PR w d w3 s) := by rw [hw3, HS.out]; exact p2.later ((Turn.refl _ w2).alloc _)
    have HDQ : Hid (d < q ∧ w.heap.size ≤ d) := by
      obtain ⟨cs, hbd⟩ := p2.box
      have := hbd.lt
      exact ⟨by omega, l2⟩
    have HW3 := Lib.hid hw3; have HQ := Lib.hid hq
    have HRD := Lib.hid (HPRD.out w w3 d s HP3.out)
    have HREF := Lib.hid (ref_read18 s q)
    unfold Read18 at HREF
    have HOK : Hid ((readY s).2 = 0 → (iter18 9 s).2 = 0) := read_ok18
    generalize readY s = rd at *
    obtain ⟨p, f⟩ := rd
    dsimp only at HRD HREF HOK
    generalize iter18 9 s = s9 at *
    clear p2 l2 hw3 hq HNR HPRD
    go_wp2_with fail
    rw [← HW3.out, ← HQ.out]
    refine HRD.out.mono ?_
    rintro e w4 ⟨rfl, p4, t4⟩
    obtain ⟨k, hk⟩ : ∃ k, k = w4.heap.size := ⟨_, rfl⟩
    obtain ⟨w5, hw5⟩ : ∃ w5, w5 = w4.alloc (.cells (ycells18 p) 23) := ⟨_, rfl⟩
    have ta : Turn (fun _ => False) w4 w5 := by rw [hw5]; exact (Turn.refl _ w4).alloc _
    have HK5 : Hid (Box w5 k 23 (ycells18 p)) := by rw [hw5, hk]; exact Box.new w4 _ _
    have HQ5 : Hid (Box w5 q 36 #[.slice A b.length c, .int .i64 0]) := (HQ3.out.turn t4 (fun e => by have := HDQ.out.1; omega)).turn ta (fun f => f)
    have HP5 : Hid (PR w d w5 s9) := p4.later ta
    have HQK : Hid (q < k ∧ k < w5.heap.size) := ⟨by have h1 := HQ3.out.lt; have h2 := t4.size; omega, HK5.out.lt⟩
    have HU5 : Hid (Rd w5 (.slice A b.length c) b) := HU.out.later HP5.out.turn
    have hxs : ∃ B, XS w5 q B s ∧ B ≠ w5.heap.size ∧ B ≠ w5.heap.size + 1 := by
      have h5 := HP5.out.turn.size
      have h6 := HQK.out
      have h7 := HDQ.out
      refine ⟨((Value.slice A b.length c).ownBlock).getD (w5.heap.size + 5), ⟨A, c, ?_⟩, ?_, ?_⟩
      · rw [HS.out]
        refine ⟨HQ5.out, HU5.out, ⟨fun g hg => by rw [hg]; rfl, ?_⟩, HFT.out.2.1, HFT.out.2.2⟩
        cases ho : (Value.slice A b.length c).ownBlock with
        | none => show w5.heap.size + 5 ≠ q; omega
        | some g => have := HOW.out g ho; show g ≠ q; omega
      · cases ho : (Value.slice A b.length c).ownBlock with
        | none => show w5.heap.size + 5 ≠ _; omega
        | some g => have := HOW.out g ho; show g ≠ _; omega
      · cases ho : (Value.slice A b.length c).ownBlock with
        | none => show w5.heap.size + 5 ≠ _; omega
        | some g => have := HOW.out g ho; show g ≠ _; omega
    obtain ⟨B, hx5, hb5⟩ := hxs
    have HRX := Lib.hid (HREF.out B w5 hx5 (by have := HQK.out; omega) hb5)
    have HW5 := Lib.hid hw5; have HK := Lib.hid hk
    clear p4 t4 hw5 hk ta hx5 hb5 HRD HREF HQ3 HP3
    go_wp2_with fail
    rw [← HW5.out, ← HK.out]
    refine HRX.out.mono ?_
    rintro e w6 ⟨rfl, x6, t6⟩
    obtain ⟨m, hm⟩ : ∃ m, m = w6.heap.size := ⟨_, rfl⟩
    obtain ⟨w7, hw7⟩ : ∃ w7, w7 = w6.alloc (.cells (ycells18 p) 23) := ⟨_, rfl⟩
    have ta : Turn (fun _ => False) w6 w7 := by rw [hw7]; exact (Turn.refl _ w6).alloc _
    have HM7 : Hid (Box w7 m 23 (ycells18 p)) := by rw [hw7, hm]; exact Box.new w6 _ _
    have HK7 : Hid (Box w7 k 23 (ycells18 p)) := (HK5.out.turn t6 (fun e => by have := HQK.out; omega)).turn ta (fun f => f)
    have HX7 : Hid (XS w7 q B s9) := x6.later ta
    have HP7 : Hid (PR w d w7 s9) := (HP5.out.keep t6 (fun g e => by have := HDQ.out; omega) (fun g e => ⟨36, _, by decide, by decide, e ▸ HQ5.out⟩)).later ta
    have HW7 := Lib.hid hw7; have HM := Lib.hid hm
    clear x6 t6 hw7 hm ta HRX HK5 HP5
    go_wp2_with fail
    rw [← HW7.out, ← HM.out]
    refine (HRN.out w7).mono ?_
    rintro e w8 ⟨rfl, t8⟩
    obtain ⟨w9, hw9⟩ : ∃ w9, w9 = w8.alloc (.cells (ycells18 zeroY) 23) := ⟨_, rfl⟩
    have ta : Turn (fun _ => False) w7 w9 := by rw [hw9]; exact t8.alloc _
    have HKM : Hid (∀ W, Turn (fun _ => False) w9 W → Box W k 23 (ycells18 p) ∧ Box W m 23 (ycells18 p)) := fun W hW => ⟨(HK7.out.turn ta (fun f => f)).turn hW (fun f => f), (HM7.out.turn ta (fun f => f)).turn hW (fun f => f)⟩
    have HX9 := Lib.hid (HX7.out.later ta)
    have HP9 := Lib.hid (HP7.out.later ta)
    have HW9 := Lib.hid hw9
    clear t8 hw9 ta HRN HK7 HM7 HX7 HP7
    go_wp2_with fail
    rw [← HW9.out]
    have HLF : Hid (s9.2 = 0 → ∀ W, Turn (fun _ => False) w9 W → Calls Try.prog 16 #[.pointer (some ⟨d, 0, none⟩)] W fun e w' => e = .returned (.int .i64 (s9.1.length : Int)) ∧ Turn (fun _ => False) W w') := fun h0 W hW => (pr_left (HP9.out.later hW) h0).mono (by rintro e w' ⟨rfl, n, rfl⟩; exact ⟨rfl, (Turn.refl _ _).drewN _⟩)
    obtain ⟨AL, cL, hb9⟩ := HX9.out
    have HQL : Hid (∀ W, Turn (fun _ => False) w9 W → W.cell? ⟨q, 0, none⟩ = some (.slice AL s9.1.length cL)) := fun W hW => (hb9.1.turn hW (fun f => f)).cell 0
    have HTE := Lib.hid HP9.out.turn
    clear hb9
    generalize s9.1.length = N at *
    refine drawn_region (fun W => Turn (fun _ => False) w9 W) [] (by kernel_rfl) ?_
    have hS0 : Turn (fun _ => False) w9 (World.drew w9) := (Turn.refl _ w9).drew
    generalize World.drew w9 = wd at *
    refine drawn_take 0 34 (.agg #[.int .i64 p.rt, .int .i64 p.sl, .int .i64 p.dl, .int .i64 p.ml, .int .i64 p.cl, .int .i64 p.ba, .int .i64 p.ca, .int .i64 p.qu, .int .i64 p.wa]) rfl rfl (by kernel_rfl) (by kernel_rfl) (by kernel_rfl) (by kernel_rfl) (fun _ _ _ h => h) (by rfl) (by assumption) (by intro w hSw; obtain ⟨b0, b1, b2, b3, b4, b5, b6, b7, b8⟩ := box_y18 (HKM.out _ hSw).1; clear hSw; go_simp) ?_
    try simp only [List.setIfInBounds_toArray, List.set_cons_zero, List.set_cons_succ]
    refine drawn_take 1 35 (.agg #[.int .i64 p.rt, .int .i64 p.sl, .int .i64 p.dl, .int .i64 p.ml, .int .i64 p.cl, .int .i64 p.ba, .int .i64 p.ca, .int .i64 p.qu, .int .i64 p.wa]) rfl rfl (by kernel_rfl) (by kernel_rfl) (by kernel_rfl) (by kernel_rfl) (fun _ _ _ h => h) (by rfl) (by assumption) (by intro w hSw; obtain ⟨b0, b1, b2, b3, b4, b5, b6, b7, b8⟩ := box_y18 (HKM.out _ hSw).2; clear hSw; go_simp) ?_
    try simp only [List.setIfInBounds_toArray, List.set_cons_zero, List.set_cons_succ]
    refine drawn_take 2 36 (.bool true) rfl rfl (by kernel_rfl) (by kernel_rfl) (by kernel_rfl) (by kernel_rfl) (fun _ _ _ h => h) (by rfl) (by assumption) (by intro w hSw; obtain hS1 := hSw; go_simp) ?_
    try simp only [List.setIfInBounds_toArray, List.set_cons_zero, List.set_cons_succ]
    refine drawn_take 3 37 (.bool true) rfl rfl (by kernel_rfl) (by kernel_rfl) (by kernel_rfl) (by kernel_rfl) (fun _ _ _ h => h) (by rfl) (by assumption) (by intro w hSw; obtain hS1 := hSw; go_simp) ?_
    try simp only [List.setIfInBounds_toArray, List.set_cons_zero, List.set_cons_succ]
    refine drawn_take 4 38 (.int .i64 f) rfl rfl (by kernel_rfl) (by kernel_rfl) (by kernel_rfl) (by kernel_rfl) (fun _ _ _ h => h) (by rfl) (by assumption) (by intro w hSw; obtain hS1 := hSw; go_simp) ?_
    try simp only [List.setIfInBounds_toArray, List.set_cons_zero, List.set_cons_succ]
    refine drawn_take 5 39 (.int .i64 f) rfl rfl (by kernel_rfl) (by kernel_rfl) (by kernel_rfl) (by kernel_rfl) (fun _ _ _ h => h) (by rfl) (by assumption) (by intro w hSw; obtain hS1 := hSw; go_simp) ?_
    try simp only [List.setIfInBounds_toArray, List.set_cons_zero, List.set_cons_succ]
    refine drawn_take 6 40 (.bool true) rfl rfl (by kernel_rfl) (by kernel_rfl) (by kernel_rfl) (by kernel_rfl) (fun _ _ _ h => h) (by rfl) (by assumption) (by intro w hSw; obtain hS1 := hSw; go_simp) ?_
    try simp only [List.setIfInBounds_toArray, List.set_cons_zero, List.set_cons_succ]
    refine drawn_take 7 41 (.bool true) rfl rfl (by kernel_rfl) (by kernel_rfl) (by kernel_rfl) (by kernel_rfl) (fun _ _ _ h => h) (by rfl) (by assumption) (by intro w hSw; obtain hS1 := hSw; go_simp) ?_
    try simp only [List.setIfInBounds_toArray, List.set_cons_zero, List.set_cons_succ]
    refine drawn_take 8 42 (.bool true) rfl rfl (by kernel_rfl) (by kernel_rfl) (by kernel_rfl) (by kernel_rfl) (fun _ _ _ h => h) (by rfl) (by assumption) (by intro w hSw; obtain hS1 := hSw; go_simp) ?_
    try simp only [List.setIfInBounds_toArray, List.set_cons_zero, List.set_cons_succ]
    refine drawn_take 9 43 (.int .i64 1) rfl rfl (by kernel_rfl) (by kernel_rfl) (by kernel_rfl) (by kernel_rfl) (fun _ _ _ h => h) (by rfl) (by assumption) (by intro w hSw; obtain hS1 := hSw; go_simp) ?_
    try simp only [List.setIfInBounds_toArray, List.set_cons_zero, List.set_cons_succ]
    refine drawn_take 10 44 (.bool true) rfl rfl (by kernel_rfl) (by kernel_rfl) (by kernel_rfl) (by kernel_rfl) (fun _ _ _ h => h) (by rfl) (by assumption) (by intro w hSw; obtain hS1 := hSw; go_simp) ?_
    try simp only [List.setIfInBounds_toArray, List.set_cons_zero, List.set_cons_succ]
    refine drawn_take 11 45 (.bool true) rfl rfl (by kernel_rfl) (by kernel_rfl) (by kernel_rfl) (by kernel_rfl) (fun _ _ _ h => h) (by rfl) (by assumption) (by intro w hSw; obtain hS1 := hSw; go_simp) ?_
    try simp only [List.setIfInBounds_toArray, List.set_cons_zero, List.set_cons_succ]
    refine drawn_take 12 46 (.bool true) rfl rfl (by kernel_rfl) (by kernel_rfl) (by kernel_rfl) (by kernel_rfl) (fun _ _ _ h => h) (by rfl) (by assumption) (by intro w hSw; obtain hS1 := hSw; go_simp) ?_
    try simp only [List.setIfInBounds_toArray, List.set_cons_zero, List.set_cons_succ]
    refine drawn_take 13 47 (.int .i64 f) rfl rfl (by kernel_rfl) (by kernel_rfl) (by kernel_rfl) (by kernel_rfl) (fun _ _ _ h => h) (by rfl) (by assumption) (by intro w hSw; obtain hS1 := hSw; go_simp) ?_
    try simp only [List.setIfInBounds_toArray, List.set_cons_zero, List.set_cons_succ]
    by_cases hf : f = 0
    · subst hf
      have HL2 := Lib.hid (HLF.out (HOK.out rfl))
      refine drawn_take 14 48 (.bool false) rfl rfl (by kernel_rfl) (by kernel_rfl) (by kernel_rfl) (by kernel_rfl) (fun _ _ _ h => h) (by rfl) (by assumption) (by intro w hSw; obtain hS1 := hSw; go_simp) ?_
      try simp only [List.setIfInBounds_toArray, List.set_cons_zero, List.set_cons_succ]
      refine drawn_take 15 49 (.bool false) rfl rfl (by kernel_rfl) (by kernel_rfl) (by kernel_rfl) (by kernel_rfl) (fun _ _ _ h => h) (by rfl) (by assumption) (by intro w hSw; obtain hS1 := hSw; go_simp) ?_
      try simp only [List.setIfInBounds_toArray, List.set_cons_zero, List.set_cons_succ]
      refine drawn_take 16 50 (.pointer (some ⟨d, 0, none⟩)) rfl rfl (by kernel_rfl) (by kernel_rfl) (by kernel_rfl) (by kernel_rfl) (fun _ _ _ h => h) (by rfl) (by assumption) (by intro w hSw; obtain hS1 := hSw; go_simp) ?_
      try simp only [List.setIfInBounds_toArray, List.set_cons_zero, List.set_cons_succ]
      refine drawn_take 18 52 (.pointer (some ⟨q, 0, none⟩)) rfl rfl (by kernel_rfl) (by kernel_rfl) (by kernel_rfl) (by kernel_rfl) (fun _ _ _ h => h) (by rfl) (by assumption) (by intro w hSw; obtain hS1 := hSw; go_simp) ?_
      try simp only [List.setIfInBounds_toArray, List.set_cons_zero, List.set_cons_succ]
      refine drawn_take 19 53 (.pointer (some ⟨q, 0, none⟩)) rfl rfl (by kernel_rfl) (by kernel_rfl) (by kernel_rfl) (by kernel_rfl) (fun _ _ _ h => h) (by rfl) (by assumption) (by intro w hSw; obtain hS1 := hSw; go_simp) ?_
      try simp only [List.setIfInBounds_toArray, List.set_cons_zero, List.set_cons_succ]
      refine drawn_take 20 54 (.pointer (some ⟨q, 0, none⟩)) rfl rfl (by kernel_rfl) (by kernel_rfl) (by kernel_rfl) (by kernel_rfl) (fun _ _ _ h => h) (by rfl) (by assumption) (by intro w hSw; obtain hS1 := hSw; go_simp) ?_
      try simp only [List.setIfInBounds_toArray, List.set_cons_zero, List.set_cons_succ]
      refine drawn_take 21 55 (.slice AL N cL) rfl rfl (by kernel_rfl) (by kernel_rfl) (by kernel_rfl) (by kernel_rfl) (fun _ _ _ h => h) (by rfl) (by assumption) (by intro w hSw; have b0 := HQL.out _ hSw; clear hSw; go_simp) ?_
      try simp only [List.setIfInBounds_toArray, List.set_cons_zero, List.set_cons_succ]
      refine drawn_take 22 56 (.int .i64 (N : Int)) rfl rfl (by kernel_rfl) (by kernel_rfl) (by kernel_rfl) (by kernel_rfl) (fun _ _ _ h => h) (by rfl) (by assumption) (by intro w hSw; obtain hS1 := hSw; go_simp) ?_
      try simp only [List.setIfInBounds_toArray, List.set_cons_zero, List.set_cons_succ]
      refine drawn_any [17] (by kernel_rfl) (by simp) ?_
      refine drawn_cons rfl (fun K1 hK => ?_) drawn_nil
      go_simp
      refine (HL2.out _ hS0).mono ?_
      rintro e wn ⟨rfl, tn⟩
      have hSn := hS0.trans tn (fun _ _ f => f)
      refine hK.out _ _ _ hSn ?_
      clear hK K1 tn hS0
      have hS0 := hSn
      clear hSn
      try simp only [List.setIfInBounds_toArray, List.set_cons_zero, List.set_cons_succ]
      refine drawn_take 23 57 (.bool true) rfl rfl (by kernel_rfl) (by kernel_rfl) (by kernel_rfl) (by kernel_rfl) (fun _ _ _ h => h) (by rfl) (by assumption) (by intro w hSw; obtain hS1 := hSw; go_simp) ?_
      try simp only [List.setIfInBounds_toArray, List.set_cons_zero, List.set_cons_succ]
      refine drawn_take 24 58 (.bool true) rfl rfl (by kernel_rfl) (by kernel_rfl) (by kernel_rfl) (by kernel_rfl) (fun _ _ _ h => h) (by rfl) (by assumption) (by intro w hSw; obtain hS1 := hSw; go_simp) ?_
      try simp only [List.setIfInBounds_toArray, List.set_cons_zero, List.set_cons_succ]
      refine drawn_take 25 59 (.bool true) rfl rfl (by kernel_rfl) (by kernel_rfl) (by kernel_rfl) (by kernel_rfl) (fun _ _ _ h => h) (by rfl) (by assumption) (by intro w hSw; obtain hS1 := hSw; go_simp) ?_
      try simp only [List.setIfInBounds_toArray, List.set_cons_zero, List.set_cons_succ]
      refine drawn_take 26 60 (.bool true) rfl rfl (by kernel_rfl) (by kernel_rfl) (by kernel_rfl) (by kernel_rfl) (fun _ _ _ h => h) (by rfl) (by assumption) (by intro w hSw; obtain hS1 := hSw; go_simp) ?_
      try simp only [List.setIfInBounds_toArray, List.set_cons_zero, List.set_cons_succ]
      refine drawn_any [27] (by kernel_rfl) (by simp) ?_
      refine drawn_cons rfl (fun K1 hK => ?_) drawn_nil
      go_simp
      refine (HAL.out _).mono ?_
      rintro e wn ⟨rfl, tn⟩
      have hSn := hS0.trans tn (fun _ _ f => f)
      refine hK.out _ _ _ hSn ?_
      clear hK K1 tn hS0
      have hS0 := hSn
      clear hSn
      try simp only [List.setIfInBounds_toArray, List.set_cons_zero, List.set_cons_succ]
      refine drawn_take 28 62 (.bool true) rfl rfl (by kernel_rfl) (by kernel_rfl) (by kernel_rfl) (by kernel_rfl) (fun _ _ _ h => h) (by rfl) (by assumption) (by intro w hSw; obtain hS1 := hSw; go_simp) ?_
      try simp only [List.setIfInBounds_toArray, List.set_cons_zero, List.set_cons_succ]
      refine drawn_last1 29 2 (.bool true) rfl rfl (by kernel_rfl) (by kernel_rfl) (by rfl) (by intro w; go_simp) hS0 ?_
      try simp only [List.setIfInBounds_toArray, List.set_cons_zero, List.set_cons_succ]
      have HTF := Lib.hid hS0
      clear hS0
      go_wp2
      go_ret
      exact ⟨rfl, HTE.out.trans HTF.out (fun _ _ f => f)⟩
    · have hf1 : (f == 0) = false := by rw [beq_eq_false_iff_ne]; exact hf
      have hf2 : (f != 0) = true := by rw [bne_iff_ne]; exact hf
      refine drawn_take 14 48 (.bool true) rfl rfl (by kernel_rfl) (by kernel_rfl) (by kernel_rfl) (by kernel_rfl) (fun _ _ _ h => h) (by rfl) (by assumption) (by intro w hSw; obtain hS1 := hSw; go_simp) ?_
      try simp only [List.setIfInBounds_toArray, List.set_cons_zero, List.set_cons_succ]
      refine drawn_take 15 49 (.bool true) rfl rfl (by kernel_rfl) (by kernel_rfl) (by kernel_rfl) (by kernel_rfl) (fun _ _ _ h => h) (by rfl) (by assumption) (by intro w hSw; obtain hS1 := hSw; go_simp) ?_
      try simp only [List.setIfInBounds_toArray, List.set_cons_zero, List.set_cons_succ]
      refine drawn_skip 16 50 rfl rfl (by kernel_rfl) (by kernel_rfl) (by kernel_rfl) (by kernel_rfl) (fun _ _ _ h => h) (by rfl) (fun _ => by assumption) ?_
      try simp only [List.setIfInBounds_toArray, List.set_cons_zero, List.set_cons_succ]
      refine drawn_skip 17 51 rfl rfl (by kernel_rfl) (by kernel_rfl) (by kernel_rfl) (by kernel_rfl) (fun _ _ _ h => h) (by rfl) (fun _ => by assumption) ?_
      try simp only [List.setIfInBounds_toArray, List.set_cons_zero, List.set_cons_succ]
      refine drawn_skip 18 52 rfl rfl (by kernel_rfl) (by kernel_rfl) (by kernel_rfl) (by kernel_rfl) (fun _ _ _ h => h) (by rfl) (fun _ => by assumption) ?_
      try simp only [List.setIfInBounds_toArray, List.set_cons_zero, List.set_cons_succ]
      refine drawn_skip 19 53 rfl rfl (by kernel_rfl) (by kernel_rfl) (by kernel_rfl) (by kernel_rfl) (fun _ _ _ h => h) (by rfl) (fun _ => by assumption) ?_
      try simp only [List.setIfInBounds_toArray, List.set_cons_zero, List.set_cons_succ]
      refine drawn_skip 20 54 rfl rfl (by kernel_rfl) (by kernel_rfl) (by kernel_rfl) (by kernel_rfl) (fun _ _ _ h => h) (by rfl) (fun _ => by assumption) ?_
      try simp only [List.setIfInBounds_toArray, List.set_cons_zero, List.set_cons_succ]
      refine drawn_skip 21 55 rfl rfl (by kernel_rfl) (by kernel_rfl) (by kernel_rfl) (by kernel_rfl) (fun _ _ _ h => h) (by rfl) (fun _ => by assumption) ?_
      try simp only [List.setIfInBounds_toArray, List.set_cons_zero, List.set_cons_succ]
      refine drawn_skip 22 56 rfl rfl (by kernel_rfl) (by kernel_rfl) (by kernel_rfl) (by kernel_rfl) (fun _ _ _ h => h) (by rfl) (fun _ => by assumption) ?_
      try simp only [List.setIfInBounds_toArray, List.set_cons_zero, List.set_cons_succ]
      refine drawn_skip 23 57 rfl rfl (by kernel_rfl) (by kernel_rfl) (by kernel_rfl) (by kernel_rfl) (fun _ _ _ h => h) (by rfl) (fun _ => by assumption) ?_
      try simp only [List.setIfInBounds_toArray, List.set_cons_zero, List.set_cons_succ]
      refine drawn_take 24 58 (.bool true) rfl rfl (by kernel_rfl) (by kernel_rfl) (by kernel_rfl) (by kernel_rfl) (fun _ _ _ h => h) (by rfl) (by assumption) (by intro w hSw; obtain hS1 := hSw; go_simp) ?_
      try simp only [List.setIfInBounds_toArray, List.set_cons_zero, List.set_cons_succ]
      refine drawn_take 25 59 (.bool true) rfl rfl (by kernel_rfl) (by kernel_rfl) (by kernel_rfl) (by kernel_rfl) (fun _ _ _ h => h) (by rfl) (by assumption) (by intro w hSw; obtain hS1 := hSw; go_simp) ?_
      try simp only [List.setIfInBounds_toArray, List.set_cons_zero, List.set_cons_succ]
      refine drawn_take 26 60 (.bool true) rfl rfl (by kernel_rfl) (by kernel_rfl) (by kernel_rfl) (by kernel_rfl) (fun _ _ _ h => h) (by rfl) (by assumption) (by intro w hSw; obtain hS1 := hSw; go_simp) ?_
      try simp only [List.setIfInBounds_toArray, List.set_cons_zero, List.set_cons_succ]
      refine drawn_any [27] (by kernel_rfl) (by simp) ?_
      refine drawn_cons rfl (fun K1 hK => ?_) drawn_nil
      go_simp
      refine (HAL.out _).mono ?_
      rintro e wn ⟨rfl, tn⟩
      have hSn := hS0.trans tn (fun _ _ f => f)
      refine hK.out _ _ _ hSn ?_
      clear hK K1 tn hS0
      have hS0 := hSn
      clear hSn
      try simp only [List.setIfInBounds_toArray, List.set_cons_zero, List.set_cons_succ]
      refine drawn_take 28 62 (.bool true) rfl rfl (by kernel_rfl) (by kernel_rfl) (by kernel_rfl) (by kernel_rfl) (fun _ _ _ h => h) (by rfl) (by assumption) (by intro w hSw; obtain hS1 := hSw; go_simp) ?_
      try simp only [List.setIfInBounds_toArray, List.set_cons_zero, List.set_cons_succ]
      refine drawn_last1 29 2 (.bool true) rfl rfl (by kernel_rfl) (by kernel_rfl) (by rfl) (by intro w; go_simp) hS0 ?_
      try simp only [List.setIfInBounds_toArray, List.set_cons_zero, List.set_cons_succ]
      have HTF := Lib.hid hS0
      clear hS0
      go_wp2
      go_ret
      exact ⟨rfl, HTE.out.trans HTF.out (fun _ _ f => f)⟩
  · have h3 : 200 < (b.length : Int) := by omega
    clear hu hl hB h2 P
    go_enter Try.func4, Try.ntmps4
    go_wp2_with fail
    refine (HAL.out _).mono ?_
    rintro e w9 ⟨rfl, t9⟩
    have HT9 := Lib.hid t9
    clear t9
    go_wp2
    go_ret
    exact ⟨rfl, HT9.out⟩

end Go.Proofs.Ytkkgipieahhmbaa

/-
  Stage 18: the program's Plain, Lag, Cutoff, Delay.
-/
namespace Go.Proofs.Ytkkgipieahhmbaa
open Go.RowKit

set_option maxRecDepth 100000

set_option maxHeartbeats 4000000 in
theorem plain_any18 (w : World) : Calls Try.prog 30 #[] w fun e w' => e = .returned (yv18 plainY) ∧ Turn (fun _ => False) w w' := by
  go_enter Try.func30, Try.ntmps30
  go_wp2_with fail
  refine bodyPost_ret (v := yv18 plainY) ?_ rfl ⟨rfl, (Turn.refl _ w).alloc _⟩
  rw [results_cell rfl]
  unfold plainY yv18 ycells18
  dsimp only
  go_simp

set_option maxHeartbeats 4000000 in
theorem lag_any18 (p : Y18) (t : Int) (w : World) : Calls Try.prog 17 #[yv18 p, .int .i64 t] w fun e w' => e = .returned (.tuple #[.int .i64 (lagY p t).1, .bool (lagY p t).2]) ∧ Turn (fun _ => False) w w' := by
  obtain ⟨y0, y1, y2, y3, y4, y5, y6, y7, y8⟩ := box_y18 (Box.new w 23 (ycells18 p))
  have HT : Hid (Turn (fun _ => False) w (w.alloc (.cells (ycells18 p) 23))) := (Turn.refl _ w).alloc _
  by_cases h1 : t = 1
  · have HL : Hid (lagY p t = (p.sl, true)) := if_pos h1
    have e1 : (t == 1) = true := by rw [beq_iff_eq]; exact h1
    clear h1
    go_enter Try.func17, Try.ntmps17
    go_wp2
    go_ret2
    exact ⟨by rw [HL.out]; rfl, HT.out⟩
  · have e1 : (t == 1) = false := by rw [beq_eq_false_iff_ne]; exact h1
    by_cases h2 : t = 2
    · have HL : Hid (lagY p t = (p.dl, true)) := (if_neg h1).trans (if_pos h2)
      have e2 : (t == 2) = true := by rw [beq_iff_eq]; exact h2
      clear h1 h2
      go_enter Try.func17, Try.ntmps17
      go_wp2
      go_ret2
      exact ⟨by rw [HL.out]; rfl, HT.out⟩
    · have e2 : (t == 2) = false := by rw [beq_eq_false_iff_ne]; exact h2
      by_cases h3 : t = 3
      · have HL : Hid (lagY p t = (p.ml, true)) := (if_neg h1).trans ((if_neg h2).trans (if_pos h3))
        have e3 : (t == 3) = true := by rw [beq_iff_eq]; exact h3
        clear h1 h2 h3
        go_enter Try.func17, Try.ntmps17
        go_wp2
        go_ret2
        exact ⟨by rw [HL.out]; rfl, HT.out⟩
      · have HL : Hid (lagY p t = (0, false)) := (if_neg h1).trans ((if_neg h2).trans (if_neg h3))
        have e3 : (t == 3) = false := by rw [beq_eq_false_iff_ne]; exact h3
        clear h1 h2 h3
        go_enter Try.func17, Try.ntmps17
        go_wp2
        go_ret2
        exact ⟨by rw [HL.out]; rfl, HT.out⟩

set_option maxHeartbeats 4000000 in
theorem cut_any18 (p : Y18) (h : Int) (w : World) (hr : p.rt ≤ 1048576 ∧ 0 ≤ p.rt) (hh : 0 ≤ h ∧ h ≤ 4611686018427387904) : Calls Try.prog 19 #[yv18 p, .int .i64 h] w fun e w' => e = .returned (.int .i64 (cutY p h)) ∧ Turn (fun _ => False) w w' := by
  have HW : Hid (IntKind.i64.wrap (h - p.rt) = h - p.rt) := IntWalk.i64_in _ (by omega)
  have HC : Hid (cutY p h = max 0 (h - p.rt)) := by show _ = _; unfold cutY; omega
  generalize cutY p h = X at *
  have hb := Box.new w 23 (ycells18 p)
  have c0 := hb.cell 0
  have HT : Hid (Turn (fun _ => False) w (w.alloc (.cells (ycells18 p) 23))) := (Turn.refl _ w).alloc _
  have hw := HW.out
  have hc := HC.out
  have hm1 : max 0 h = h := by omega
  have hm2 : max 0 p.rt = p.rt := by omega
  clear hr hh hb
  go_enter Try.func19, Try.ntmps19
  go_wp2
  go_ret
  exact ⟨by rw [HC.out]; rfl, HT.out⟩

set_option maxHeartbeats 8000000 in
theorem delay_any18 (p : Y18) (t : Int) (w : World) (hp : OkY p) : Calls Try.prog 21 #[yv18 p, .int .i64 t] w fun e w' => e = .returned (.int .i64 (delayY p t)) ∧ Turn (fun _ => False) w w' := by
  obtain ⟨wb, hwb⟩ : ∃ wb, wb = w.alloc (.cells (ycells18 p) 23) := ⟨_, rfl⟩
  have HT : Hid (Turn (fun _ => False) w wb) := by rw [hwb]; exact (Turn.refl _ w).alloc _
  have HBX : Hid (Box wb w.heap.size 23 (ycells18 p)) := by rw [hwb]; exact Box.new w _ _
  obtain ⟨y0, y1, y2, y3, y4, y5, y6, y7, y8⟩ := box_y18 HBX.out
  obtain ⟨z0, z1, z2, z3, z4, z5, z6, z7, z8⟩ := box_y18 (Box.new w 23 (ycells18 p))
  have hb1 := hp.ba; have hc1 := hp.ca
  have HD : Hid (delayY p t = min (dbl18 p.ca p.ba (t - ((0 : Nat) : Int)).toNat) p.ca) := by show _ = _; unfold delayY; rw [show t - ((0 : Nat) : Int) = t by omega]
  have HWB := Lib.hid hwb
  generalize p.ca = C at *
  generalize p.ba = A at *
  generalize delayY p t = D at *
  clear hwb hp
  go_enter Try.func21, Try.ntmps21
  go_wp2_with fail
  rw [← HWB.out]
  clear z0 z1 z2 z3 z4 z5 z6 z7 z8
  go_wp2
  go_step3
  go_wp2
  go_step3
  go_wp2_with fail
  go_loopw [5, 9] (fun x5 x9 wr => ∃ (i : Nat) (n : Int), x9 = .int .i64 (i : Int) ∧ x5 = .int .i64 n ∧ 1 ≤ n ∧ (i : Int) + 1 ≤ n ∧ n ≤ 1048576 ∧ wr = wb ∧ D = min (dbl18 C n (t - (i : Int)).toNat) C) (fun x5 _ _ => (C - intOf x5).toNat)
  case atStart => exact ⟨0, A, rfl, rfl, hb1.1, by omega, by omega, rfl, HD.out⟩
  case round =>
    clear HD
    obtain ⟨i, n, rfl, rfl, hn1, hin, hn2, rfl, hd⟩ := hrel
    have HD := Lib.hid hd
    clear hd
    by_cases hit : (i : Int) < t
    · by_cases hnc : n ≤ C / 2
      · have HW : Hid (IntKind.i64.wrap (2 * n) = 2 * n) := IntWalk.i64_in _ (by omega)
        have hw := HW.out
        have HX : Hid (D = min (dbl18 C (2 * n) (t - ((i + 1 : Nat) : Int)).toNat) C) := by
          show _ = _
          rw [HD.out, show (t - (i : Int)).toNat = (t - ((i + 1 : Nat) : Int)).toNat + 1 by omega, dbl_step18 (by omega)]
        go_wp2_with fail
        go_roundw
        case rel => exact ⟨i + 1, 2 * n, by go_num, by rw [Int.mul_comm], by omega, by omega, by omega, by first | trivial | rfl, HX.out⟩
        case measure => simp [intOf]; omega
      · have HX : Hid (D = C) := by
          show _ = _
          rw [HD.out, show (t - (i : Int)).toNat = (t - ((i + 1 : Nat) : Int)).toNat + 1 by omega]
          by_cases hc : n < C
          · rw [dbl_step18 hc, dbl_done18 (by omega)]
            omega
          · rw [dbl_done18 hc]
            omega
        have hcc : C ≤ C := Int.le_refl C
        go_wp2
        go_ret
        exact ⟨by rw [HX.out]; first | rfl | simp, HT.out⟩
    · have HX : Hid (D = min n C) := by
        show _ = _
        rw [HD.out, show (t - (i : Int)).toNat = 0 by omega]
        rfl
      go_wp2
      go_ret
      exact ⟨by rw [HX.out]; rfl, HT.out⟩

end Go.Proofs.Ytkkgipieahhmbaa

/-
  Stage 18: the program's wide policies: fields, bounds, widened, narrowed, checked.
-/
namespace Go.Proofs.Ytkkgipieahhmbaa
open Go.RowKit

set_option maxRecDepth 100000

/-- A wide policy's cells: the policy's own, with whatever Queue, and the wide one behind. -/
abbrev wcells18 (p : Y18) (u : Int) : Array Value := #[.int .i64 p.rt, .int .i64 p.sl, .int .i64 p.dl, .int .i64 p.ml, .int .i64 p.cl, .int .i64 p.ba, .int .i64 p.ca, .int .i64 u, .int .i64 p.wa, .int .i64 p.qu]
abbrev fp18 (g k : Nat) : Value := .pointer (some ⟨g, k, none⟩)
/-- The fields' pointers. -/
abbrev fv18 (g : Nat) : Value := .agg #[fp18 g 0, fp18 g 1, fp18 g 2, fp18 g 3, fp18 g 4, fp18 g 5, fp18 g 6, fp18 g 9, fp18 g 8]

abbrev bnd18 (a b : Int) : List Value := [.int .i64 a, .int .i64 b]
abbrev bcells18 : Array Value := #[.int .i64 1, .int .i64 1048576, .int .i64 0, .int .i64 1048576, .int .i64 0, .int .i64 1048576, .int .i64 0, .int .i64 1048576, .int .i64 0, .int .i64 1048576, .int .i64 1, .int .i64 1048576, .int .i64 1, .int .i64 1048576, .int .i64 1, .int .i64 64, .int .i64 100, .int .i64 1048576]

theorem ptrs_one18 (g : Nat) : (#[fp18 g 0, fp18 g 1, fp18 g 2, fp18 g 3, fp18 g 4, fp18 g 5, fp18 g 6, fp18 g 9, fp18 g 8] : Array Value).all (·.oneCell') = true := by
  refine all_oneCell_toArray (fun u hu => ?_)
  simp only [List.mem_cons, List.not_mem_nil, or_false] at hu
  rcases hu with rfl | rfl | rfl | rfl | rfl | rfl | rfl | rfl | rfl <;> rfl

set_option maxHeartbeats 8000000 in
theorem fields_any18 (g : Nat) (w : World) : Calls Try.prog 25 #[.pointer (some ⟨g, 0, none⟩)] w fun e w' => e = .returned (fv18 g) ∧ Turn (fun _ => False) w w' := by
  obtain ⟨r, hr⟩ : ∃ r, r = w.heap.size := ⟨_, rfl⟩
  obtain ⟨wb, hwb⟩ : ∃ wb, wb = w.alloc (.cells #[.pointer none, .pointer none, .pointer none, .pointer none, .pointer none, .pointer none, .pointer none, .pointer none, .pointer none] 52) := ⟨_, rfl⟩
  have HT : Hid (Turn (fun _ => False) w wb) := by rw [hwb]; exact (Turn.refl _ w).alloc _
  have HBX : Hid (Box wb r 52 #[.pointer none, .pointer none, .pointer none, .pointer none, .pointer none, .pointer none, .pointer none, .pointer none, .pointer none]) := by rw [hwb, hr]; exact Box.new w _ _
  have HSI : Hid ((Try.prog.info? 52).map (·.size) = some 9) := by show _ = _; kernel_rfl
  have HON : Hid ((#[fp18 g 0, fp18 g 1, fp18 g 2, fp18 g 3, fp18 g 4, fp18 g 5, fp18 g 6, fp18 g 9, fp18 g 8] : Array Value).all (·.oneCell') = true) := ptrs_one18 g
  have HWB := Lib.hid hwb; have HR := Lib.hid hr
  clear hwb hr
  go_enter Try.func25, Try.ntmps25
  go_wp2_with fail
  rw [← HWB.out, ← HR.out]
  refine drawn_region (fun _ => True) [36] (by kernel_rfl) ?_
  have hS0 : True := trivial
  have HBD := Lib.hid (HBX.out.turn ((Turn.refl (fun _ => False) wb).drew) (fun f => f))
  have HLE : Hid (w.heap.size ≤ r) := Nat.le_of_eq HR.out.symm
  have HTD : Hid (Turn (fun _ => False) w (World.drew wb)) := HT.out.trans (Turn.refl _ wb).drew (fun _ _ f => f)
  clear HBX HT HWB HR
  generalize World.drew wb = wd at *
  refine drawn_take 0 3 (.pointer (some ⟨g, 0, none⟩)) rfl rfl (by kernel_rfl) (by kernel_rfl) (by kernel_rfl) (by kernel_rfl) (fun _ _ _ h => h) (by rfl) (by assumption) (by intro w hSw; go_simp) ?_
  try simp only [List.setIfInBounds_toArray, List.set_cons_zero, List.set_cons_succ]
  refine drawn_take 1 4 (.pointer (some ⟨g, 0, none⟩)) rfl rfl (by kernel_rfl) (by kernel_rfl) (by kernel_rfl) (by kernel_rfl) (fun _ _ _ h => h) (by rfl) (by assumption) (by intro w hSw; go_simp) ?_
  try simp only [List.setIfInBounds_toArray, List.set_cons_zero, List.set_cons_succ]
  refine drawn_take 2 5 (.pointer (some ⟨g, 0, none⟩)) rfl rfl (by kernel_rfl) (by kernel_rfl) (by kernel_rfl) (by kernel_rfl) (fun _ _ _ h => h) (by rfl) (by assumption) (by intro w hSw; go_simp) ?_
  try simp only [List.setIfInBounds_toArray, List.set_cons_zero, List.set_cons_succ]
  refine drawn_take 3 6 (.pointer (some ⟨g, 0, none⟩)) rfl rfl (by kernel_rfl) (by kernel_rfl) (by kernel_rfl) (by kernel_rfl) (fun _ _ _ h => h) (by rfl) (by assumption) (by intro w hSw; go_simp) ?_
  try simp only [List.setIfInBounds_toArray, List.set_cons_zero, List.set_cons_succ]
  refine drawn_take 4 7 (.pointer (some ⟨g, 0, none⟩)) rfl rfl (by kernel_rfl) (by kernel_rfl) (by kernel_rfl) (by kernel_rfl) (fun _ _ _ h => h) (by rfl) (by assumption) (by intro w hSw; go_simp) ?_
  try simp only [List.setIfInBounds_toArray, List.set_cons_zero, List.set_cons_succ]
  refine drawn_take 5 8 (.pointer (some ⟨g, 0, none⟩)) rfl rfl (by kernel_rfl) (by kernel_rfl) (by kernel_rfl) (by kernel_rfl) (fun _ _ _ h => h) (by rfl) (by assumption) (by intro w hSw; go_simp) ?_
  try simp only [List.setIfInBounds_toArray, List.set_cons_zero, List.set_cons_succ]
  refine drawn_take 6 9 (.pointer (some ⟨g, 0, none⟩)) rfl rfl (by kernel_rfl) (by kernel_rfl) (by kernel_rfl) (by kernel_rfl) (fun _ _ _ h => h) (by rfl) (by assumption) (by intro w hSw; go_simp) ?_
  try simp only [List.setIfInBounds_toArray, List.set_cons_zero, List.set_cons_succ]
  refine drawn_take 7 10 (.pointer (some ⟨g, 1, none⟩)) rfl rfl (by kernel_rfl) (by kernel_rfl) (by kernel_rfl) (by kernel_rfl) (fun _ _ _ h => h) (by rfl) (by assumption) (by intro w hSw; go_simp) ?_
  try simp only [List.setIfInBounds_toArray, List.set_cons_zero, List.set_cons_succ]
  refine drawn_take 8 11 (.pointer (some ⟨g, 0, none⟩)) rfl rfl (by kernel_rfl) (by kernel_rfl) (by kernel_rfl) (by kernel_rfl) (fun _ _ _ h => h) (by rfl) (by assumption) (by intro w hSw; go_simp) ?_
  try simp only [List.setIfInBounds_toArray, List.set_cons_zero, List.set_cons_succ]
  refine drawn_take 9 12 (.pointer (some ⟨g, 0, none⟩)) rfl rfl (by kernel_rfl) (by kernel_rfl) (by kernel_rfl) (by kernel_rfl) (fun _ _ _ h => h) (by rfl) (by assumption) (by intro w hSw; go_simp) ?_
  try simp only [List.setIfInBounds_toArray, List.set_cons_zero, List.set_cons_succ]
  refine drawn_take 10 13 (.pointer (some ⟨g, 0, none⟩)) rfl rfl (by kernel_rfl) (by kernel_rfl) (by kernel_rfl) (by kernel_rfl) (fun _ _ _ h => h) (by rfl) (by assumption) (by intro w hSw; go_simp) ?_
  try simp only [List.setIfInBounds_toArray, List.set_cons_zero, List.set_cons_succ]
  refine drawn_take 11 14 (.pointer (some ⟨g, 2, none⟩)) rfl rfl (by kernel_rfl) (by kernel_rfl) (by kernel_rfl) (by kernel_rfl) (fun _ _ _ h => h) (by rfl) (by assumption) (by intro w hSw; go_simp) ?_
  try simp only [List.setIfInBounds_toArray, List.set_cons_zero, List.set_cons_succ]
  refine drawn_take 12 15 (.pointer (some ⟨g, 0, none⟩)) rfl rfl (by kernel_rfl) (by kernel_rfl) (by kernel_rfl) (by kernel_rfl) (fun _ _ _ h => h) (by rfl) (by assumption) (by intro w hSw; go_simp) ?_
  try simp only [List.setIfInBounds_toArray, List.set_cons_zero, List.set_cons_succ]
  refine drawn_take 13 16 (.pointer (some ⟨g, 0, none⟩)) rfl rfl (by kernel_rfl) (by kernel_rfl) (by kernel_rfl) (by kernel_rfl) (fun _ _ _ h => h) (by rfl) (by assumption) (by intro w hSw; go_simp) ?_
  try simp only [List.setIfInBounds_toArray, List.set_cons_zero, List.set_cons_succ]
  refine drawn_take 14 17 (.pointer (some ⟨g, 0, none⟩)) rfl rfl (by kernel_rfl) (by kernel_rfl) (by kernel_rfl) (by kernel_rfl) (fun _ _ _ h => h) (by rfl) (by assumption) (by intro w hSw; go_simp) ?_
  try simp only [List.setIfInBounds_toArray, List.set_cons_zero, List.set_cons_succ]
  refine drawn_take 15 18 (.pointer (some ⟨g, 3, none⟩)) rfl rfl (by kernel_rfl) (by kernel_rfl) (by kernel_rfl) (by kernel_rfl) (fun _ _ _ h => h) (by rfl) (by assumption) (by intro w hSw; go_simp) ?_
  try simp only [List.setIfInBounds_toArray, List.set_cons_zero, List.set_cons_succ]
  refine drawn_take 16 19 (.pointer (some ⟨g, 0, none⟩)) rfl rfl (by kernel_rfl) (by kernel_rfl) (by kernel_rfl) (by kernel_rfl) (fun _ _ _ h => h) (by rfl) (by assumption) (by intro w hSw; go_simp) ?_
  try simp only [List.setIfInBounds_toArray, List.set_cons_zero, List.set_cons_succ]
  refine drawn_take 17 20 (.pointer (some ⟨g, 0, none⟩)) rfl rfl (by kernel_rfl) (by kernel_rfl) (by kernel_rfl) (by kernel_rfl) (fun _ _ _ h => h) (by rfl) (by assumption) (by intro w hSw; go_simp) ?_
  try simp only [List.setIfInBounds_toArray, List.set_cons_zero, List.set_cons_succ]
  refine drawn_take 18 21 (.pointer (some ⟨g, 0, none⟩)) rfl rfl (by kernel_rfl) (by kernel_rfl) (by kernel_rfl) (by kernel_rfl) (fun _ _ _ h => h) (by rfl) (by assumption) (by intro w hSw; go_simp) ?_
  try simp only [List.setIfInBounds_toArray, List.set_cons_zero, List.set_cons_succ]
  refine drawn_take 19 22 (.pointer (some ⟨g, 4, none⟩)) rfl rfl (by kernel_rfl) (by kernel_rfl) (by kernel_rfl) (by kernel_rfl) (fun _ _ _ h => h) (by rfl) (by assumption) (by intro w hSw; go_simp) ?_
  try simp only [List.setIfInBounds_toArray, List.set_cons_zero, List.set_cons_succ]
  refine drawn_take 20 23 (.pointer (some ⟨g, 0, none⟩)) rfl rfl (by kernel_rfl) (by kernel_rfl) (by kernel_rfl) (by kernel_rfl) (fun _ _ _ h => h) (by rfl) (by assumption) (by intro w hSw; go_simp) ?_
  try simp only [List.setIfInBounds_toArray, List.set_cons_zero, List.set_cons_succ]
  refine drawn_take 21 24 (.pointer (some ⟨g, 0, none⟩)) rfl rfl (by kernel_rfl) (by kernel_rfl) (by kernel_rfl) (by kernel_rfl) (fun _ _ _ h => h) (by rfl) (by assumption) (by intro w hSw; go_simp) ?_
  try simp only [List.setIfInBounds_toArray, List.set_cons_zero, List.set_cons_succ]
  refine drawn_take 22 25 (.pointer (some ⟨g, 0, none⟩)) rfl rfl (by kernel_rfl) (by kernel_rfl) (by kernel_rfl) (by kernel_rfl) (fun _ _ _ h => h) (by rfl) (by assumption) (by intro w hSw; go_simp) ?_
  try simp only [List.setIfInBounds_toArray, List.set_cons_zero, List.set_cons_succ]
  refine drawn_take 23 26 (.pointer (some ⟨g, 5, none⟩)) rfl rfl (by kernel_rfl) (by kernel_rfl) (by kernel_rfl) (by kernel_rfl) (fun _ _ _ h => h) (by rfl) (by assumption) (by intro w hSw; go_simp) ?_
  try simp only [List.setIfInBounds_toArray, List.set_cons_zero, List.set_cons_succ]
  refine drawn_take 24 27 (.pointer (some ⟨g, 0, none⟩)) rfl rfl (by kernel_rfl) (by kernel_rfl) (by kernel_rfl) (by kernel_rfl) (fun _ _ _ h => h) (by rfl) (by assumption) (by intro w hSw; go_simp) ?_
  try simp only [List.setIfInBounds_toArray, List.set_cons_zero, List.set_cons_succ]
  refine drawn_take 25 28 (.pointer (some ⟨g, 0, none⟩)) rfl rfl (by kernel_rfl) (by kernel_rfl) (by kernel_rfl) (by kernel_rfl) (fun _ _ _ h => h) (by rfl) (by assumption) (by intro w hSw; go_simp) ?_
  try simp only [List.setIfInBounds_toArray, List.set_cons_zero, List.set_cons_succ]
  refine drawn_take 26 29 (.pointer (some ⟨g, 0, none⟩)) rfl rfl (by kernel_rfl) (by kernel_rfl) (by kernel_rfl) (by kernel_rfl) (fun _ _ _ h => h) (by rfl) (by assumption) (by intro w hSw; go_simp) ?_
  try simp only [List.setIfInBounds_toArray, List.set_cons_zero, List.set_cons_succ]
  refine drawn_take 27 30 (.pointer (some ⟨g, 6, none⟩)) rfl rfl (by kernel_rfl) (by kernel_rfl) (by kernel_rfl) (by kernel_rfl) (fun _ _ _ h => h) (by rfl) (by assumption) (by intro w hSw; go_simp) ?_
  try simp only [List.setIfInBounds_toArray, List.set_cons_zero, List.set_cons_succ]
  refine drawn_take 28 31 (.pointer (some ⟨g, 0, none⟩)) rfl rfl (by kernel_rfl) (by kernel_rfl) (by kernel_rfl) (by kernel_rfl) (fun _ _ _ h => h) (by rfl) (by assumption) (by intro w hSw; go_simp) ?_
  try simp only [List.setIfInBounds_toArray, List.set_cons_zero, List.set_cons_succ]
  refine drawn_take 29 32 (.pointer (some ⟨g, 0, none⟩)) rfl rfl (by kernel_rfl) (by kernel_rfl) (by kernel_rfl) (by kernel_rfl) (fun _ _ _ h => h) (by rfl) (by assumption) (by intro w hSw; go_simp) ?_
  try simp only [List.setIfInBounds_toArray, List.set_cons_zero, List.set_cons_succ]
  refine drawn_take 30 33 (.pointer (some ⟨g, 9, none⟩)) rfl rfl (by kernel_rfl) (by kernel_rfl) (by kernel_rfl) (by kernel_rfl) (fun _ _ _ h => h) (by rfl) (by assumption) (by intro w hSw; go_simp) ?_
  try simp only [List.setIfInBounds_toArray, List.set_cons_zero, List.set_cons_succ]
  refine drawn_take 31 34 (.pointer (some ⟨g, 0, none⟩)) rfl rfl (by kernel_rfl) (by kernel_rfl) (by kernel_rfl) (by kernel_rfl) (fun _ _ _ h => h) (by rfl) (by assumption) (by intro w hSw; go_simp) ?_
  try simp only [List.setIfInBounds_toArray, List.set_cons_zero, List.set_cons_succ]
  refine drawn_take 32 35 (.pointer (some ⟨g, 0, none⟩)) rfl rfl (by kernel_rfl) (by kernel_rfl) (by kernel_rfl) (by kernel_rfl) (fun _ _ _ h => h) (by rfl) (by assumption) (by intro w hSw; go_simp) ?_
  try simp only [List.setIfInBounds_toArray, List.set_cons_zero, List.set_cons_succ]
  refine drawn_take 33 36 (.pointer (some ⟨g, 0, none⟩)) rfl rfl (by kernel_rfl) (by kernel_rfl) (by kernel_rfl) (by kernel_rfl) (fun _ _ _ h => h) (by rfl) (by assumption) (by intro w hSw; go_simp) ?_
  try simp only [List.setIfInBounds_toArray, List.set_cons_zero, List.set_cons_succ]
  refine drawn_take 34 37 (.pointer (some ⟨g, 8, none⟩)) rfl rfl (by kernel_rfl) (by kernel_rfl) (by kernel_rfl) (by kernel_rfl) (fun _ _ _ h => h) (by rfl) (by assumption) (by intro w hSw; go_simp) ?_
  try simp only [List.setIfInBounds_toArray, List.set_cons_zero, List.set_cons_succ]
  refine drawn_take 35 38 (.agg #[fp18 g 0, fp18 g 1, fp18 g 2, fp18 g 3, fp18 g 4, fp18 g 5, fp18 g 6, fp18 g 9, fp18 g 8]) rfl rfl (by kernel_rfl) (by kernel_rfl) (by kernel_rfl) (by kernel_rfl) (fun _ _ _ h => h) (by rfl) (by assumption) (by intro w hSw; go_simp) ?_
  try simp only [List.setIfInBounds_toArray, List.set_cons_zero, List.set_cons_succ]
  refine drawn_last (z := 36) rfl (by kernel_rfl) (by kernel_rfl) (by kernel_rfl) (fun K1 hK => ?_)
  refine put_box r 0 #[fp18 g 0, fp18 g 1, fp18 g 2, fp18 g 3, fp18 g 4, fp18 g 5, fp18 g 6, fp18 g 9, fp18 g 8] (HBD.out.there (Nat.le_refl 9)) rfl rfl HSI.out HON.out ?_
  refine hK.out _ _ ?_
  clear hK K1
  have HB9 := Lib.hid (HBD.out.all #[fp18 g 0, fp18 g 1, fp18 g 2, fp18 g 3, fp18 g 4, fp18 g 5, fp18 g 6, fp18 g 9, fp18 g 8] rfl)
  have HT9 : Hid (Turn (fun _ => False) w (wd.setCells r 0 (Array.toList #[fp18 g 0, fp18 g 1, fp18 g 2, fp18 g 3, fp18 g 4, fp18 g 5, fp18 g 6, fp18 g 9, fp18 g 8]))) := HTD.out.trans (turn_setCells (S := fun k => k = r) rfl _ _ _) (fun k hk e => by have := HLE.out; omega)
  generalize wd.setCells r 0 _ = w9 at *
  go_wp2
  refine bodyPost_ret (v := fv18 g) ?_ rfl ⟨rfl, HT9.out⟩
  rw [results_cell rfl]
  obtain ⟨d0, d1, d2, d3, d4, d5, d6, d7, d8⟩ : w9.cell? ⟨r, 0, none⟩ = some (fp18 g 0) ∧ w9.cell? ⟨r, 1, none⟩ = some (fp18 g 1) ∧ w9.cell? ⟨r, 2, none⟩ = some (fp18 g 2) ∧ w9.cell? ⟨r, 3, none⟩ = some (fp18 g 3) ∧ w9.cell? ⟨r, 4, none⟩ = some (fp18 g 4) ∧ w9.cell? ⟨r, 5, none⟩ = some (fp18 g 5) ∧ w9.cell? ⟨r, 6, none⟩ = some (fp18 g 6) ∧ w9.cell? ⟨r, 7, none⟩ = some (fp18 g 9) ∧ w9.cell? ⟨r, 8, none⟩ = some (fp18 g 8) := ⟨HB9.out.cell 0, HB9.out.cell 1, HB9.out.cell 2, HB9.out.cell 3, HB9.out.cell 4, HB9.out.cell 5, HB9.out.cell 6, HB9.out.cell 7, HB9.out.cell 8⟩
  go_simp

end Go.Proofs.Ytkkgipieahhmbaa

/-
  Stage 18: the program's bounds.
-/
namespace Go.Proofs.Ytkkgipieahhmbaa
open Go.RowKit

set_option maxRecDepth 100000

set_option maxHeartbeats 4000000 in
theorem bounds_any18 (w : World) : Calls Try.prog 38 #[] w fun e w' => e = .returned (.agg bcells18) ∧ Turn (fun _ => False) w w' := by
  go_enter Try.func38, Try.ntmps38
  go_wp2_with fail
  obtain ⟨w9, hw9⟩ : ∃ w9, w9 = ((w.alloc (.cells bcells18 75)).alloc (.cells #[.int .i64 1, .int .i64 1048576] 74)).alloc (.cells #[.int .i64 0, .int .i64 1048576] 74) := ⟨_, rfl⟩
  have HB : Hid (Box w9 w.heap.size 75 bcells18) := by rw [hw9]; exact ((Box.new w _ _).alloc _).alloc _
  have HT : Hid (Turn (fun _ => False) w w9) := by rw [hw9]; exact (((Turn.refl _ w).alloc _).alloc _).alloc _
  unfold bcells18 at hw9
  rw [← hw9]
  clear hw9
  refine bodyPost_ret (v := .agg bcells18) ?_ rfl ⟨rfl, HT.out⟩
  exact results_cell_row rfl _ w9 w.heap.size 75 bcells18 _ (.array 9 74) rfl HB.out (by kernel_rfl) rfl (by kernel_rfl)

end Go.Proofs.Ytkkgipieahhmbaa

/-
  Stage 18: the program's check of a wide policy; widened; Check.
-/
namespace Go.Proofs.Ytkkgipieahhmbaa
open Go.RowKit

set_option maxRecDepth 100000

def off18 (i : Nat) : Nat := if i = 7 then 9 else i
def num18 (p : Y18) (i : Nat) : Int := (numsY p).getD i 0
def least18 (i : Nat) : Int := [1, 0, 0, 0, 0, 1, 1, 1, 100].getD i 0
def most18 (i : Nat) : Int := if i = 7 then 64 else 1048576
theorem ptrs_at18 (g : Nat) {i : Nat} (h : i < 9) : (#[fp18 g 0, fp18 g 1, fp18 g 2, fp18 g 3, fp18 g 4, fp18 g 5, fp18 g 6, fp18 g 9, fp18 g 8] : Array Value)[i]? = some (fp18 g (off18 i)) := by
  match i, h with
  | 0, _ => rfl
  | 1, _ => rfl
  | 2, _ => rfl
  | 3, _ => rfl
  | 4, _ => rfl
  | 5, _ => rfl
  | 6, _ => rfl
  | 7, _ => rfl
  | 8, _ => rfl
theorem run_ptr18 (g : Nat) {i : Nat} (h : i < 9) (W : World) : Sem.run Try.prog (Instr.index 52 (fv18 g) (.int .i64 (i : Int))) W = .ok (fp18 g (off18 i)) W := by
  match i, h with
  | 0, _ => rfl
  | 1, _ => rfl
  | 2, _ => rfl
  | 3, _ => rfl
  | 4, _ => rfl
  | 5, _ => rfl
  | 6, _ => rfl
  | 7, _ => rfl
  | 8, _ => rfl
theorem wide_at18 {w : World} {g : Nat} {t : TypeId} {p : Y18} {x : Int} (hb : Box w g t (wcells18 p x)) {i : Nat} (h : i < 9) : w.cell? ⟨g, off18 i, none⟩ = some (.int .i64 (num18 p i)) := by
  match i, h with
  | 0, _ => exact hb.cell 0
  | 1, _ => exact hb.cell 1
  | 2, _ => exact hb.cell 2
  | 3, _ => exact hb.cell 3
  | 4, _ => exact hb.cell 4
  | 5, _ => exact hb.cell 5
  | 6, _ => exact hb.cell 6
  | 7, _ => exact hb.cell 9
  | 8, _ => exact hb.cell 8
theorem bound_at18 {w : World} {g : Nat} {t : TypeId} (hb : Box w g t bcells18) {i : Nat} (h : i < 9) : w.cell? ⟨g, 2 * i, none⟩ = some (.int .i64 (least18 i)) ∧ w.cell? ⟨g, 2 * i + 1, none⟩ = some (.int .i64 (most18 i)) := by
  match i, h with
  | 0, _ => exact ⟨hb.cell 0, hb.cell 1⟩
  | 1, _ => exact ⟨hb.cell 2, hb.cell 3⟩
  | 2, _ => exact ⟨hb.cell 4, hb.cell 5⟩
  | 3, _ => exact ⟨hb.cell 6, hb.cell 7⟩
  | 4, _ => exact ⟨hb.cell 8, hb.cell 9⟩
  | 5, _ => exact ⟨hb.cell 10, hb.cell 11⟩
  | 6, _ => exact ⟨hb.cell 12, hb.cell 13⟩
  | 7, _ => exact ⟨hb.cell 14, hb.cell 15⟩
  | 8, _ => exact ⟨hb.cell 16, hb.cell 17⟩
/-- The first so many fields are right. -/
def okTo18 (p : Y18) : Nat → Bool
  | 0 => true
  | i + 1 => okTo18 p i && in18 (num18 p i) (least18 i) (most18 i)
theorem ok_all18 (p : Y18) : okTo18 p 9 = okY p := by
  show (((((((((true && in18 p.rt 1 1048576) && in18 p.sl 0 1048576) && in18 p.dl 0 1048576) && in18 p.ml 0 1048576) && in18 p.cl 0 1048576) && in18 p.ba 1 1048576) && in18 p.ca 1 1048576) && in18 p.qu 1 64) && in18 p.wa 100 1048576) = _
  unfold okY
  simp only [Bool.true_and, Bool.and_assoc]
theorem ok_to18 {p : Y18} : ∀ {n i : Nat}, okTo18 p n = true → i < n → in18 (num18 p i) (least18 i) (most18 i) = true
  | 0, _, _, h => absurd h (by omega)
  | n + 1, i, h, hi => by
    unfold okTo18 at h
    rw [Bool.and_eq_true] at h
    rcases Nat.lt_or_ge i n with h1 | h1
    · exact ok_to18 h.1 h1
    · obtain rfl : i = n := by omega
      exact h.2
theorem chk_bad18 {p : Y18} {i : Nat} (hi : i < 9) (h : in18 (num18 p i) (least18 i) (most18 i) = false) : chkY p = 2 := by
  unfold chkY
  cases ho : okY p with
  | false => rfl
  | true =>
    rw [← ok_all18] at ho
    rw [ok_to18 ho hi] at h
    cases h
theorem chk_good18 {p : Y18} (h : okTo18 p 9 = true) : chkY p = 0 := by
  rw [ok_all18] at h
  unfold chkY
  rw [h]
  rfl

set_option maxHeartbeats 8000000 in
theorem wcheck_any18 (p : Y18) (x : Int) (g : Nat) (w : World) (hb : Box w g 67 (wcells18 p x)) : Calls Try.prog 28 #[.pointer (some ⟨g, 0, none⟩)] w fun e w' => e = .returned (.int .i64 (chkY p)) ∧ Turn (fun _ => False) w w' := by
  have HB := Lib.hid hb
  have HBN := Lib.hid (bounds_any18 w)
  clear hb
  go_enter Try.func28, Try.ntmps28
  go_wp2_with fail
  refine HBN.out.mono ?_
  rintro e w1 ⟨rfl, t1⟩
  clear HBN
  obtain ⟨b, hb⟩ : ∃ b, b = w1.heap.size := ⟨_, rfl⟩
  obtain ⟨w2, hw2⟩ : ∃ w2, w2 = w1.alloc (.cells bcells18 75) := ⟨_, rfl⟩
  have HBB : Hid (Box w2 b 75 bcells18) := by rw [hw2, hb]; exact Box.new _ _ _
  have HT2 : Hid (Turn (fun _ => False) w w2) := by rw [hw2]; exact t1.alloc _
  have HB2 : Hid (Box w2 g 67 (wcells18 p x)) := HB.out.turn HT2.out (fun f => f)
  have HW2 := Lib.hid hw2; have HBE := Lib.hid hb
  clear t1 HB hw2 hb
  go_wp2_with fail
  have hwe := HW2.out
  unfold bcells18 at hwe
  rw [← hwe, ← HBE.out]
  clear hwe HW2 HBE
  refine (fields_any18 g w2).mono ?_
  rintro e w3 ⟨rfl, t3⟩
  have HBB3 : Hid (Box w3 b 75 bcells18) := HBB.out.turn t3 (fun f => f)
  have HT3 : Hid (Turn (fun _ => False) w w3) := HT2.out.trans t3 (fun _ _ f => f)
  have HB3 : Hid (Box w3 g 67 (wcells18 p x)) := HB2.out.turn t3 (fun f => f)
  clear t3 HBB HT2 HB2
  go_wp2_with fail
  go_loopw [9] (fun x9 wr => ∃ i : Nat, x9 = .int .i64 (i : Int) ∧ i ≤ 9 ∧ okTo18 p i = true ∧ Turn (fun _ => False) w3 wr) (fun x9 _ => 9 - (intOf x9).toNat)
  case atStart => exact ⟨0, rfl, Nat.zero_le _, rfl, Turn.refl _ w3⟩
  case round =>
    obtain ⟨i, rfl, hi, hok, ht⟩ := hrel
    have HOK := Lib.hid hok; have HTR := Lib.hid ht
    clear hok ht
    by_cases hlt : i < 9
    · have hil : (i : Int) < 9 := by omega
      have hpt := run_ptr18 g hlt
      have a0 := wide_at18 (HB3.out.turn HTR.out (fun f => f)) hlt
      obtain ⟨a1, a2⟩ := bound_at18 (HBB3.out.turn HTR.out (fun f => f)) hlt
      have HIN : Hid (okTo18 p (i + 1) = (okTo18 p i && in18 (num18 p i) (least18 i) (most18 i))) := rfl
      have HBAD : Hid (in18 (num18 p i) (least18 i) (most18 i) = false → chkY p = 2) := chk_bad18 hlt
      generalize num18 p i = n at *
      generalize least18 i = lo at *
      generalize most18 i = hi2 at *
      have HWR : Hid (Turn (fun _ => False) w (World.drew wr)) := (HT3.out.trans HTR.out (fun _ _ f => f)).trans (Turn.refl _ wr).drew (fun _ _ f => f)
      have HWD : Hid (Turn (fun _ => False) w3 (World.drew wr)) := HTR.out.trans (Turn.refl _ wr).drew (fun _ _ f => f)
      go_wp2_with fail
      refine drawn_region (fun W => W.cell? ⟨g, off18 i, none⟩ = some (.int .i64 n) ∧ W.cell? ⟨b, 2 * i, none⟩ = some (.int .i64 lo) ∧ W.cell? ⟨b, 2 * i + 1, none⟩ = some (.int .i64 hi2)) [] (by kernel_rfl) ?_
      have hS0 : (World.drew wr).cell? ⟨g, off18 i, none⟩ = some (.int .i64 n) ∧ (World.drew wr).cell? ⟨b, 2 * i, none⟩ = some (.int .i64 lo) ∧ (World.drew wr).cell? ⟨b, 2 * i + 1, none⟩ = some (.int .i64 hi2) := ⟨a0, a1, a2⟩
      clear a0 a1 a2
      generalize World.drew wr = wd at *
      refine drawn_take 0 13 (fp18 g (off18 i)) rfl rfl (by kernel_rfl) (by kernel_rfl) (by kernel_rfl) (by kernel_rfl) (fun _ _ _ h => h) (by rfl) (by assumption) (by intro w hSw; obtain ⟨q0, q1, q2⟩ := hSw; go_simp) ?_
      try simp only [List.setIfInBounds_toArray, List.set_cons_zero, List.set_cons_succ]
      refine drawn_take 1 14 (fp18 g (off18 i)) rfl rfl (by kernel_rfl) (by kernel_rfl) (by kernel_rfl) (by kernel_rfl) (fun _ _ _ h => h) (by rfl) (by assumption) (by intro w hSw; obtain ⟨q0, q1, q2⟩ := hSw; go_simp) ?_
      try simp only [List.setIfInBounds_toArray, List.set_cons_zero, List.set_cons_succ]
      refine drawn_take 2 15 (.int .i64 n) rfl rfl (by kernel_rfl) (by kernel_rfl) (by kernel_rfl) (by kernel_rfl) (fun _ _ _ h => h) (by rfl) (by assumption) (by intro w hSw; obtain ⟨q0, q1, q2⟩ := hSw; go_simp) ?_
      try simp only [List.setIfInBounds_toArray, List.set_cons_zero, List.set_cons_succ]
      refine drawn_take 3 16 (.int .i64 (i : Int)) rfl rfl (by kernel_rfl) (by kernel_rfl) (by kernel_rfl) (by kernel_rfl) (fun _ _ _ h => h) (by rfl) (by assumption) (by intro w hSw; obtain ⟨q0, q1, q2⟩ := hSw; go_simp) ?_
      try simp only [List.setIfInBounds_toArray, List.set_cons_zero, List.set_cons_succ]
      refine drawn_take 4 17 (fp18 b (2 * i)) rfl rfl (by kernel_rfl) (by kernel_rfl) (by kernel_rfl) (by kernel_rfl) (fun _ _ _ h => h) (by rfl) (by assumption) (by intro w hSw; obtain ⟨q0, q1, q2⟩ := hSw; go_simp) ?_
      try simp only [List.setIfInBounds_toArray, List.set_cons_zero, List.set_cons_succ]
      refine drawn_take 5 18 (fp18 b (2 * i)) rfl rfl (by kernel_rfl) (by kernel_rfl) (by kernel_rfl) (by kernel_rfl) (fun _ _ _ h => h) (by rfl) (by assumption) (by intro w hSw; obtain ⟨q0, q1, q2⟩ := hSw; go_simp) ?_
      try simp only [List.setIfInBounds_toArray, List.set_cons_zero, List.set_cons_succ]
      refine drawn_take 6 19 (.int .i64 lo) rfl rfl (by kernel_rfl) (by kernel_rfl) (by kernel_rfl) (by kernel_rfl) (fun _ _ _ h => h) (by rfl) (by assumption) (by intro w hSw; obtain ⟨q0, q1, q2⟩ := hSw; go_simp) ?_
      try simp only [List.setIfInBounds_toArray, List.set_cons_zero, List.set_cons_succ]
      by_cases h1 : n < lo
      · have HC := Lib.hid (HBAD.out (by unfold in18; rw [decide_eq_false (by omega), Bool.false_and]))
        refine drawn_take 7 20 (.bool true) rfl rfl (by kernel_rfl) (by kernel_rfl) (by kernel_rfl) (by kernel_rfl) (fun _ _ _ h => h) (by rfl) (by assumption) (by intro w hSw; obtain ⟨q0, q1, q2⟩ := hSw; go_simp) ?_
        try simp only [List.setIfInBounds_toArray, List.set_cons_zero, List.set_cons_succ]
        refine drawn_take 8 21 (.bool true) rfl rfl (by kernel_rfl) (by kernel_rfl) (by kernel_rfl) (by kernel_rfl) (fun _ _ _ h => h) (by rfl) (by assumption) (by intro w hSw; obtain ⟨q0, q1, q2⟩ := hSw; go_simp) ?_
        try simp only [List.setIfInBounds_toArray, List.set_cons_zero, List.set_cons_succ]
        refine drawn_skip 9 22 rfl rfl (by kernel_rfl) (by kernel_rfl) (by kernel_rfl) (by kernel_rfl) (fun _ _ _ h => h) (by rfl) (fun _ => by assumption) ?_
        try simp only [List.setIfInBounds_toArray, List.set_cons_zero, List.set_cons_succ]
        refine drawn_skip 10 23 rfl rfl (by kernel_rfl) (by kernel_rfl) (by kernel_rfl) (by kernel_rfl) (fun _ _ _ h => h) (by rfl) (fun _ => by assumption) ?_
        try simp only [List.setIfInBounds_toArray, List.set_cons_zero, List.set_cons_succ]
        refine drawn_skip 11 24 rfl rfl (by kernel_rfl) (by kernel_rfl) (by kernel_rfl) (by kernel_rfl) (fun _ _ _ h => h) (by rfl) (fun _ => by assumption) ?_
        try simp only [List.setIfInBounds_toArray, List.set_cons_zero, List.set_cons_succ]
        refine drawn_skip 12 25 rfl rfl (by kernel_rfl) (by kernel_rfl) (by kernel_rfl) (by kernel_rfl) (fun _ _ _ h => h) (by rfl) (fun _ => by assumption) ?_
        try simp only [List.setIfInBounds_toArray, List.set_cons_zero, List.set_cons_succ]
        refine drawn_skip 13 26 rfl rfl (by kernel_rfl) (by kernel_rfl) (by kernel_rfl) (by kernel_rfl) (fun _ _ _ h => h) (by rfl) (fun _ => by assumption) ?_
        try simp only [List.setIfInBounds_toArray, List.set_cons_zero, List.set_cons_succ]
        refine drawn_skip 14 27 rfl rfl (by kernel_rfl) (by kernel_rfl) (by kernel_rfl) (by kernel_rfl) (fun _ _ _ h => h) (by rfl) (fun _ => by assumption) ?_
        try simp only [List.setIfInBounds_toArray, List.set_cons_zero, List.set_cons_succ]
        refine drawn_skip 15 28 rfl rfl (by kernel_rfl) (by kernel_rfl) (by kernel_rfl) (by kernel_rfl) (fun _ _ _ h => h) (by rfl) (fun _ => by assumption) ?_
        try simp only [List.setIfInBounds_toArray, List.set_cons_zero, List.set_cons_succ]
        refine drawn_skip 16 29 rfl rfl (by kernel_rfl) (by kernel_rfl) (by kernel_rfl) (by kernel_rfl) (fun _ _ _ h => h) (by rfl) (fun _ => by assumption) ?_
        try simp only [List.setIfInBounds_toArray, List.set_cons_zero, List.set_cons_succ]
        refine drawn_last1 17 30 (.bool true) rfl rfl (by kernel_rfl) (by kernel_rfl) (by rfl) (by intro w; go_simp) hS0 ?_
        try simp only [List.setIfInBounds_toArray, List.set_cons_zero, List.set_cons_succ]
        go_wp2
        go_ret
        exact ⟨by rw [HC.out]; rfl, HWR.out⟩
      · skip
        refine drawn_take 7 20 (.bool false) rfl rfl (by kernel_rfl) (by kernel_rfl) (by kernel_rfl) (by kernel_rfl) (fun _ _ _ h => h) (by rfl) (by assumption) (by intro w hSw; obtain ⟨q0, q1, q2⟩ := hSw; go_simp) ?_
        try simp only [List.setIfInBounds_toArray, List.set_cons_zero, List.set_cons_succ]
        refine drawn_take 8 21 (.bool false) rfl rfl (by kernel_rfl) (by kernel_rfl) (by kernel_rfl) (by kernel_rfl) (fun _ _ _ h => h) (by rfl) (by assumption) (by intro w hSw; obtain ⟨q0, q1, q2⟩ := hSw; go_simp) ?_
        try simp only [List.setIfInBounds_toArray, List.set_cons_zero, List.set_cons_succ]
        refine drawn_take 9 22 (fp18 g (off18 i)) rfl rfl (by kernel_rfl) (by kernel_rfl) (by kernel_rfl) (by kernel_rfl) (fun _ _ _ h => h) (by rfl) (by assumption) (by intro w hSw; obtain ⟨q0, q1, q2⟩ := hSw; go_simp) ?_
        try simp only [List.setIfInBounds_toArray, List.set_cons_zero, List.set_cons_succ]
        refine drawn_take 10 23 (fp18 g (off18 i)) rfl rfl (by kernel_rfl) (by kernel_rfl) (by kernel_rfl) (by kernel_rfl) (fun _ _ _ h => h) (by rfl) (by assumption) (by intro w hSw; obtain ⟨q0, q1, q2⟩ := hSw; go_simp) ?_
        try simp only [List.setIfInBounds_toArray, List.set_cons_zero, List.set_cons_succ]
        refine drawn_take 11 24 (.int .i64 n) rfl rfl (by kernel_rfl) (by kernel_rfl) (by kernel_rfl) (by kernel_rfl) (fun _ _ _ h => h) (by rfl) (by assumption) (by intro w hSw; obtain ⟨q0, q1, q2⟩ := hSw; go_simp) ?_
        try simp only [List.setIfInBounds_toArray, List.set_cons_zero, List.set_cons_succ]
        refine drawn_take 12 25 (.int .i64 (i : Int)) rfl rfl (by kernel_rfl) (by kernel_rfl) (by kernel_rfl) (by kernel_rfl) (fun _ _ _ h => h) (by rfl) (by assumption) (by intro w hSw; obtain ⟨q0, q1, q2⟩ := hSw; go_simp) ?_
        try simp only [List.setIfInBounds_toArray, List.set_cons_zero, List.set_cons_succ]
        refine drawn_take 13 26 (fp18 b (2 * i)) rfl rfl (by kernel_rfl) (by kernel_rfl) (by kernel_rfl) (by kernel_rfl) (fun _ _ _ h => h) (by rfl) (by assumption) (by intro w hSw; obtain ⟨q0, q1, q2⟩ := hSw; go_simp) ?_
        try simp only [List.setIfInBounds_toArray, List.set_cons_zero, List.set_cons_succ]
        refine drawn_take 14 27 (fp18 b (2 * i + 1)) rfl rfl (by kernel_rfl) (by kernel_rfl) (by kernel_rfl) (by kernel_rfl) (fun _ _ _ h => h) (by rfl) (by assumption) (by intro w hSw; obtain ⟨q0, q1, q2⟩ := hSw; go_simp) ?_
        try simp only [List.setIfInBounds_toArray, List.set_cons_zero, List.set_cons_succ]
        refine drawn_take 15 28 (.int .i64 hi2) rfl rfl (by kernel_rfl) (by kernel_rfl) (by kernel_rfl) (by kernel_rfl) (fun _ _ _ h => h) (by rfl) (by assumption) (by intro w hSw; obtain ⟨q0, q1, q2⟩ := hSw; go_simp) ?_
        try simp only [List.setIfInBounds_toArray, List.set_cons_zero, List.set_cons_succ]
        by_cases h2 : hi2 < n
        · have HC := Lib.hid (HBAD.out (by unfold in18; rw [decide_eq_false (show ¬ n ≤ hi2 by omega), Bool.and_false]))
          refine drawn_take 16 29 (.bool true) rfl rfl (by kernel_rfl) (by kernel_rfl) (by kernel_rfl) (by kernel_rfl) (fun _ _ _ h => h) (by rfl) (by assumption) (by intro w hSw; obtain ⟨q0, q1, q2⟩ := hSw; go_simp) ?_
          try simp only [List.setIfInBounds_toArray, List.set_cons_zero, List.set_cons_succ]
          refine drawn_last1 17 30 (.bool true) rfl rfl (by kernel_rfl) (by kernel_rfl) (by rfl) (by intro w; go_simp) hS0 ?_
          try simp only [List.setIfInBounds_toArray, List.set_cons_zero, List.set_cons_succ]
          go_wp2
          go_ret
          exact ⟨by rw [HC.out]; rfl, HWR.out⟩
        · have HN : Hid (okTo18 p (i + 1) = true) := by show _ = _; rw [HIN.out, HOK.out, in_iff18.2 ⟨by omega, by omega⟩]; rfl
          have HTD : Hid (Turn (fun _ => False) w3 wd) := HWD.out
          refine drawn_take 16 29 (.bool false) rfl rfl (by kernel_rfl) (by kernel_rfl) (by kernel_rfl) (by kernel_rfl) (fun _ _ _ h => h) (by rfl) (by assumption) (by intro w hSw; obtain ⟨q0, q1, q2⟩ := hSw; go_simp) ?_
          try simp only [List.setIfInBounds_toArray, List.set_cons_zero, List.set_cons_succ]
          refine drawn_last1 17 30 (.bool false) rfl rfl (by kernel_rfl) (by kernel_rfl) (by rfl) (by intro w; go_simp) hS0 ?_
          try simp only [List.setIfInBounds_toArray, List.set_cons_zero, List.set_cons_succ]
          go_wp2
          go_roundw
          case rel => exact ⟨i + 1, by go_num, hlt, HN.out, HTD.out⟩
          case measure => simp [intOf]; omega
    · obtain rfl : i = 9 := by omega
      have HCK := Lib.hid (chk_good18 HOK.out)
      go_wp2
      go_ret
      exact ⟨by rw [HCK.out]; rfl, HT3.out.trans HTR.out (fun _ _ f => f)⟩

end Go.Proofs.Ytkkgipieahhmbaa

/-
  A writer of pack (the program's) that is new since a world: one contract a call. For every stage whose code puts bytes so.
-/
namespace Go.Proofs.Ytkkgipieahhmbaa
open Go.RowKit

/-- A writer at p, new since w, that has bytes l. -/
def Wt (w : World) (p : Nat) (wr : World) (l : List UInt8) : Prop := w.heap.size ≤ p ∧ ∃ u, Wr wr p u l ∧ (∀ k, u.ownBlock = some k → w.heap.size ≤ k) ∧ Turn (fun _ => False) w wr
section
variable {w wr w' : World} {p : Nat} {l l' : List UInt8}
theorem Wt.turn (h : Wt w p wr l) : Turn (fun _ => False) w wr := by
  obtain ⟨_, u, _, _, h⟩ := h
  exact h
theorem Wt.later (h : Wt w p wr l) (ht : Turn (fun _ => False) wr w') : Wt w p w' l := by
  obtain ⟨h0, u, ⟨h1, h2⟩, h3, h4⟩ := h
  exact ⟨h0, u, ⟨h1.turn ht (fun f => f), h2.turn ht (fun _ _ f => f)⟩, h3, h4.trans ht (fun _ _ f => f)⟩
theorem Wt.put {u u' : Value} (h0 : w.heap.size ≤ p) (h3 : ∀ k, u.ownBlock = some k → w.heap.size ≤ k) (h4 : Turn (fun _ => False) w wr) (hp : Put wr p u w' u' l') : Wt w p w' l' := by
  obtain ⟨g1, g2, g3⟩ := hp
  refine ⟨h0, u', g1, fun k hk => ?_, h4.trans g2 (fun k hk e => ?_)⟩
  · rcases g3 with e | e
    · exact h3 k (by rw [← e]; exact hk)
    · exact Nat.le_trans h4.size (e k hk)
  · rcases e with e | e
    · omega
    · have := h3 k e; omega
/-- Boxes of other types than a writer's, and a byte's rows, are as they were. -/
def KeepB (w w' : World) : Prop := ∀ g t cs, t ≠ 49 → t ≠ 5 → Box w g t cs → Box w' g t cs
theorem KeepB.of {u u' : Value} (hw : Wr wr p u l) (hp : Put wr p u w' u' l') : KeepB wr w' := by
  intro g t cs h1 h2 hb
  refine hb.turn hp.2.1 (fun e => ?_)
  rcases e with e | e
  · subst e
    have e2 := hw.1.symm.trans hb
    injection e2 with e2
    injection e2 with _ e3
    exact h1 e3.symm
  · exact hw.2.ne_box hb (fun e => h2 e.symm) e
theorem KeepB.trans {a b c : World} (h : KeepB a b) (g : KeepB b c) : KeepB a c := fun k t cs h1 h2 hb => g k t cs h1 h2 (h k t cs h1 h2 hb)
theorem KeepB.refl (w : World) : KeepB w w := fun _ _ _ _ _ h => h
/-- A writer that was just laid. -/
theorem Wt.new (w : World) (hw : Turn (fun _ => False) w wr) : Wt w wr.heap.size (wr.alloc (.cells #[.slice none 0 0] 49)) [] :=
  ⟨hw.size, _, ⟨Box.new wr _ _, By.nil _⟩, (fun k e => by simp [Value.ownBlock] at e), hw.alloc _⟩
theorem wt_num (h : Wt w p wr l) (n : Nat) (hn : Hid (n < 18446744073709551616)) (hl : l.length ≤ 1000000) :
    Calls Try.prog 23 #[.pointer (some ⟨p, 0, none⟩), .int .u64 n] wr fun e w' => e = .returned (.pointer (some ⟨p, 0, none⟩)) ∧ Wt w p w' (l ++ enc n) ∧ KeepB wr w' := by
  obtain ⟨h0, u, h1, h3, h4⟩ := h
  exact (num_put p u l n wr h1 hn hl).mono fun e w' ⟨he, v', hp⟩ => ⟨he, Wt.put h0 h3 h4 hp, KeepB.of h1 hp⟩
theorem wt_bytes (h : Wt w p wr l) (hl : l.length ≤ 1000000) :
    Calls Try.prog 26 #[.pointer (some ⟨p, 0, none⟩)] wr fun e w' => ∃ v', e = .returned v' ∧ Made w w' v' l := by
  obtain ⟨h0, u, h1, h3, h4⟩ := h
  exact (bytes_any p u l wr h1 hl).mono fun e w' ⟨v', he, hb, ht, hk⟩ => ⟨v', he, hb, h4.trans ht (fun _ _ f => f), fun k e => Nat.le_trans h4.size (hk k e)⟩
end

end Go.Proofs.Ytkkgipieahhmbaa

/-
  Stage 18: widened, Check, narrowed, Encode.
-/
namespace Go.Proofs.Ytkkgipieahhmbaa
open Go.RowKit

set_option maxRecDepth 100000

/-- Behind widen: a wide policy in new memory. -/
def Wide18 (w : World) (p : Y18) (e : Ending) (w' : World) : Prop := ∃ g, e = .returned (fp18 g 0) ∧ Box w' g 67 (wcells18 p p.qu) ∧ Turn (fun _ => False) w w' ∧ w.heap.size ≤ g

set_option maxHeartbeats 4000000 in
theorem widen_any18 (p : Y18) (w : World) : Calls Try.prog 24 #[yv18 p] w fun e w' => Wide18 w p e w' := by
  obtain ⟨y0, y1, y2, y3, y4, y5, y6, y7, y8⟩ := box_y18 (Box.new w 23 (ycells18 p))
  obtain ⟨wb, hwb⟩ : ∃ wb, wb = (w.alloc (.cells (ycells18 p) 23)).alloc (.cells (wcells18 p p.qu) 67) := ⟨_, rfl⟩
  have HT : Hid (Turn (fun _ => False) w wb) := by rw [hwb]; exact ((Turn.refl _ w).alloc _).alloc _
  have HBX : Hid (Box wb (w.heap.size + 1) 67 (wcells18 p p.qu)) := by
    have h := Box.new (w.alloc (.cells (ycells18 p) 23)) 67 (wcells18 p p.qu)
    rw [World.size_alloc] at h
    rw [hwb]
    exact h
  have HWB := Lib.hid hwb
  clear hwb
  go_enter Try.func24, Try.ntmps24
  go_wp2
  rw [← HWB.out]
  go_ret
  exact ⟨_, rfl, HBX.out, HT.out, Nat.le_succ _⟩

set_option maxHeartbeats 4000000 in
theorem check_any18 (p : Y18) (w : World) : Calls Try.prog 9 #[yv18 p] w fun e w' => e = .returned (.int .i64 (chkY p)) ∧ Turn (fun _ => False) w w' := by
  obtain ⟨y0, y1, y2, y3, y4, y5, y6, y7, y8⟩ := box_y18 (Box.new w 23 (ycells18 p))
  have HT : Hid (Turn (fun _ => False) w (w.alloc (.cells (ycells18 p) 23))) := (Turn.refl _ w).alloc _
  have HWD := Lib.hid (widen_any18 p (w.alloc (.cells (ycells18 p) 23)))
  go_enter Try.func9, Try.ntmps9
  go_wp2_with fail
  refine HWD.out.mono ?_
  rintro e w1 ⟨g, rfl, hb, t1, -⟩
  have HB := Lib.hid hb; have HT1 := Lib.hid (HT.out.trans t1 (fun _ _ f => f))
  clear hb t1 HWD
  go_wp2_with fail
  refine (wcheck_any18 p p.qu g w1 HB.out).mono ?_
  rintro e w2 ⟨rfl, t2⟩
  have HT2 := Lib.hid (HT1.out.trans t2 (fun _ _ f => f))
  clear t2 HT1 HT
  go_wp2
  go_ret
  exact ⟨rfl, HT2.out⟩

set_option maxHeartbeats 4000000 in
theorem narrow_any18 (p : Y18) (x : Int) (g : Nat) (w : World) (hb : Box w g 67 (wcells18 p x)) : Calls Try.prog 35 #[.pointer (some ⟨g, 0, none⟩)] w fun e w' => e = .returned (yv18 p) ∧ Turn (fun _ => False) w w' := by
  have c0 := hb.cell 0; have c1 := hb.cell 1; have c2 := hb.cell 2; have c3 := hb.cell 3; have c4 := hb.cell 4; have c5 := hb.cell 5; have c6 := hb.cell 6; have c7 := hb.cell 7; have c8 := hb.cell 8; have c9 := hb.cell 9
  have hlt := hb.lt
  clear hb
  go_enter Try.func35, Try.ntmps35
  go_wp2_with fail
  refine bodyPost_ret (v := yv18 p) ?_ rfl ⟨rfl, by first | exact ((Turn.refl _ w).alloc _).alloc _ | exact (Turn.refl _ w).alloc _⟩
  rw [results_cell rfl]
  unfold yv18 ycells18
  go_simp

end Go.Proofs.Ytkkgipieahhmbaa
