/-
  Texts laid one behind the other: Q4o Q4p Q4q.
-/
import Derived.Test.YtamcgoamkakpkaaJocad
import Derived.Lib.SlBytesConst

/-
  Stage 16: what must come at any rate.
-/
namespace Go.Proofs.Ytamcgoamkakpkaa
open Go.RowKit

set_option maxRecDepth 100000

theorem up_one16 (p : List UInt8 × List UInt8) : Up ltN [p] := fun i j a b hij ha hb => by
  have h := (List.getElem?_eq_some_iff.1 hb).1
  simp only [List.length_cons, List.length_nil] at h
  omega
theorem bd_none16 (t : List Bool) (h : t.length ≤ 1000) : BdP16 ⟨[], t⟩ := ⟨⟨up_nil, (fun _ hp => nomatch hp), h⟩, Nat.zero_le _⟩
theorem bd_one16 (n b : List UInt8) (t : List Bool) (h1 : b.length ≤ 4194304) (h2 : t.length ≤ 1000) : BdP16 ⟨[(n, b)], t⟩ :=
  ⟨⟨up_one16 _, fun p hp => by obtain rfl := List.mem_singleton.1 hp; exact h1, h2⟩, by show 1 ≤ 9000; decide⟩
theorem bd_new16 : BdP16 C16.new := ⟨OkC16.new, Nat.zero_le _⟩
theorem rd_const16 (w : World) (x : UInt8) (fr : Nat × Nat) : Rd (w.alloc (.cells #[.int .u8 x.toNat] 5 fr)) (.slice (some ⟨w.heap.size, 0, none⟩) 1 1) [x] := by
  refine ⟨_, _, rfl, ⟨Nat.le_refl _, by decide⟩, (fun e => by cases e), fun ad e j b hj => ?_⟩
  cases e
  have e1 : (⟨w.heap.size, 0, none⟩ : Addr).add j = ⟨w.heap.size, j, none⟩ := by unfold Addr.add; split <;> simp_all
  rw [e1, World.cell?_alloc_mark]
  match j, hj with
  | 0, hj => cases hj; rfl
theorem app_turn16 {w w1 w2 : World} {F : Nat → Prop} (h : Turn (fun _ => False) w w1) (hF : ∀ k, F k → w.heap.size ≤ k) (t : Turn F w1 w2) : Turn (fun _ => False) w w2 :=
  h.trans t (fun k hk f => by have := hF k f; omega)
theorem foot16 {w w1 : World} {F F1 : Nat → Prop} (hF : ∀ k, F k → w.heap.size ≤ k) (h : Turn (fun _ => False) w w1) (f : ∀ k, F1 k → F k ∨ w1.heap.size ≤ k) : ∀ k, F1 k → w.heap.size ≤ k := fun k hk => by
  rcases f k hk with x | x
  · exact hF k x
  · exact Nat.le_trans h.size x

def sA16 : C16 := ⟨[], [true]⟩
def sB16 : C16 := ⟨[], []⟩
def sC16 : C16 := ⟨[([97], [120])], []⟩
theorem do_a16 : fail16 C16.new [true] = sA16 := by kernel_rfl
theorem do_b16 : put16 sA16 [97] [] = (sB16, 14) := by kernel_rfl
theorem do_c16 : put16 sB16 [97] [120] = (sC16, 0) := by kernel_rfl
theorem do_d16 : get16 sC16 [97] = (sC16, ([120], 0)) := by kernel_rfl

set_option maxHeartbeats 4000000 in
theorem alive_any16 (M : World → (Nat → Prop) → Nat → C16 → Prop) (hP : Prog16 M) (w : World) :
    Calls Try.prog 7 #[] w fun e w' => e = .returned (.bool true) ∧ Turn (fun _ => False) w w' := by
  have HP := Lib.hid hP
  clear hP
  have kc := fun (w : World) (C : Array Value) (n c : Nat) => Lib.run_convert_bytes_const (P := Try.prog) w 34 5 C n c Try.underlying34 Try.underlying5
  go_enter Try.func7, Try.ntmps7
  go_wp2_with fail
  refine (HP.out.new _).mono ?_
  rintro e w1 ⟨g, F, rfl, m1, t1, f1⟩
  have HM := Lib.hid (HP.out.later m1 ((Turn.refl (fun _ => False) w1).alloc (.cells (EB16.enc true).toArray 4)))
  have HT := Lib.hid (t1.trans ((Turn.refl (fun _ => False) w1).alloc (.cells (EB16.enc true).toArray 4)) (fun _ _ f => f))
  have HF := Lib.hid f1
  have HX := Lib.hid (one_row EB16 4 w1 true)
  have HFX : Hid (([true] : List Bool) = [] ∨ ∀ k, (Value.slice (some ⟨w1.heap.size, 0, none⟩) 1 1).ownBlock = some k → ¬ F k) := .inr fun k hk hf => by cases hk; exact Nat.lt_irrefl _ (HP.out.lt m1 _ hf)
  clear m1 t1 f1
  go_wp2_with fail
  refine (HP.out.fail _ [true] HM.out bd_new16 HX.out HFX.out (by decide)).mono ?_
  rw [do_a16]
  rintro e w2 ⟨rfl, F2, m2, t2, f2⟩
  have HT2 := Lib.hid (app_turn16 HT.out HF.out t2)
  have HF2 := Lib.hid (foot16 HF.out HT.out f2)
  have HM2 : Hid (M w2 F2 g sA16) := m2
  clear HM m2 t2 f2 HT HF HX HFX
  go_wp2_with fail
  refine (HP.out.put [97] _ [] HM2.out (bd_none16 _ (by decide)) (Rd.none _) (.inl rfl) (by decide)).mono ?_
  rw [do_b16]
  rintro e w3 ⟨rfl, F3, m3, t3, f3⟩
  have HM3 := Lib.hid (HP.out.later m3 ((Turn.refl (fun _ => False) w3).alloc (.cells #[.int .u8 120] 5 (1, 2))))
  have HT3 := Lib.hid ((app_turn16 HT2.out HF2.out t3).trans ((Turn.refl (fun _ => False) w3).alloc (.cells #[.int .u8 120] 5 (1, 2))) (fun _ _ f => f))
  have HF3 := Lib.hid (foot16 HF2.out HT2.out f3)
  have HFY : Hid (([120] : List UInt8) = [] ∨ ∀ k, (Value.slice (some ⟨w3.heap.size, 0, none⟩) 1 1).ownBlock = some k → ¬ F3 k) := .inr fun k hk hf => by cases hk; exact Nat.lt_irrefl _ (HP.out.lt m3 _ hf)
  clear HM2 m3 t3 f3 HT2 HF2
  go_wp2_with fail
  refine (HP.out.put [97] _ [120] HM3.out (bd_none16 _ (by decide)) (rd_const16 w3 120 (1, 2)) HFY.out (by decide)).mono ?_
  rw [do_c16]
  rintro e w4 ⟨rfl, F4, m4, t4, f4⟩
  have HT4 := Lib.hid (app_turn16 HT3.out HF3.out t4)
  have HF4 := Lib.hid (foot16 HF3.out HT3.out f4)
  have HM4 : Hid (M w4 F4 g sC16) := m4
  clear HM3 m4 t4 f4 HT3 HF3
  go_wp2_with fail
  refine (HP.out.get [97] HM4.out (bd_one16 _ _ _ (by decide) (by decide))).mono ?_
  rw [do_d16]
  rintro e w5 ⟨v, rfl, hv, -, F5, m5, t5, f5, -⟩
  have HT5 := Lib.hid (app_turn16 HT4.out HF4.out t5)
  have HM5 : Hid (M w5 F5 g sC16) := m5
  obtain ⟨A, c, rfl⟩ := hv.shape
  have hcv : (convert 34 9 (.slice A 1 c)).run Try.prog w5 = .ok (.string ⟨#[120]⟩) w5 := hv.string
  have HW : Hid (Calls Try.prog 12 #[.pointer (some ⟨g, 0, none⟩)] w5 fun e w' => SaysP16 w5 (.int .i64 0) e w') := HP.out.waits HM5.out (bd_one16 _ _ _ (by decide) (by decide))
  clear hv m5 t5 f5 HM4 HT4 HF4
  go_wp2_with fail
  refine HW.out.mono ?_
  rintro e w6 ⟨rfl, t6⟩
  have HT6 := Lib.hid (HT5.out.trans t6 (fun _ _ f => f))
  clear t6 hcv
  go_wp2
  go_ret
  exact ⟨rfl, HT6.out⟩

end Go.Proofs.Ytamcgoamkakpkaa

/-
  Stage 16: ColdPlays, of any store of the program (Prog16).
-/
namespace Go.Proofs.Ytamcgoamkakpkaa
open Go.RowKit

set_option maxRecDepth 100000

theorem cell_lt16 {w : World} {p : Addr} {v : Value} (h : w.cell? p = some v) : p.block < w.heap.size := by
  rcases Nat.lt_or_ge p.block w.heap.size with c | c
  · exact c
  · unfold World.cell? at h
    rw [Array.getElem?_eq_none c] at h
    cases h
theorem far_of16 {w : World} {v : Value} {b : List UInt8} (h : Rd w v b) {S : Nat → Prop} (hS : ∀ k, S k → w.heap.size ≤ k) : b = [] ∨ ∀ k, v.ownBlock = some k → ¬ S k := by
  cases b with
  | nil => exact .inl rfl
  | cons x r =>
    refine .inr fun k hk hs => ?_
    obtain ⟨A, c, rfl, -, -, h3⟩ := h
    cases A with
    | none => cases hk
    | some ad =>
      cases hk
      have h1 := cell_lt16 (h3 ad rfl 0 x rfl)
      rw [add_block] at h1
      have := hS _ hs
      omega
theorem tfar_of16 {w : World} {v : Value} {l : List Bool} (h : RdE EB16 w v l) {S : Nat → Prop} (hS : ∀ k, S k → w.heap.size ≤ k) : l = [] ∨ ∀ k, v.ownBlock = some k → ¬ S k := by
  cases l with
  | nil => exact .inl rfl
  | cons x r =>
    refine .inr fun k hk hs => ?_
    obtain ⟨A, c, rfl⟩ := h.shape
    obtain ⟨ad, rfl, hc⟩ := turn_at16 h (j := 0) (p := x) rfl
    cases hk
    have h1 := cell_lt16 (hc w (Turn.refl _ _))
    rw [add_block] at h1
    have := hS _ hs
    omega
theorem AcOk16.later {w w' : World} {a : AC16} (h : AcOk16 w a) (ht : Turn (fun _ => False) w w') : AcOk16 w' a := ⟨h.kind, h.nm, h.b.later ht, h.bl, h.t.later ht, h.tn⟩
theorem light_short16 {l : List AC16} (h : light16 l = true) : l.length ≤ 100 ∧ ∀ a ∈ l, short16 a = true := by
  unfold light16 at h
  rw [Bool.and_eq_true, List.all_eq_true] at h
  exact ⟨of_decide_eq_true h.1, h.2⟩
theorem short_of16 {a : AC16} (h : short16 a = true) : a.nm.length ≤ 60 ∧ a.b.length ≤ 100 ∧ a.t.length ≤ 1100 := by
  unfold short16 at h
  rw [Bool.and_eq_true, Bool.and_eq_true] at h
  exact ⟨of_decide_eq_true h.1.1, of_decide_eq_true h.1.2, of_decide_eq_true h.2⟩

/-- Ahead of act number i. -/
structure Play16 (M : World → (Nat → Prop) → Nat → C16 → Prop) (w0 w : World) (g r : Nat) (i : Nat) (F : Nat → Prop) (sl tl : Value) (s : C16) : Prop where
  both : Both16 M w F g r sl tl s
  ok : OkC16 s
  len : s.l.length ≤ i
  turn : Turn (fun _ => False) w0 w
  foot : ∀ k, F k → w0.heap.size ≤ k
  ref : w0.heap.size ≤ r
def Plays16 (M : World → (Nat → Prop) → Nat → C16 → Prop) (w0 w : World) (g r : Nat) (i : Nat) : Prop := ∃ F sl tl s, Play16 M w0 w g r i F sl tl s
section
variable {M : World → (Nat → Prop) → Nat → C16 → Prop} {w0 w : World} {g r i : Nat} {F : Nat → Prop} {sl tl : Value} {s : C16}
theorem Play16.later (hP : Prog16 M) (h : Play16 M w0 w g r i F sl tl s) {W : World} (ht : Turn (fun _ => False) w W) : Play16 M w0 W g r i F sl tl s :=
  ⟨both_later16 hP h.both ht, h.ok, h.len, h.turn.trans ht (fun _ _ f => f), h.foot, h.ref⟩
theorem Play16.bd (h : Play16 M w0 w g r i F sl tl s) (hi : i ≤ 9000) : BdP16 s := ⟨h.ok, Nat.le_trans h.len hi⟩
theorem Play16.act (hP : Prog16 M) (h : Play16 M w0 w g r i F sl tl s) (hi : i ≤ 9000) {a : AC16} (ho : AcOk16 w0 a) (hs : short16 a = true) : Act16 M w F g r sl tl s a :=
  ⟨hP, h.both, h.bd hi, ho.later h.turn, far_of16 ho.b (fun k hk => hk.elim (h.foot k) (fun e => e ▸ h.ref)), tfar_of16 ho.t (fun k hk => hk.elim (h.foot k) (fun e => e ▸ h.ref)), short_of16 hs⟩
theorem Play16.next (h : Play16 M w0 w g r i F sl tl s) {a : AC16} {e : Ending} {w' : World} (ha : Acted16 M w F g r (step16 s a) e w') : e = .returned (.bool true) ∧ ∃ F' sl' tl', Play16 M w0 w' g r (i + 1) F' sl' tl' (step16 s a) := by
  obtain ⟨h1, F', sl', tl', hb, ht, hf⟩ := ha
  refine ⟨h1, F', sl', tl', hb, h.ok.step a, Nat.le_trans (step_len16 s a) (Nat.succ_le_succ h.len), h.turn.trans ht (fun k hk x => ?_), fun k hk => ?_, h.ref⟩
  · rcases x with x | x
    · have := h.foot k x; omega
    · have := h.ref; omega
  · rcases hf k hk with x | x
    · exact h.foot k x
    · exact Nat.le_trans h.turn.size x
end

set_option maxHeartbeats 40000000 in
theorem plays_any16 (M : World → (Nat → Prop) → Nat → C16 → Prop) (hP : Prog16 M) (v : Value) (l : List AC16) (w : World) (hv : RdE EA16 w v l) (hl : l.length ≤ maxLen) (ho : ∀ a ∈ l, AcOk16 w a) :
    Calls Try.prog 3 #[v] w fun e w' => e = .returned (.bool true) ∧ Turn (fun _ => False) w w' := by
  have HP := Lib.hid hP; have HV := Lib.hid hv; have HO := Lib.hid ho
  have HL := Lib.hid (light_any16 v l w hv hl (fun a ha => ⟨(ho a ha).nm, (ho a ha).bl, (ho a ha).tn⟩))
  have HAL : Hid (∀ W, Calls Try.prog 7 #[] W fun e w' => e = .returned (.bool true) ∧ Turn (fun _ => False) W w') := fun W => alive_any16 M hP W
  obtain ⟨A, c, rfl⟩ := hv.shape
  clear hP hv hl ho
  go_enter Try.func3, Try.ntmps3
  go_wp2_with fail
  refine HL.out.mono ?_
  rintro e w1 ⟨rfl, hw1⟩
  subst hw1
  clear HL
  cases hli : light16 l with
  | false =>
    clear hli
    have HTX : Hid (Turn (fun _ => False) w1 w1) := Turn.refl _ _
    go_wp2_with fail
    refine (HAL.out _).mono ?_
    rintro e wz ⟨rfl, tz⟩
    have HTZ := Lib.hid (HTX.out.trans tz (fun _ _ f => f))
    clear tz
    go_wp2
    go_ret
    exact ⟨rfl, HTZ.out⟩
  | true =>
    obtain ⟨hl1, hl2⟩ := light_short16 hli
    have HSH := Lib.hid hl2
    clear hli hl2
    go_wp2_with fail
    refine (HP.out.new _).mono ?_
    rintro e w2 ⟨g, F, rfl, m2, t2, f2⟩
    obtain ⟨w3, hw3⟩ : ∃ w3, w3 = w2.alloc (.cells #[.slice none 0 0, .slice none 0 0] 31) := ⟨_, rfl⟩
    obtain ⟨r, hr⟩ : ∃ r, r = w2.heap.size := ⟨_, rfl⟩
    have HPL : Hid (Plays16 M w1 w3 g r 0) := by
      refine ⟨F, .slice none 0 0, .slice none 0 0, C16.new, ⟨⟨?_, ⟨?_, RdE.nil _, RdE.nil _, (by simp [Value.ownBlock]), (by simp [Value.ownBlock]), (fun k e => by simp [Value.ownBlock] at e), (fun k e => by simp [Value.ownBlock] at e)⟩, ?_, (fun k e => by simp [Value.ownBlock] at e), (fun k e => by simp [Value.ownBlock] at e)⟩, OkC16.new, Nat.le_refl _, ?_, f2, ?_⟩⟩
      · rw [hw3]
        exact HP.out.later m2 ((Turn.refl (fun _ => False) w2).alloc _)
      · rw [hw3, hr]
        exact Box.new w2 _ _
      · intro hf
        have := HP.out.lt m2 r hf
        omega
      · rw [hw3]
        exact t2.alloc _
      · rw [hr]
        exact t2.size
    have HW3 := Lib.hid hw3; have HR := Lib.hid hr
    clear m2 t2 f2 hw3 hr
    go_wp2_with fail
    rw [← HW3.out, ← HR.out]
    clear HW3 HR
    go_loopw [5] (fun x5 wr => ∃ i : Nat, x5 = .int .i64 (i : Int) ∧ i ≤ l.length ∧ Plays16 M w1 wr g r i) (fun x5 _ => l.length - (intOf x5).toNat)
    case atStart => exact ⟨0, rfl, Nat.zero_le _, HPL.out⟩
    case round =>
      obtain ⟨i, rfl, hi, hpl⟩ := hrel
      obtain ⟨F, sl, tl, s, hp⟩ := hpl
      have HPY := Lib.hid hp
      clear hp HPL
      by_cases hlt : i < l.length
      · obtain ⟨a, ha⟩ : ∃ a, l[i]? = some a := ⟨_, List.getElem?_eq_getElem hlt⟩
        obtain ⟨ad, rfl, hc⟩ := act_at16 HV.out ha
        have HC := Lib.hid hc
        have hm := List.mem_of_getElem? ha
        have HOA := Lib.hid (HO.out a hm)
        have hil : (i : Int) < l.length := by omega
        have HBD0 : Hid (BdP16 s) := HPY.out.bd (by omega)
        have HFN : Hid (∀ W, Turn (fun _ => False) wr W → Calls Try.prog 9 #[.pointer (some ⟨r, 0, none⟩), sv16 a.nm] W fun e w' => e = .returned (.tuple #[.int .i64 (plc ltN s.l a.nm : Int), .bool (hasK ltN s.l a.nm)]) ∧ Turn (fun _ => False) W w') := fun W ht => ref_find16 r sl tl s a.nm W (HPY.out.later HP.out ht).both.doc (by have := HBD0.out.len; omega)
        have HHA : Hid (∀ W, Turn (fun _ => False) wr W → Calls Try.prog 10 #[.pointer (some ⟨g, 0, none⟩), sv16 a.nm] W fun e w' => SaysP16 W (.bool (hasK ltN s.l a.nm)) e w') := fun W ht => HP.out.has _ (HPY.out.later HP.out ht).both.prog HBD0.out
        have HACT : Hid (∀ W, Turn (fun _ => False) wr W → Calls Try.prog 11 #[.pointer (some ⟨g, 0, none⟩), .pointer (some ⟨r, 0, none⟩), .agg (acells16 a)] W fun e w' => Acted16 M W F g r (step16 s a) e w') := fun W ht => act_any16 M W F g r sl tl s a ((HPY.out.later HP.out ht).act HP.out (by omega) HOA.out (HSH.out a hm))
        have HNX : Hid (∀ W e w', Turn (fun _ => False) wr W → Acted16 M W F g r (step16 s a) e w' → e = .returned (.bool true) ∧ ∃ F' sl' tl', Play16 M w1 w' g r (i + 1) F' sl' tl' (step16 s a)) := fun W e w' ht h => (HPY.out.later HP.out ht).next h
        have HTW : Hid (Turn (fun _ => False) w1 wr) := HPY.out.turn
        obtain ⟨-, x1, -, -⟩ := hc wr HTW.out
        clear hc hm ha
        generalize hasK ltN s.l a.nm = hh at *
        generalize plc ltN s.l a.nm = P at *
        go_wp2_with fail
        refine (HFN.out wr (Turn.refl _ _)).mono ?_
        rintro e wq ⟨rfl, tq⟩
        have HTQ := Lib.hid tq
        clear tq x1 HFN
        go_wp2_with fail
        refine drawn_region (fun W => Turn (fun _ => False) w1 W) [] (by kernel_rfl) ?_
        have HD0 : Hid (Turn (fun _ => False) wr (World.drew wq)) := HTQ.out.trans (Turn.refl _ wq).drew (fun _ _ f => f)
        have hS0 : Turn (fun _ => False) w1 (World.drew wq) := HTW.out.trans HD0.out (fun _ _ f => f)
        generalize World.drew wq = wd at *
        refine drawn_take 0 33 (.pointer (some ⟨g, 0, none⟩)) rfl rfl (by kernel_rfl) (by kernel_rfl) (by kernel_rfl) (by kernel_rfl) (fun _ _ _ h => h) (by rfl) (by assumption) (by intro w hSw; obtain hS1 := hSw; go_simp) ?_
        try simp only [List.setIfInBounds_toArray, List.set_cons_zero, List.set_cons_succ]
        refine drawn_take 1 34 (.slice (some ad) l.length c) rfl rfl (by kernel_rfl) (by kernel_rfl) (by kernel_rfl) (by kernel_rfl) (fun _ _ _ h => h) (by rfl) (by assumption) (by intro w hSw; obtain hS1 := hSw; go_simp) ?_
        try simp only [List.setIfInBounds_toArray, List.set_cons_zero, List.set_cons_succ]
        refine drawn_take 2 35 (.int .i64 (i : Int)) rfl rfl (by kernel_rfl) (by kernel_rfl) (by kernel_rfl) (by kernel_rfl) (fun _ _ _ h => h) (by rfl) (by assumption) (by intro w hSw; obtain hS1 := hSw; go_simp) ?_
        try simp only [List.setIfInBounds_toArray, List.set_cons_zero, List.set_cons_succ]
        refine drawn_take 3 36 (.pointer (some (ad.add (i * 4)))) rfl rfl (by kernel_rfl) (by kernel_rfl) (by kernel_rfl) (by kernel_rfl) (fun _ _ _ h => h) (by rfl) (by assumption) (by intro w hSw; obtain hS1 := hSw; go_simp) ?_
        try simp only [List.setIfInBounds_toArray, List.set_cons_zero, List.set_cons_succ]
        refine drawn_take 4 37 (.pointer (some ⟨(ad.add (i * 4)).block, (ad.add (i * 4)).off + 1, none⟩)) rfl rfl (by kernel_rfl) (by kernel_rfl) (by kernel_rfl) (by kernel_rfl) (fun _ _ _ h => h) (by rfl) (by assumption) (by intro w hSw; obtain hS1 := hSw; go_simp) ?_
        try simp only [List.setIfInBounds_toArray, List.set_cons_zero, List.set_cons_succ]
        refine drawn_take 5 38 (sv16 a.nm) rfl rfl (by kernel_rfl) (by kernel_rfl) (by kernel_rfl) (by kernel_rfl) (fun _ _ _ h => h) (by rfl) (by assumption) (by intro w hSw; obtain ⟨a0, a1, a2, a3⟩ := HC.out w hSw; clear hSw; go_simp) ?_
        try simp only [List.setIfInBounds_toArray, List.set_cons_zero, List.set_cons_succ]
        refine drawn_take 7 40 (.bool hh) rfl rfl (by kernel_rfl) (by kernel_rfl) (by kernel_rfl) (by kernel_rfl) (fun _ _ _ h => h) (by rfl) (by assumption) (by intro w hSw; obtain hS1 := hSw; go_simp) ?_
        try simp only [List.setIfInBounds_toArray, List.set_cons_zero, List.set_cons_succ]
        refine drawn_any [6] (by kernel_rfl) (by simp) ?_
        refine drawn_cons rfl (fun K hK => ?_) drawn_nil
        go_simp
        refine (HHA.out wd HD0.out).mono ?_
        rintro e wh ⟨rfl, th⟩
        have hSh := hS0.trans th (fun _ _ f => f)
        have HDH := Lib.hid (HD0.out.trans th (fun _ _ f => f))
        clear hS0 th HD0 HHA
        refine hK.out _ _ _ hSh ?_
        clear hK K
        try simp only [List.setIfInBounds_toArray, List.set_cons_zero, List.set_cons_succ]
        refine drawn_take 8 41 (.bool false) rfl rfl (by kernel_rfl) (by kernel_rfl) (by kernel_rfl) (by kernel_rfl) (fun _ _ _ h => h) (by rfl) (by assumption) (by intro w hSw; obtain hS1 := hSw; go_simp) ?_
        try simp only [List.setIfInBounds_toArray, List.set_cons_zero, List.set_cons_succ]
        refine drawn_take 9 42 (.bool false) rfl rfl (by kernel_rfl) (by kernel_rfl) (by kernel_rfl) (by kernel_rfl) (fun _ _ _ h => h) (by rfl) (by assumption) (by intro w hSw; obtain hS1 := hSw; go_simp) ?_
        try simp only [List.setIfInBounds_toArray, List.set_cons_zero, List.set_cons_succ]
        refine drawn_take 10 43 (.pointer (some ⟨g, 0, none⟩)) rfl rfl (by kernel_rfl) (by kernel_rfl) (by kernel_rfl) (by kernel_rfl) (fun _ _ _ h => h) (by rfl) (by assumption) (by intro w hSw; obtain hS1 := hSw; go_simp) ?_
        try simp only [List.setIfInBounds_toArray, List.set_cons_zero, List.set_cons_succ]
        refine drawn_take 11 44 (.pointer (some ⟨r, 0, none⟩)) rfl rfl (by kernel_rfl) (by kernel_rfl) (by kernel_rfl) (by kernel_rfl) (fun _ _ _ h => h) (by rfl) (by assumption) (by intro w hSw; obtain hS1 := hSw; go_simp) ?_
        try simp only [List.setIfInBounds_toArray, List.set_cons_zero, List.set_cons_succ]
        refine drawn_take 12 45 (.slice (some ad) l.length c) rfl rfl (by kernel_rfl) (by kernel_rfl) (by kernel_rfl) (by kernel_rfl) (fun _ _ _ h => h) (by rfl) (by assumption) (by intro w hSw; obtain hS1 := hSw; go_simp) ?_
        try simp only [List.setIfInBounds_toArray, List.set_cons_zero, List.set_cons_succ]
        refine drawn_take 13 46 (.int .i64 (i : Int)) rfl rfl (by kernel_rfl) (by kernel_rfl) (by kernel_rfl) (by kernel_rfl) (fun _ _ _ h => h) (by rfl) (by assumption) (by intro w hSw; obtain hS1 := hSw; go_simp) ?_
        try simp only [List.setIfInBounds_toArray, List.set_cons_zero, List.set_cons_succ]
        refine drawn_take 14 47 (.pointer (some (ad.add (i * 4)))) rfl rfl (by kernel_rfl) (by kernel_rfl) (by kernel_rfl) (by kernel_rfl) (fun _ _ _ h => h) (by rfl) (by assumption) (by intro w hSw; obtain hS1 := hSw; go_simp) ?_
        try simp only [List.setIfInBounds_toArray, List.set_cons_zero, List.set_cons_succ]
        refine drawn_take 15 48 (.agg (acells16 a)) rfl rfl (by kernel_rfl) (by kernel_rfl) (by kernel_rfl) (by kernel_rfl) (fun _ _ _ h => h) (by rfl) (by assumption) (by intro w hSw; obtain ⟨a0, a1, a2, a3⟩ := HC.out w hSw; clear hSw; go_simp) ?_
        try simp only [List.setIfInBounds_toArray, List.set_cons_zero, List.set_cons_succ]
        refine drawn_any [16] (by kernel_rfl) (by simp) ?_
        refine drawn_cons rfl (fun K hK => ?_) drawn_nil
        go_simp
        refine (HACT.out wh HDH.out).mono ?_
        intro e w4 hac
        obtain ⟨rfl, F4, sl4, tl4, hp4⟩ := HNX.out _ _ _ HDH.out hac
        have HP4 := Lib.hid hp4
        have hS4 : Turn (fun _ => False) w1 w4 := hp4.turn
        have HBD : Hid (BdP16 (step16 s a)) := hp4.bd (by omega)
        obtain ⟨Bt, ct, htl4⟩ := hp4.both.doc.trow.shape
        clear hac hp4 hSh HACT HNX HDH
        generalize step16 s a = d4 at *
        have HIS : Hid (∀ W, Turn (fun _ => False) w4 W → W.cell? ⟨r, 1, none⟩ = some (.slice Bt d4.t.length ct)) := fun W ht => by rw [← htl4]; exact (HP4.out.later HP.out ht).both.doc.box.cell 1
        have HWA : Hid (∀ W, Turn (fun _ => False) w4 W → Calls Try.prog 12 #[.pointer (some ⟨g, 0, none⟩)] W fun e w' => SaysP16 W (.int .i64 (d4.t.length : Int)) e w') := fun W ht => HP.out.waits (HP4.out.later HP.out ht).both.prog HBD.out
        have HBY : Hid (∀ W, Turn (fun _ => False) w4 W → Calls Try.prog 13 #[.pointer (some ⟨g, 0, none⟩)] W fun e w' => SaysP16 W (.int .i64 (bytes16 d4.l)) e w') := fun W ht => HP.out.bytes (HP4.out.later HP.out ht).both.prog HBD.out
        have HNA : Hid (∀ W, Turn (fun _ => False) w4 W → Calls Try.prog 16 #[.pointer (some ⟨g, 0, none⟩)] W fun e w' => Names16 W (d4.l.map (·.1)) e w') := fun W ht => HP.out.names (HP4.out.later HP.out ht).both.prog HBD.out
        have HRB : Hid (∀ W, Turn (fun _ => False) w4 W → Calls Try.prog 14 #[.pointer (some ⟨r, 0, none⟩)] W fun e w' => SaysP16 W (.int .i64 (bytes16 d4.l)) e w') := fun W ht => ref_bytes16 r sl4 tl4 d4 W (HP4.out.later HP.out ht).both.doc (by have := HBD.out.len; omega) (fun p hp => by have := HBD.out.ok.objs p hp; omega)
        have HRN : Hid (∀ W, Turn (fun _ => False) w4 W → Calls Try.prog 17 #[.pointer (some ⟨r, 0, none⟩)] W fun e w' => Names16 W (d4.l.map (·.1)) e w') := fun W ht => ref_names16 r sl4 tl4 d4 W (HP4.out.later HP.out ht).both.doc (by have := HBD.out.len; omega)
        have HNL : Hid ((d4.l.map (·.1)).length ≤ 1000000) := by show _ ≤ _; rw [List.length_map]; have := HBD.out.len; omega
        have HT4 : Hid (Turn (fun _ => False) w4 w4) := Turn.refl _ _
        clear htl4
        generalize d4.t.length = nt at *
        generalize bytes16 d4.l = nb at *
        generalize d4.l.map (·.1) = nl at *
        refine hK.out _ _ _ hS4 ?_
        clear hK K
        try simp only [List.setIfInBounds_toArray, List.set_cons_zero, List.set_cons_succ]
        refine drawn_take 17 50 (.bool false) rfl rfl (by kernel_rfl) (by kernel_rfl) (by kernel_rfl) (by kernel_rfl) (fun _ _ _ h => h) (by rfl) (by assumption) (by intro w hSw; obtain hS1 := hSw; go_simp) ?_
        try simp only [List.setIfInBounds_toArray, List.set_cons_zero, List.set_cons_succ]
        refine drawn_take 18 51 (.bool false) rfl rfl (by kernel_rfl) (by kernel_rfl) (by kernel_rfl) (by kernel_rfl) (fun _ _ _ h => h) (by rfl) (by assumption) (by intro w hSw; obtain hS1 := hSw; go_simp) ?_
        try simp only [List.setIfInBounds_toArray, List.set_cons_zero, List.set_cons_succ]
        refine drawn_take 19 52 (.bool false) rfl rfl (by kernel_rfl) (by kernel_rfl) (by kernel_rfl) (by kernel_rfl) (fun _ _ _ h => h) (by rfl) (by assumption) (by intro w hSw; obtain hS1 := hSw; go_simp) ?_
        try simp only [List.setIfInBounds_toArray, List.set_cons_zero, List.set_cons_succ]
        refine drawn_take 20 53 (.pointer (some ⟨g, 0, none⟩)) rfl rfl (by kernel_rfl) (by kernel_rfl) (by kernel_rfl) (by kernel_rfl) (fun _ _ _ h => h) (by rfl) (by assumption) (by intro w hSw; obtain hS1 := hSw; go_simp) ?_
        try simp only [List.setIfInBounds_toArray, List.set_cons_zero, List.set_cons_succ]
        refine drawn_take 22 55 (.pointer (some ⟨r, 0, none⟩)) rfl rfl (by kernel_rfl) (by kernel_rfl) (by kernel_rfl) (by kernel_rfl) (fun _ _ _ h => h) (by rfl) (by assumption) (by intro w hSw; obtain hS1 := hSw; go_simp) ?_
        try simp only [List.setIfInBounds_toArray, List.set_cons_zero, List.set_cons_succ]
        refine drawn_take 23 56 (.pointer (some ⟨r, 0, none⟩)) rfl rfl (by kernel_rfl) (by kernel_rfl) (by kernel_rfl) (by kernel_rfl) (fun _ _ _ h => h) (by rfl) (by assumption) (by intro w hSw; obtain hS1 := hSw; go_simp) ?_
        try simp only [List.setIfInBounds_toArray, List.set_cons_zero, List.set_cons_succ]
        refine drawn_take 24 57 (.pointer (some ⟨r, 1, none⟩)) rfl rfl (by kernel_rfl) (by kernel_rfl) (by kernel_rfl) (by kernel_rfl) (fun _ _ _ h => h) (by rfl) (by assumption) (by intro w hSw; obtain hS1 := hSw; go_simp) ?_
        try simp only [List.setIfInBounds_toArray, List.set_cons_zero, List.set_cons_succ]
        refine drawn_any [21, 25] (by kernel_rfl) (by simp) ?_
        refine drawn_cons rfl (fun K hK => ?_) (drawn_cons rfl (fun K hK => ?_) drawn_nil)
        · go_simp
          refine (HWA.out _ HT4.out).mono ?_
          rintro e w6 ⟨rfl, t6⟩
          have hS6 := hS4.trans t6 (fun _ _ f => f)
          have HT6 := Lib.hid (HT4.out.trans t6 (fun _ _ f => f))
          have hx := HIS.out w6 HT6.out
          clear hS4 t6 HT4 HWA
          refine hK.out _ _ _ hS6 ?_
          clear hK K
          try simp only [List.setIfInBounds_toArray, List.set_cons_zero, List.set_cons_succ]
          refine drawn_any [25] (by kernel_rfl) (by simp) ?_
          refine drawn_cons rfl (fun K hK => ?_) drawn_nil
          go_simp
          refine hK.out _ _ _ hS6 ?_
          clear hK K hx
          try simp only [List.setIfInBounds_toArray, List.set_cons_zero, List.set_cons_succ]
          refine drawn_take 26 59 (.int .i64 (nt : Int)) rfl rfl (by kernel_rfl) (by kernel_rfl) (by kernel_rfl) (by kernel_rfl) (fun _ _ _ h => h) (by rfl) (by assumption) (by intro w hSw; obtain hS1 := hSw; go_simp) ?_
          try simp only [List.setIfInBounds_toArray, List.set_cons_zero, List.set_cons_succ]
          refine drawn_take 27 60 (.bool false) rfl rfl (by kernel_rfl) (by kernel_rfl) (by kernel_rfl) (by kernel_rfl) (fun _ _ _ h => h) (by rfl) (by assumption) (by intro w hSw; obtain hS1 := hSw; go_simp) ?_
          try simp only [List.setIfInBounds_toArray, List.set_cons_zero, List.set_cons_succ]
          refine drawn_take 28 61 (.bool false) rfl rfl (by kernel_rfl) (by kernel_rfl) (by kernel_rfl) (by kernel_rfl) (fun _ _ _ h => h) (by rfl) (by assumption) (by intro w hSw; obtain hS1 := hSw; go_simp) ?_
          try simp only [List.setIfInBounds_toArray, List.set_cons_zero, List.set_cons_succ]
          refine drawn_take 29 62 (.bool false) rfl rfl (by kernel_rfl) (by kernel_rfl) (by kernel_rfl) (by kernel_rfl) (fun _ _ _ h => h) (by rfl) (by assumption) (by intro w hSw; obtain hS1 := hSw; go_simp) ?_
          try simp only [List.setIfInBounds_toArray, List.set_cons_zero, List.set_cons_succ]
          refine drawn_take 30 63 (.pointer (some ⟨g, 0, none⟩)) rfl rfl (by kernel_rfl) (by kernel_rfl) (by kernel_rfl) (by kernel_rfl) (fun _ _ _ h => h) (by rfl) (by assumption) (by intro w hSw; obtain hS1 := hSw; go_simp) ?_
          try simp only [List.setIfInBounds_toArray, List.set_cons_zero, List.set_cons_succ]
          refine drawn_take 32 65 (.pointer (some ⟨r, 0, none⟩)) rfl rfl (by kernel_rfl) (by kernel_rfl) (by kernel_rfl) (by kernel_rfl) (fun _ _ _ h => h) (by rfl) (by assumption) (by intro w hSw; obtain hS1 := hSw; go_simp) ?_
          try simp only [List.setIfInBounds_toArray, List.set_cons_zero, List.set_cons_succ]
          refine drawn_any [31] (by kernel_rfl) (by simp) ?_
          refine drawn_cons rfl (fun K hK => ?_) drawn_nil
          go_simp
          refine (HBY.out _ HT6.out).mono ?_
          rintro e w7 ⟨rfl, t7⟩
          have hS7 := hS6.trans t7 (fun _ _ f => f)
          have HT7 := Lib.hid (HT6.out.trans t7 (fun _ _ f => f))
          clear hS6 t7 HT6 HBY
          refine hK.out _ _ _ hS7 ?_
          clear hK K
          try simp only [List.setIfInBounds_toArray, List.set_cons_zero, List.set_cons_succ]
          refine drawn_any [33] (by kernel_rfl) (by simp) ?_
          refine drawn_cons rfl (fun K hK => ?_) drawn_nil
          go_simp
          refine (HRB.out _ HT7.out).mono ?_
          rintro e w8 ⟨rfl, t8⟩
          have hS8 := hS7.trans t8 (fun _ _ f => f)
          have HT8 := Lib.hid (HT7.out.trans t8 (fun _ _ f => f))
          clear hS7 t8 HT7 HRB
          refine hK.out _ _ _ hS8 ?_
          clear hK K
          try simp only [List.setIfInBounds_toArray, List.set_cons_zero, List.set_cons_succ]
          refine drawn_take 34 67 (.bool false) rfl rfl (by kernel_rfl) (by kernel_rfl) (by kernel_rfl) (by kernel_rfl) (fun _ _ _ h => h) (by rfl) (by assumption) (by intro w hSw; obtain hS1 := hSw; go_simp) ?_
          try simp only [List.setIfInBounds_toArray, List.set_cons_zero, List.set_cons_succ]
          refine drawn_take 35 68 (.bool false) rfl rfl (by kernel_rfl) (by kernel_rfl) (by kernel_rfl) (by kernel_rfl) (fun _ _ _ h => h) (by rfl) (by assumption) (by intro w hSw; obtain hS1 := hSw; go_simp) ?_
          try simp only [List.setIfInBounds_toArray, List.set_cons_zero, List.set_cons_succ]
          refine drawn_take 36 69 (.bool false) rfl rfl (by kernel_rfl) (by kernel_rfl) (by kernel_rfl) (by kernel_rfl) (fun _ _ _ h => h) (by rfl) (by assumption) (by intro w hSw; obtain hS1 := hSw; go_simp) ?_
          try simp only [List.setIfInBounds_toArray, List.set_cons_zero, List.set_cons_succ]
          refine drawn_take 37 70 (.pointer (some ⟨g, 0, none⟩)) rfl rfl (by kernel_rfl) (by kernel_rfl) (by kernel_rfl) (by kernel_rfl) (fun _ _ _ h => h) (by rfl) (by assumption) (by intro w hSw; obtain hS1 := hSw; go_simp) ?_
          try simp only [List.setIfInBounds_toArray, List.set_cons_zero, List.set_cons_succ]
          refine drawn_take 39 72 (.pointer (some ⟨r, 0, none⟩)) rfl rfl (by kernel_rfl) (by kernel_rfl) (by kernel_rfl) (by kernel_rfl) (fun _ _ _ h => h) (by rfl) (by assumption) (by intro w hSw; obtain hS1 := hSw; go_simp) ?_
          try simp only [List.setIfInBounds_toArray, List.set_cons_zero, List.set_cons_succ]
          refine drawn_any [38] (by kernel_rfl) (by simp) ?_
          refine drawn_cons rfl (fun K hK => ?_) drawn_nil
          go_simp
          refine (HNA.out _ HT8.out).mono ?_
          rintro e w13 ⟨u1, rfl, hu1, t13⟩
          have hS13 := hS8.trans t13 (fun _ _ f => f)
          have HT13 := Lib.hid (HT8.out.trans t13 (fun _ _ f => f))
          obtain ⟨B1, d1, rfl⟩ := hu1.shape
          have HU1 := Lib.hid hu1
          clear hu1 hS8 t13 HT8 HNA
          refine hK.out _ _ _ hS13 ?_
          clear hK K
          try simp only [List.setIfInBounds_toArray, List.set_cons_zero, List.set_cons_succ]
          refine drawn_any [40] (by kernel_rfl) (by simp) ?_
          refine drawn_cons rfl (fun K hK => ?_) drawn_nil
          go_simp
          refine (HRN.out _ HT13.out).mono ?_
          rintro e w14 ⟨u2, rfl, hu2, t14⟩
          have hS14 := hS13.trans t14 (fun _ _ f => f)
          have HT14 := Lib.hid (HT13.out.trans t14 (fun _ _ f => f))
          obtain ⟨B2, d2, rfl⟩ := hu2.shape
          have HSM : Hid (∀ W, Turn (fun _ => False) w4 W → W = w14 → Calls Try.prog 15 #[.slice B1 nl.length d1, .slice B2 nl.length d2] W fun e w' => e = .returned (.bool true) ∧ Turn (fun _ => False) W w') := fun W _ e => by subst e; exact same_refl10 _ _ nl W (HU1.out.later t14) hu2 HNL.out
          clear hu2 hS13 t14 HT13 HRN
          refine hK.out _ _ _ hS14 ?_
          clear hK K
          try simp only [List.setIfInBounds_toArray, List.set_cons_zero, List.set_cons_succ]
          refine drawn_any [41] (by kernel_rfl) (by simp) ?_
          refine drawn_cons rfl (fun K hK => ?_) drawn_nil
          go_simp
          refine (HSM.out _ HT14.out rfl).mono ?_
          rintro e w15 ⟨rfl, t15⟩
          have hS15 := hS14.trans t15 (fun _ _ f => f)
          have HT15 := Lib.hid (HT14.out.trans t15 (fun _ _ f => f))
          clear hS14 t15 HT14 HSM
          refine hK.out _ _ _ hS15 ?_
          clear hK K
          try simp only [List.setIfInBounds_toArray, List.set_cons_zero, List.set_cons_succ]
          refine drawn_take 42 75 (.bool false) rfl rfl (by kernel_rfl) (by kernel_rfl) (by kernel_rfl) (by kernel_rfl) (fun _ _ _ h => h) (by rfl) (by assumption) (by intro w hSw; obtain hS1 := hSw; go_simp) ?_
          try simp only [List.setIfInBounds_toArray, List.set_cons_zero, List.set_cons_succ]
          refine drawn_last1 43 76 (.bool false) rfl rfl (by kernel_rfl) (by kernel_rfl) (by rfl) (by intro w; go_simp) hS15 ?_
          try simp only [List.setIfInBounds_toArray, List.set_cons_zero, List.set_cons_succ]
          have HP15 := Lib.hid (HP4.out.later HP.out HT15.out)
          clear hS15 HT15 HP4
          go_wp2
          go_roundw
          case rel => exact ⟨i + 1, by go_num, hlt, _, _, _, _, HP15.out⟩
          case measure => simp [intOf]; omega
        · have hx := HIS.out w4 HT4.out
          go_simp
          refine hK.out _ _ _ hS4 ?_
          clear hK K hx
          try simp only [List.setIfInBounds_toArray, List.set_cons_zero, List.set_cons_succ]
          refine drawn_take 26 59 (.int .i64 (nt : Int)) rfl rfl (by kernel_rfl) (by kernel_rfl) (by kernel_rfl) (by kernel_rfl) (fun _ _ _ h => h) (by rfl) (by assumption) (by intro w hSw; obtain hS1 := hSw; go_simp) ?_
          try simp only [List.setIfInBounds_toArray, List.set_cons_zero, List.set_cons_succ]
          refine drawn_any [21] (by kernel_rfl) (by simp) ?_
          refine drawn_cons rfl (fun K hK => ?_) drawn_nil
          go_simp
          refine (HWA.out _ HT4.out).mono ?_
          rintro e w6 ⟨rfl, t6⟩
          have hS6 := hS4.trans t6 (fun _ _ f => f)
          have HT6 := Lib.hid (HT4.out.trans t6 (fun _ _ f => f))
          clear hS4 t6 HT4 HWA
          refine hK.out _ _ _ hS6 ?_
          clear hK K
          try simp only [List.setIfInBounds_toArray, List.set_cons_zero, List.set_cons_succ]
          refine drawn_take 27 60 (.bool false) rfl rfl (by kernel_rfl) (by kernel_rfl) (by kernel_rfl) (by kernel_rfl) (fun _ _ _ h => h) (by rfl) (by assumption) (by intro w hSw; obtain hS1 := hSw; go_simp) ?_
          try simp only [List.setIfInBounds_toArray, List.set_cons_zero, List.set_cons_succ]
          refine drawn_take 28 61 (.bool false) rfl rfl (by kernel_rfl) (by kernel_rfl) (by kernel_rfl) (by kernel_rfl) (fun _ _ _ h => h) (by rfl) (by assumption) (by intro w hSw; obtain hS1 := hSw; go_simp) ?_
          try simp only [List.setIfInBounds_toArray, List.set_cons_zero, List.set_cons_succ]
          refine drawn_take 29 62 (.bool false) rfl rfl (by kernel_rfl) (by kernel_rfl) (by kernel_rfl) (by kernel_rfl) (fun _ _ _ h => h) (by rfl) (by assumption) (by intro w hSw; obtain hS1 := hSw; go_simp) ?_
          try simp only [List.setIfInBounds_toArray, List.set_cons_zero, List.set_cons_succ]
          refine drawn_take 30 63 (.pointer (some ⟨g, 0, none⟩)) rfl rfl (by kernel_rfl) (by kernel_rfl) (by kernel_rfl) (by kernel_rfl) (fun _ _ _ h => h) (by rfl) (by assumption) (by intro w hSw; obtain hS1 := hSw; go_simp) ?_
          try simp only [List.setIfInBounds_toArray, List.set_cons_zero, List.set_cons_succ]
          refine drawn_take 32 65 (.pointer (some ⟨r, 0, none⟩)) rfl rfl (by kernel_rfl) (by kernel_rfl) (by kernel_rfl) (by kernel_rfl) (fun _ _ _ h => h) (by rfl) (by assumption) (by intro w hSw; obtain hS1 := hSw; go_simp) ?_
          try simp only [List.setIfInBounds_toArray, List.set_cons_zero, List.set_cons_succ]
          refine drawn_any [31] (by kernel_rfl) (by simp) ?_
          refine drawn_cons rfl (fun K hK => ?_) drawn_nil
          go_simp
          refine (HBY.out _ HT6.out).mono ?_
          rintro e w7 ⟨rfl, t7⟩
          have hS7 := hS6.trans t7 (fun _ _ f => f)
          have HT7 := Lib.hid (HT6.out.trans t7 (fun _ _ f => f))
          clear hS6 t7 HT6 HBY
          refine hK.out _ _ _ hS7 ?_
          clear hK K
          try simp only [List.setIfInBounds_toArray, List.set_cons_zero, List.set_cons_succ]
          refine drawn_any [33] (by kernel_rfl) (by simp) ?_
          refine drawn_cons rfl (fun K hK => ?_) drawn_nil
          go_simp
          refine (HRB.out _ HT7.out).mono ?_
          rintro e w8 ⟨rfl, t8⟩
          have hS8 := hS7.trans t8 (fun _ _ f => f)
          have HT8 := Lib.hid (HT7.out.trans t8 (fun _ _ f => f))
          clear hS7 t8 HT7 HRB
          refine hK.out _ _ _ hS8 ?_
          clear hK K
          try simp only [List.setIfInBounds_toArray, List.set_cons_zero, List.set_cons_succ]
          refine drawn_take 34 67 (.bool false) rfl rfl (by kernel_rfl) (by kernel_rfl) (by kernel_rfl) (by kernel_rfl) (fun _ _ _ h => h) (by rfl) (by assumption) (by intro w hSw; obtain hS1 := hSw; go_simp) ?_
          try simp only [List.setIfInBounds_toArray, List.set_cons_zero, List.set_cons_succ]
          refine drawn_take 35 68 (.bool false) rfl rfl (by kernel_rfl) (by kernel_rfl) (by kernel_rfl) (by kernel_rfl) (fun _ _ _ h => h) (by rfl) (by assumption) (by intro w hSw; obtain hS1 := hSw; go_simp) ?_
          try simp only [List.setIfInBounds_toArray, List.set_cons_zero, List.set_cons_succ]
          refine drawn_take 36 69 (.bool false) rfl rfl (by kernel_rfl) (by kernel_rfl) (by kernel_rfl) (by kernel_rfl) (fun _ _ _ h => h) (by rfl) (by assumption) (by intro w hSw; obtain hS1 := hSw; go_simp) ?_
          try simp only [List.setIfInBounds_toArray, List.set_cons_zero, List.set_cons_succ]
          refine drawn_take 37 70 (.pointer (some ⟨g, 0, none⟩)) rfl rfl (by kernel_rfl) (by kernel_rfl) (by kernel_rfl) (by kernel_rfl) (fun _ _ _ h => h) (by rfl) (by assumption) (by intro w hSw; obtain hS1 := hSw; go_simp) ?_
          try simp only [List.setIfInBounds_toArray, List.set_cons_zero, List.set_cons_succ]
          refine drawn_take 39 72 (.pointer (some ⟨r, 0, none⟩)) rfl rfl (by kernel_rfl) (by kernel_rfl) (by kernel_rfl) (by kernel_rfl) (fun _ _ _ h => h) (by rfl) (by assumption) (by intro w hSw; obtain hS1 := hSw; go_simp) ?_
          try simp only [List.setIfInBounds_toArray, List.set_cons_zero, List.set_cons_succ]
          refine drawn_any [38] (by kernel_rfl) (by simp) ?_
          refine drawn_cons rfl (fun K hK => ?_) drawn_nil
          go_simp
          refine (HNA.out _ HT8.out).mono ?_
          rintro e w13 ⟨u1, rfl, hu1, t13⟩
          have hS13 := hS8.trans t13 (fun _ _ f => f)
          have HT13 := Lib.hid (HT8.out.trans t13 (fun _ _ f => f))
          obtain ⟨B1, d1, rfl⟩ := hu1.shape
          have HU1 := Lib.hid hu1
          clear hu1 hS8 t13 HT8 HNA
          refine hK.out _ _ _ hS13 ?_
          clear hK K
          try simp only [List.setIfInBounds_toArray, List.set_cons_zero, List.set_cons_succ]
          refine drawn_any [40] (by kernel_rfl) (by simp) ?_
          refine drawn_cons rfl (fun K hK => ?_) drawn_nil
          go_simp
          refine (HRN.out _ HT13.out).mono ?_
          rintro e w14 ⟨u2, rfl, hu2, t14⟩
          have hS14 := hS13.trans t14 (fun _ _ f => f)
          have HT14 := Lib.hid (HT13.out.trans t14 (fun _ _ f => f))
          obtain ⟨B2, d2, rfl⟩ := hu2.shape
          have HSM : Hid (∀ W, Turn (fun _ => False) w4 W → W = w14 → Calls Try.prog 15 #[.slice B1 nl.length d1, .slice B2 nl.length d2] W fun e w' => e = .returned (.bool true) ∧ Turn (fun _ => False) W w') := fun W _ e => by subst e; exact same_refl10 _ _ nl W (HU1.out.later t14) hu2 HNL.out
          clear hu2 hS13 t14 HT13 HRN
          refine hK.out _ _ _ hS14 ?_
          clear hK K
          try simp only [List.setIfInBounds_toArray, List.set_cons_zero, List.set_cons_succ]
          refine drawn_any [41] (by kernel_rfl) (by simp) ?_
          refine drawn_cons rfl (fun K hK => ?_) drawn_nil
          go_simp
          refine (HSM.out _ HT14.out rfl).mono ?_
          rintro e w15 ⟨rfl, t15⟩
          have hS15 := hS14.trans t15 (fun _ _ f => f)
          have HT15 := Lib.hid (HT14.out.trans t15 (fun _ _ f => f))
          clear hS14 t15 HT14 HSM
          refine hK.out _ _ _ hS15 ?_
          clear hK K
          try simp only [List.setIfInBounds_toArray, List.set_cons_zero, List.set_cons_succ]
          refine drawn_take 42 75 (.bool false) rfl rfl (by kernel_rfl) (by kernel_rfl) (by kernel_rfl) (by kernel_rfl) (fun _ _ _ h => h) (by rfl) (by assumption) (by intro w hSw; obtain hS1 := hSw; go_simp) ?_
          try simp only [List.setIfInBounds_toArray, List.set_cons_zero, List.set_cons_succ]
          refine drawn_last1 43 76 (.bool false) rfl rfl (by kernel_rfl) (by kernel_rfl) (by rfl) (by intro w; go_simp) hS15 ?_
          try simp only [List.setIfInBounds_toArray, List.set_cons_zero, List.set_cons_succ]
          have HP15 := Lib.hid (HP4.out.later HP.out HT15.out)
          clear hS15 HT15 HP4
          go_wp2
          go_roundw
          case rel => exact ⟨i + 1, by go_num, hlt, _, _, _, _, HP15.out⟩
          case measure => simp [intOf]; omega
      · obtain rfl : i = l.length := by omega
        have HTX : Hid (Turn (fun _ => False) w1 wr) := HPY.out.turn
        clear HPY
        go_wp2_with fail
        refine (HAL.out _).mono ?_
        rintro e wz ⟨rfl, tz⟩
        have HTZ := Lib.hid (HTX.out.trans tz (fun _ _ f => f))
        clear tz
        go_wp2
        go_ret
        exact ⟨rfl, HTZ.out⟩

end Go.Proofs.Ytamcgoamkakpkaa

/-
  Stage 16: ColdNils and ColdKeeps, of any store of the program (Nil16, Prog16).
-/
namespace Go.Proofs.Ytamcgoamkakpkaa
open Go.RowKit

set_option maxRecDepth 100000

/-- What a nil store says. -/
structure Nil16 : Prop where
  fail : ∀ (v : Value) (l : List Bool) w, RdE EB16 w v l → l.length ≤ maxLen → Calls Try.prog 19 #[.pointer none, v] w fun e w' => SaysP16 w (.tuple #[]) e w'
  get : ∀ (n : List UInt8) w, Calls Try.prog 20 #[.pointer none, sv16 n] w fun e w' => ∃ v, e = .returned (.tuple #[v, .int .i64 1]) ∧ Rd w' v [] ∧ Turn (fun _ => False) w w'
  put : ∀ (n : List UInt8) w, Calls Try.prog 18 #[.pointer none, sv16 n, .slice none 0 0] w fun e w' => SaysP16 w (.int .i64 1) e w'
  del : ∀ (n : List UInt8) w, Calls Try.prog 21 #[.pointer none, sv16 n] w fun e w' => SaysP16 w (.int .i64 1) e w'
  names : ∀ w, Calls Try.prog 16 #[.pointer none] w fun e w' => Names16 w [] e w'
  has : ∀ (n : List UInt8) w, Calls Try.prog 10 #[.pointer none, sv16 n] w fun e w' => SaysP16 w (.bool false) e w'
  waits : ∀ w, Calls Try.prog 12 #[.pointer none] w fun e w' => SaysP16 w (.int .i64 0) e w'
  bytes : ∀ w, Calls Try.prog 13 #[.pointer none] w fun e w' => SaysP16 w (.int .i64 0) e w'

set_option maxHeartbeats 16000000 in
theorem nils_any16 (M : World → (Nat → Prop) → Nat → C16 → Prop) (hP : Prog16 M) (hN : Nil16) (nm : List UInt8) (v : Value) (l : List Bool) (w : World) (hv : RdE EB16 w v l) (hl : l.length ≤ maxLen) :
    Calls Try.prog 5 #[sv16 nm, v] w fun e w' => e = .returned (.bool true) ∧ Turn (fun _ => False) w w' := by
  have HN := Lib.hid hN
  have HAL : Hid (∀ W, Calls Try.prog 7 #[] W fun e w' => e = .returned (.bool true) ∧ Turn (fun _ => False) W w') := fun W => alive_any16 M hP W
  have HF : Hid (Calls Try.prog 19 #[.pointer none, v] w fun e w' => SaysP16 w (.tuple #[]) e w') := hN.fail v l w hv hl
  obtain ⟨Av, cv, rfl⟩ := hv.shape
  clear hP hN hv hl
  have HT0 : Hid (Turn (fun _ => False) w w) := Turn.refl _ _
  go_enter Try.func5, Try.ntmps5
  go_wp2_with fail
  refine HF.out.mono ?_
  rintro e w1 ⟨rfl, t1⟩
  have HT1 := Lib.hid (HT0.out.trans t1 (fun _ _ f => f))
  clear t1 HT0 HF
  go_wp2_with fail
  refine (HN.out.get _ _).mono ?_
  rintro e w2 ⟨u, rfl, hu, t2⟩
  have HT2 := Lib.hid (HT1.out.trans t2 (fun _ _ f => f))
  obtain ⟨A, c, rfl⟩ := hu.shape
  clear t2 hu HT1
  go_wp2_with fail
  refine (HN.out.put _ _).mono ?_
  rintro e w3 ⟨rfl, t3⟩
  have HT3 := Lib.hid (HT2.out.trans t3 (fun _ _ f => f))
  clear t3 HT2
  go_wp2_with fail
  refine (HN.out.del _ _).mono ?_
  rintro e w4 ⟨rfl, t4⟩
  have HT4 := Lib.hid (HT3.out.trans t4 (fun _ _ f => f))
  clear t4 HT3
  go_wp2_with fail
  refine (HN.out.names _).mono ?_
  rintro e w5 ⟨u, rfl, hu, t5⟩
  obtain ⟨B, d, rfl⟩ := hu.shape
  have HT5 := Lib.hid (HT4.out.trans t5 (fun _ _ f => f))
  clear t5 hu HT4
  go_wp2_with fail
  refine (HN.out.has _ _).mono ?_
  rintro e w6 ⟨rfl, t6⟩
  have HT6 := Lib.hid (HT5.out.trans t6 (fun _ _ f => f))
  clear t6 HT5
  go_wp2_with fail
  refine (HN.out.waits _).mono ?_
  rintro e w7 ⟨rfl, t7⟩
  have HT7 := Lib.hid (HT6.out.trans t7 (fun _ _ f => f))
  clear t7 HT6
  go_wp2_with fail
  refine (HN.out.bytes _).mono ?_
  rintro e w8 ⟨rfl, t8⟩
  have HT8 := Lib.hid (HT7.out.trans t8 (fun _ _ f => f))
  clear t8 HT7
  go_wp2_with fail
  refine (HAL.out _).mono ?_
  rintro e wz ⟨rfl, tz⟩
  have HTZ := Lib.hid (HT8.out.trans tz (fun _ _ f => f))
  clear tz
  go_wp2
  go_ret
  exact ⟨rfl, HTZ.out⟩

/-! A store of one object. -/
def kS16 (b : List UInt8) (t : List Bool) : C16 := ⟨[([97], b)], t⟩
theorem put_new16 {b : List UInt8} (h : b.length ≤ 1000) : put16 C16.new [97] b = (kS16 b [], 0) := by
  unfold put16
  rw [if_pos (by kernel_rfl), if_neg (by omega)]
  rfl
theorem put_yes16 (now : List UInt8) (r : List Bool) (c : List UInt8) : put16 (kS16 now (true :: r)) [97] c = (kS16 now r, 14) := by
  unfold put16
  have e : turnA16 (kS16 now (true :: r)) [97] = 14 := rfl
  rw [e, if_neg (by decide)]
  rfl
theorem put_no16 (now : List UInt8) (r : List Bool) {c : List UInt8} (h : c.length ≤ 1000) : put16 (kS16 now (false :: r)) [97] c = (kS16 c r, 0) := by
  unfold put16
  have e : turnA16 (kS16 now (false :: r)) [97] = 0 := rfl
  rw [if_pos e, if_neg (by omega)]
  rfl
theorem fail_k16 (b : List UInt8) {l : List Bool} (h : l.length ≤ 1000) : fail16 (kS16 b []) l = kS16 b l := by
  unfold fail16 kS16
  dsimp only
  rw [List.nil_append, List.length_nil, Nat.sub_zero, List.take_of_length_le h]
theorem get_k16 (b : List UInt8) : get16 (kS16 b []) [97] = (kS16 b [], (b, 0)) := rfl
theorem del_k16 (b : List UInt8) : del16 (kS16 b []) [97] = (⟨[], []⟩, 0) := rfl
theorem get_e16 : get16 ⟨[], []⟩ [97] = (⟨[], []⟩, ([], 11)) := rfl
theorem far_on16 {w : World} {v : Value} {b : List UInt8} {F1 F2 : Nat → Prop} (h : Rd w v b) (h1 : ∀ k, v.ownBlock = some k → ¬ F1 k) (h2 : ∀ k, F2 k → F1 k ∨ w.heap.size ≤ k) : b = [] ∨ ∀ k, v.ownBlock = some k → ¬ F2 k := by
  rcases far_of16 h (S := fun k => w.heap.size ≤ k) (fun _ h => h) with e | e
  · exact .inl e
  · exact .inr fun k hk hf => by
      rcases h2 k hf with x | x
      · exact h1 k hk x
      · exact e k hk x

/-- Ahead of turn number i: which bytes are there now. -/
structure Keep16 (M : World → (Nat → Prop) → Nat → C16 → Prop) (w0 w : World) (g : Nat) (l : List Bool) (i : Nat) (now : List UInt8) (F : Nat → Prop) : Prop where
  mem : M w F g (kS16 now (l.drop i))
  turn : Turn (fun _ => False) w0 w
  foot : ∀ k, F k → w0.heap.size ≤ k
  short : now.length ≤ 100

set_option maxHeartbeats 40000000 in
theorem keeps_any16 (M : World → (Nat → Prop) → Nat → C16 → Prop) (hP : Prog16 M) (va vb vt : Value) (a b : List UInt8) (l : List Bool) (w : World) (ha : Rd w va a) (hb : Rd w vb b) (ht : RdE EB16 w vt l) (_la : a.length ≤ maxLen) (_lb : b.length ≤ maxLen) (_ll : l.length ≤ maxLen) :
    Calls Try.prog 4 #[va, vb, vt] w fun e w' => e = .returned (.bool true) ∧ Turn (fun _ => False) w w' := by
  have HP := Lib.hid hP
  have HAL : Hid (∀ W, Calls Try.prog 7 #[] W fun e w' => e = .returned (.bool true) ∧ Turn (fun _ => False) W w') := fun W => alive_any16 M hP W
  have HA := Lib.hid ha; have HB := Lib.hid hb; have HT := Lib.hid ht
  obtain ⟨A, ca, rfl⟩ := ha.shape
  obtain ⟨B, cb, rfl⟩ := hb.shape
  obtain ⟨T, ct, rfl⟩ := ht.shape
  clear hP ha hb ht
  have HTX : Hid (Turn (fun _ => False) w w) := Turn.refl _ _
  by_cases h1 : a.length ≤ 100
  · by_cases h2 : b.length ≤ 100
    · by_cases h3 : l.length ≤ 100
      · have g1 : ¬ ((100 : Int) < a.length) := by omega
        have g2 : ¬ ((100 : Int) < b.length) := by omega
        have g3 : ¬ ((100 : Int) < l.length) := by omega
        have H1 := Lib.hid h1; have H2 := Lib.hid h2; have H3 := Lib.hid h3
        clear h1 h2 h3 HTX
        go_enter Try.func4, Try.ntmps4
        go_wp2_with fail
        refine (HP.out.new _).mono ?_
        rintro e w1 ⟨g, F, rfl, m1, t1, f1⟩
        have HM1 := Lib.hid m1; have HT1 := Lib.hid t1; have HF1 := Lib.hid f1
        clear m1 t1 f1
        go_wp2_with fail
        refine (HP.out.put [97] _ a HM1.out bd_new16 (HA.out.later HT1.out) (far_of16 HA.out HF1.out) (by have := H1.out; omega)).mono ?_
        rw [put_new16 (by have := H1.out; omega)]
        rintro e w2 ⟨rfl, F2, m2, t2, f2⟩
        have HT2 := Lib.hid (app_turn16 HT1.out HF1.out t2)
        have HF2 := Lib.hid (foot16 HF1.out HT1.out f2)
        have HM2 : Hid (M w2 F2 g (kS16 a [])) := m2
        clear HM1 m2 t2 f2 HT1 HF1
        go_wp2_with fail
        refine (HP.out.fail _ l HM2.out (bd_one16 _ _ _ (by have := H1.out; omega) (by decide)) (HT.out.later HT2.out) (tfar_of16 HT.out HF2.out) (by have := H3.out; omega)).mono ?_
        rw [fail_k16 _ (by have := H3.out; omega)]
        rintro e w3 ⟨rfl, F3, m3, t3, f3⟩
        have HK3 : Hid (Keep16 M w w3 g l 0 a F3) := ⟨m3, app_turn16 HT2.out HF2.out t3, foot16 HF2.out HT2.out f3, H1.out⟩
        clear HM2 m3 t3 f3 HT2 HF2
        go_wp2_with fail
        go_loopw [8, 9, 10] (fun x8 x9 _ wr => ∃ (i : Nat) (now : List UInt8) (An : Option Addr) (cn : Nat) (F : Nat → Prop), x9 = .int .i64 (i : Int) ∧ i ≤ l.length ∧ x8 = .slice An now.length cn ∧ Rd w (.slice An now.length cn) now ∧ Keep16 M w wr g l i now F) (fun _ x9 _ _ => l.length - (intOf x9).toNat)
        case atStart => exact ⟨0, a, A, ca, F3, rfl, Nat.zero_le _, rfl, HA.out, HK3.out⟩
        case round =>
          clear HK3
          obtain ⟨i, now, An, cn, F, rfl, hi, rfl, hrd, hkp⟩ := hrel
          have HRN := Lib.hid hrd; have HKP := Lib.hid hkp
          clear hrd hkp
          by_cases hlt : i < l.length
          · obtain ⟨y, hy⟩ : ∃ y, l[i]? = some y := ⟨_, List.getElem?_eq_getElem hlt⟩
            obtain ⟨ad, rfl, hc⟩ := turn_at16 HT.out hy
            have HC := Lib.hid hc
            have HDR : Hid (l.drop i = y :: l.drop (i + 1)) := by
              obtain ⟨h0, e⟩ := List.getElem?_eq_some_iff.1 hy
              show _ = _
              rw [List.drop_eq_getElem_cons h0, e]
            have hil : (i : Int) < l.length := by omega
            have HLR : Hid ((l.drop i).length ≤ 1000) := by show _ ≤ _; rw [List.length_drop]; have := H3.out; omega
            have HPT : Hid (Calls Try.prog 18 #[.pointer (some ⟨g, 0, none⟩), sv16 [97], .slice B b.length cb] wr fun e w' => DoesP16 M wr F g (put16 (kS16 now (l.drop i)) [97] b).1 (.int .i64 (put16 (kS16 now (l.drop i)) [97] b).2) e w') := HP.out.put [97] _ b HKP.out.mem (bd_one16 _ _ _ (by have := HKP.out.short; omega) HLR.out) (HB.out.later HKP.out.turn) (far_of16 HB.out HKP.out.foot) (by have := H2.out; omega)
            rw [HDR.out] at HPT
            clear hc hy
            cases y with
            | true =>
              rw [put_yes16] at HPT
              go_wp2_with fail
              refine HPT.out.mono ?_
              rintro e w4 ⟨rfl, F4, m4, t4, f4⟩
              have HK4 : Hid (Keep16 M w w4 g l (i + 1) now F4) := ⟨m4, app_turn16 HKP.out.turn HKP.out.foot t4, foot16 HKP.out.foot HKP.out.turn f4, HKP.out.short⟩
              have x4 := HC.out w4 HK4.out.turn
              clear m4 t4 f4 HPT
              go_wp2
              go_roundw
              case rel => exact ⟨i + 1, now, An, cn, F4, by go_num, hlt, rfl, HRN.out, HK4.out⟩
              case measure => simp [intOf]; omega
            | false =>
              rw [put_no16 _ _ (by have := H2.out; omega)] at HPT
              go_wp2_with fail
              refine HPT.out.mono ?_
              rintro e w4 ⟨rfl, F4, m4, t4, f4⟩
              have HK4 : Hid (Keep16 M w w4 g l (i + 1) b F4) := ⟨m4, app_turn16 HKP.out.turn HKP.out.foot t4, foot16 HKP.out.foot HKP.out.turn f4, H2.out⟩
              have x4 := HC.out w4 HK4.out.turn
              clear m4 t4 f4 HPT
              go_wp2
              go_roundw
              case rel => exact ⟨i + 1, b, B, cb, F4, by go_num, hlt, rfl, HB.out, HK4.out⟩
              case measure => simp [intOf]; omega
          · obtain rfl : i = l.length := by omega
            have hm0 := HKP.out.mem
            rw [List.drop_length] at hm0
            have HM0 := Lib.hid hm0
            clear hm0
            go_wp2_with fail
            refine (HP.out.get [97] HM0.out (bd_one16 _ _ _ (by have := HKP.out.short; omega) (by decide))).mono ?_
            rw [get_k16]
            rintro e w5 ⟨x, rfl, hx, hxn, F5, m5, t5, f5, hxf⟩
            have HT5 := Lib.hid (app_turn16 HKP.out.turn HKP.out.foot t5)
            have HF5 := Lib.hid (foot16 HKP.out.foot HKP.out.turn f5)
            have HM5 : Hid (M w5 F5 g (kS16 now [])) := m5
            have HX5 := Lib.hid hx; have HXF := Lib.hid hxf
            obtain ⟨Ax, cx, rfl⟩ := hx.shape
            clear hx hxn m5 t5 f5 hxf HM0
            go_wp2_with fail
            refine (HP.out.del [97] HM5.out (bd_one16 _ _ _ (by have := HKP.out.short; omega) (by decide))).mono ?_
            rw [del_k16]
            rintro e w6 ⟨rfl, F6, m6, t6, f6⟩
            have HT6 := Lib.hid (app_turn16 HT5.out HF5.out t6)
            have HF6 := Lib.hid (foot16 HF5.out HT5.out f6)
            have HM6 : Hid (M w6 F6 g ⟨[], []⟩) := m6
            have HX6 := Lib.hid (rd_keep16 HX5.out t6 (.inr HXF.out))
            have HXG := Lib.hid (far_on16 HX5.out HXF.out f6)
            clear m6 t6 f6 HM5 HXF
            go_wp2_with fail
            refine (HP.out.get [97] HM6.out (bd_none16 _ (by decide))).mono ?_
            rw [get_e16]
            rintro e w7 ⟨z, rfl, hz, -, F7, m7, t7, f7, -⟩
            have HT7 := Lib.hid (app_turn16 HT6.out HF6.out t7)
            obtain ⟨Az, cz, rfl⟩ := hz.shape
            have hcx : (convert 34 9 (.slice Ax now.length cx)).run Try.prog w7 = .ok (.string ⟨now.toArray⟩) w7 := (rd_keep16 HX6.out t7 HXG.out).string
            have hcn : (convert 34 9 (.slice An now.length cn)).run Try.prog w7 = .ok (.string ⟨now.toArray⟩) w7 := (HRN.out.later HT7.out).string
            have HTX := Lib.hid HT7.out
            clear hz m7 t7 f7 HM6
            go_wp2_with fail
            clear hcx hcn
            refine (HAL.out _).mono ?_
            rintro e wz ⟨rfl, tz⟩
            have HTZ := Lib.hid (HTX.out.trans tz (fun _ _ f => f))
            clear tz
            go_wp2
            go_ret
            exact ⟨rfl, HTZ.out⟩
      · have g1 : ¬ ((100 : Int) < a.length) := by omega
        have g2 : ¬ ((100 : Int) < b.length) := by omega
        have g3 : (100 : Int) < l.length := by omega
        clear h1 h2 h3
        go_enter Try.func4, Try.ntmps4
        go_wp2_with fail
        refine (HAL.out _).mono ?_
        rintro e wz ⟨rfl, tz⟩
        have HTZ := Lib.hid (HTX.out.trans tz (fun _ _ f => f))
        clear tz
        go_wp2
        go_ret
        exact ⟨rfl, HTZ.out⟩
    · have g1 : ¬ ((100 : Int) < a.length) := by omega
      have g2 : (100 : Int) < b.length := by omega
      clear h1 h2
      go_enter Try.func4, Try.ntmps4
      go_wp2_with fail
      refine (HAL.out _).mono ?_
      rintro e wz ⟨rfl, tz⟩
      have HTZ := Lib.hid (HTX.out.trans tz (fun _ _ f => f))
      clear tz
      go_wp2
      go_ret
      exact ⟨rfl, HTZ.out⟩
  · have g1 : (100 : Int) < a.length := by omega
    clear h1
    go_enter Try.func4, Try.ntmps4
    go_wp2_with fail
    refine (HAL.out _).mono ?_
    rintro e wz ⟨rfl, tz⟩
    have HTZ := Lib.hid (HTX.out.trans tz (fun _ _ f => f))
    clear tz
    go_wp2
    go_ret
    exact ⟨rfl, HTZ.out⟩

end Go.Proofs.Ytamcgoamkakpkaa
