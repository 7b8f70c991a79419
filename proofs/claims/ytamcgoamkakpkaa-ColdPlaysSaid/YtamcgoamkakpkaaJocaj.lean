/-
  Texts laid one behind the other: Q4u4 Q4v.
-/
import Derived.Test.YtamcgoamkakpkaaJocai
import Derived.Lib.MinMax

/-
  Stage 16, the program (trial): Fail.
-/
namespace Go.Proofs.Ytamcgoamkakpkaa
open Go.RowKit

set_option maxRecDepth 100000

set_option maxHeartbeats 8000000 in
theorem fail_any16 (v : Value) (l : List Bool) {w : World} {F : Nat → Prop} {g : Nat} {s : C16} (hm : DM16 w F g s) (hbd : BdP16 s) (hv : RdE EB16 w v l) (hl : l.length ≤ 10000) :
    Calls Try.prog 19 #[.pointer (some ⟨g, 0, none⟩), v] w fun e w' => DoesP16 DM16 w F g (fail16 s l) (.tuple #[]) e w' := by
  obtain ⟨M, tv, rfl, h, e⟩ := hm
  obtain ⟨A, hb, hroot⟩ := h.root
  obtain ⟨B, cb, htl⟩ := h.turns.shape
  have htr := h.turns
  have hbx := hb
  rw [htl] at hbx htr
  have HBX := Lib.hid hbx
  have HTR := Lib.hid htr
  have HTL := Lib.hid htl
  have HR := Lib.hid hroot
  have HD := Lib.hid h
  have HE : Hid (fm15 PB16.b M = s.l) := e
  have HV := Lib.hid hv
  obtain ⟨Av, cv, rfl⟩ := hv.shape
  have hfit := hv.fits
  have hTn : s.t.length ≤ 1000 := hbd.ok.turns
  obtain ⟨K, hK⟩ : ∃ K, K = min l.length (1000 - s.t.length) := ⟨_, rfl⟩
  have HKC : Hid (K ≤ cv) := by show _ ≤ _; omega
  have HKL : Hid (K ≤ l.length) := by show _ ≤ _; omega
  have HFS : Hid (fail16 s l = { s with t := s.t ++ l.take K }) := by
    show _ = _
    unfold fail16
    rw [hK]
    by_cases h1 : l.length ≤ 1000 - s.t.length
    · rw [Nat.min_eq_left h1, List.take_length, List.take_of_length_le h1]
    · rw [Nat.min_eq_right (by omega)]
  have HKI : Hid (min (1000 - (s.t.length : Int)) (l.length : Int) = (K : Int)) := by show _ = _; omega
  have HWR : Hid (IntKind.i64.wrap (1000 - (s.t.length : Int)) = 1000 - (s.t.length : Int)) := IntWalk.i64_in _ (by omega)
  have HSM : Hid (s.t.length + (l.take K).length ≤ 3000000) := by show _ ≤ _; rw [List.length_take]; omega
  have HSZ : Hid ((Try.prog.info? 4).map (·.size) = some EB16.sz) := by show _ = _; kernel_rfl
  have HNG : Hid (¬ (Value.slice B s.t.length cb).ownBlock = some g) := fun e => by
    rw [← htl] at e
    obtain ⟨cs, h1⟩ := h.turns.typ e
    exact absurd (box_typ16 h1 hb) (by decide)
  clear h e hb hroot htl htr hbx hbd hv hfit hK hl
  generalize hN : s.t.length = N at *
  generalize hL : l.length = L at *
  go_enter Try.func19, Try.ntmps19
  have c1 := HBX.out.cell 1
  have hwr := HWR.out
  go_wp2_with fail
  clear hwr
  refine drawn_region (fun W => Turn (fun k => (Value.slice B N cb).ownBlock = some k) w W) [14] (by kernel_rfl) ?_
  have HWD : Hid (Turn (fun _ => False) w (World.drew w)) := (Turn.refl _ w).drew
  have hS0 : Turn (fun k => (Value.slice B N cb).ownBlock = some k) w (World.drew w) := HWD.out.mono (fun _ _ f => f.elim)
  generalize World.drew w = wd at *
  refine drawn_take 0 13 (.pointer (some ⟨g, 0, none⟩)) rfl rfl (by kernel_rfl) (by kernel_rfl) (by kernel_rfl) (by kernel_rfl) (fun _ _ _ h => h) (by rfl) (by assumption) (by intro w hSw; obtain hS1 := hSw; go_simp) ?_
  try simp only [List.setIfInBounds_toArray, List.set_cons_zero, List.set_cons_succ]
  refine drawn_take 1 14 (.pointer (some ⟨g, 0, none⟩)) rfl rfl (by kernel_rfl) (by kernel_rfl) (by kernel_rfl) (by kernel_rfl) (fun _ _ _ h => h) (by rfl) (by assumption) (by intro w hSw; obtain hS1 := hSw; go_simp) ?_
  try simp only [List.setIfInBounds_toArray, List.set_cons_zero, List.set_cons_succ]
  refine drawn_take 2 15 (.pointer (some ⟨g, 0, none⟩)) rfl rfl (by kernel_rfl) (by kernel_rfl) (by kernel_rfl) (by kernel_rfl) (fun _ _ _ h => h) (by rfl) (by assumption) (by intro w hSw; obtain hS1 := hSw; go_simp) ?_
  try simp only [List.setIfInBounds_toArray, List.set_cons_zero, List.set_cons_succ]
  refine drawn_take 3 16 (.pointer (some ⟨g, 1, none⟩)) rfl rfl (by kernel_rfl) (by kernel_rfl) (by kernel_rfl) (by kernel_rfl) (fun _ _ _ h => h) (by rfl) (by assumption) (by intro w hSw; obtain hS1 := hSw; go_simp) ?_
  try simp only [List.setIfInBounds_toArray, List.set_cons_zero, List.set_cons_succ]
  refine drawn_take 4 17 (.slice B N cb) rfl rfl (by kernel_rfl) (by kernel_rfl) (by kernel_rfl) (by kernel_rfl) (fun _ _ _ h => h) (by rfl) (by assumption) (by intro w hSw; have a0 := (HBX.out.turn hSw HNG.out).cell 1; clear hSw; go_simp) ?_
  try simp only [List.setIfInBounds_toArray, List.set_cons_zero, List.set_cons_succ]
  refine drawn_take 5 18 (.slice Av L cv) rfl rfl (by kernel_rfl) (by kernel_rfl) (by kernel_rfl) (by kernel_rfl) (fun _ _ _ h => h) (by rfl) (by assumption) (by intro w hSw; obtain hS1 := hSw; go_simp) ?_
  try simp only [List.setIfInBounds_toArray, List.set_cons_zero, List.set_cons_succ]
  refine drawn_take 6 19 (.int .i64 (1000 - (N : Int))) rfl rfl (by kernel_rfl) (by kernel_rfl) (by kernel_rfl) (by kernel_rfl) (fun _ _ _ h => h) (by rfl) (by assumption) (by intro w hSw; obtain hS1 := hSw; go_simp) ?_
  try simp only [List.setIfInBounds_toArray, List.set_cons_zero, List.set_cons_succ]
  refine drawn_take 7 20 (.slice Av L cv) rfl rfl (by kernel_rfl) (by kernel_rfl) (by kernel_rfl) (by kernel_rfl) (fun _ _ _ h => h) (by rfl) (by assumption) (by intro w hSw; obtain hS1 := hSw; go_simp) ?_
  try simp only [List.setIfInBounds_toArray, List.set_cons_zero, List.set_cons_succ]
  refine drawn_take 8 21 (.int .i64 (L : Int)) rfl rfl (by kernel_rfl) (by kernel_rfl) (by kernel_rfl) (by kernel_rfl) (fun _ _ _ h => h) (by rfl) (by assumption) (by intro w hSw; obtain hS1 := hSw; go_simp) ?_
  try simp only [List.setIfInBounds_toArray, List.set_cons_zero, List.set_cons_succ]
  refine drawn_take 9 22 (.int .i64 (K : Int)) rfl rfl (by kernel_rfl) (by kernel_rfl) (by kernel_rfl) (by kernel_rfl) (fun _ _ _ h => h) (by rfl) (by assumption) (by intro w hSw; have hki := HKI.out; clear hSw; go_simp) ?_
  try simp only [List.setIfInBounds_toArray, List.set_cons_zero, List.set_cons_succ]
  refine drawn_take 10 23 (.slice Av K cv) rfl rfl (by kernel_rfl) (by kernel_rfl) (by kernel_rfl) (by kernel_rfl) (fun _ _ _ h => h) (by rfl) (by assumption) (by intro w hSw; exact exec_front (E := EB16) rfl rfl rfl Try.underlying29 HSZ.out HKC.out w) ?_
  try simp only [List.setIfInBounds_toArray, List.set_cons_zero, List.set_cons_succ]
  refine drawn_any [11] (by kernel_rfl) (by simp) ?_
  refine drawn_cons rfl (fun K1 hK => ?_) drawn_nil
  refine put_appW Try.underlying29 bool_info16 bool_zero16 (by omega) s.t (HTR.out.turn HWD.out (fun _ _ f => f)) (l.take K) ((HV.out.later HWD.out).front K HKL.out) (by rw [hN]; exact HSM.out) ?_
  intro A2 n2 c2 w2 ho ht hn
  have HO := Lib.hid ho; have HN2 := Lib.hid hn
  have HT2 : Hid (Turn (fun k => (Value.slice B N cb).ownBlock = some k) w w2) := (HWD.out.mono (fun _ _ f => f.elim)).trans ht (fun _ _ e => e)
  have HWS : Hid (w.heap.size ≤ wd.heap.size) := HWD.out.size
  have hS2 := HT2.out
  refine hK.out _ _ _ hS2 ?_
  clear hK K1 ho ht hn hS0
  try simp only [List.setIfInBounds_toArray, List.set_cons_zero, List.set_cons_succ]
  refine drawn_take 12 25 (.pointer (some ⟨g, 0, none⟩)) rfl rfl (by kernel_rfl) (by kernel_rfl) (by kernel_rfl) (by kernel_rfl) (fun _ _ _ h => h) (by rfl) (by assumption) (by intro w hSw; obtain hS1 := hSw; go_simp) ?_
  try simp only [List.setIfInBounds_toArray, List.set_cons_zero, List.set_cons_succ]
  refine drawn_take 13 26 (.pointer (some ⟨g, 1, none⟩)) rfl rfl (by kernel_rfl) (by kernel_rfl) (by kernel_rfl) (by kernel_rfl) (fun _ _ _ h => h) (by rfl) (by assumption) (by intro w hSw; obtain hS1 := hSw; go_simp) ?_
  try simp only [List.setIfInBounds_toArray, List.set_cons_zero, List.set_cons_succ]
  have HB2 := Lib.hid (HBX.out.turn hS2 HNG.out)
  have z1 := HB2.out.cell 1
  have z2 := HB2.out.free 1
  clear hS2
  refine drawn_last (z := 14) rfl (by kernel_rfl) (by kernel_rfl) (by kernel_rfl) (fun K1 hK => ?_)
  go_simp
  refine hK.out _ _ ?_
  clear hK K1 z1 z2
  go_wp2
  go_end0
  have hst : Turn (fun k => k = g) w2 (w2.setCell ⟨g, 1, none⟩ (.slice A2 n2 c2)) := Turn.setCell (S := fun k => k = g) (p := ⟨g, 1, none⟩) (Turn.refl _ w2) (fun _ => rfl) _
  have hb3 := HB2.out.set 1 (.slice A2 n2 c2)
  simp only [List.setIfInBounds_toArray, List.set_cons_succ, List.set_cons_zero] at hb3
  have hall : Turn (Foot16 g tv) w (w2.setCell ⟨g, 1, none⟩ (.slice A2 n2 c2)) := (HT2.out.mono (fun k _ e => .inr (by rw [HTL.out]; exact e))).trans hst (fun _ _ e => .inl e)
  have hwin : Win EB16 4 (w2.setCell ⟨g, 1, none⟩ (.slice A2 n2 c2)) (.slice A2 n2 c2) (s.t ++ l.take K) := HO.out.turn hst (fun k hk e => by subst e; obtain ⟨cs, h1⟩ := HO.out.typ hk; exact absurd (box_typ16 h1 HB2.out) (by decide))
  rw [HFS.out]
  refine ⟨rfl, Foot16 g (.slice A2 n2 c2), ⟨M, _, rfl, HR.out _ _ _ _ hall (fun k _ e => ?_) hb3 hwin, HE.out⟩, hall, fun k hk => ?_⟩
  · rcases e with e | e
    · exact .inl e
    · exact .inr (HD.out.turns.typ e)
  · rcases hk with e | e
    · exact .inl (.inl e)
    · rcases HN2.out with x | x
      · exact .inl (.inr (by rw [HTL.out]; exact x.symm.trans e))
      · have e2 := x.symm.trans e
        injection e2 with e2
        exact .inr (by have := HWS.out; omega)

end Go.Proofs.Ytamcgoamkakpkaa

/-
  Stage 16: the program's store answers as is asked of it; so does a nil one.
-/
namespace Go.Proofs.Ytamcgoamkakpkaa
open Go.RowKit

set_option maxRecDepth 100000

theorem prog16 : Prog16 DM16 where
  lt := dm_lt16
  later := dm_later16
  apart := dm_apart16
  new := new_any16
  put n v b h hb hv hf hl := put_any16 n v b h hb hv hf hl
  get n h hb := get_any16 n h hb
  del n h hb := del_any16 n h hb
  fail v l h hb hv _ hl := fail_any16 v l h hb hv hl
  has n h _ := has_any16 n h
  waits h _ := waits_any16 h
  bytes h hb := bytes_any16 h hb
  names h hb := names_any16 h hb

theorem turn_nil16 (n : List UInt8) (w : World) : Calls Try.prog 29 #[.pointer none, sv16 n] w fun e w' => e = .returned (.int .i64 1) ∧ w = w' := by
  go_enter Try.func29, Try.ntmps29
  go_wp2; go_ret; exact ⟨rfl, rfl⟩
theorem nil16 : Nil16 where
  fail v l w hv _ := by
    obtain ⟨A, c, rfl⟩ := hv.shape
    go_enter Try.func19, Try.ntmps19
    go_wp2; go_end0; exact ⟨rfl, Turn.refl _ _⟩
  get n w := by
    go_enter Try.func20, Try.ntmps20
    go_wp2_with (go_at_call 29; refine (turn_nil16 _ _).mono ?_; rintro e w' ⟨rfl, rfl⟩)
    go_ret2; exact ⟨_, rfl, Rd.none _, Turn.refl _ _⟩
  put n w := by
    go_enter Try.func18, Try.ntmps18
    go_wp2_with (go_at_call 29; refine (turn_nil16 _ _).mono ?_; rintro e w' ⟨rfl, rfl⟩)
    go_ret; exact ⟨rfl, Turn.refl _ _⟩
  del n w := by
    go_enter Try.func21, Try.ntmps21
    go_wp2_with (go_at_call 29; refine (turn_nil16 _ _).mono ?_; rintro e w' ⟨rfl, rfl⟩)
    go_ret; exact ⟨rfl, Turn.refl _ _⟩
  names w := by
    go_enter Try.func16, Try.ntmps16
    go_wp2; go_ret; exact ⟨_, rfl, RdE.nil _, Turn.refl _ _⟩
  has n w := by
    go_enter Try.func10, Try.ntmps10
    go_wp2; go_ret; exact ⟨rfl, Turn.refl _ _⟩
  waits w := by
    go_enter Try.func12, Try.ntmps12
    go_wp2; go_ret; exact ⟨rfl, Turn.refl _ _⟩
  bytes w := by
    go_enter Try.func13, Try.ntmps13
    go_wp2; go_ret; exact ⟨rfl, Turn.refl _ _⟩

end Go.Proofs.Ytamcgoamkakpkaa
