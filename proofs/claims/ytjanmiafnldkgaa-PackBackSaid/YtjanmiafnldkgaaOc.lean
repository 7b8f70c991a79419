/-
  Copies, and what else is said of a writer.
-/
import Derived.Test.YtjanmiafnldkgaaOb
namespace Go.Proofs.Ytjanmiafnldkgaa
open Go.RowKit

theorem By.empty (w : World) : By (w.alloc (.cells #[] 5)) (.slice (some ⟨w.heap.size, 0, none⟩) 0 0) [] :=
  World.ownsRow_made w #[] 0 (Nat.zero_le _) (by simp [maxLen]) rfl

/-- A slice value, wherever it lies: its bytes are l. -/
def Rd (w : World) (v : Value) (l : List UInt8) : Prop :=
  ∃ A c, v = .slice A l.length c ∧ (A = none → l = [] ∧ c = 0) ∧ ∀ ad, A = some ad → ∀ j b, l[j]? = some b → w.cell? (ad.add j) = some (bv b)

theorem add_block (a : Addr) (n : Nat) : (a.add n).block = a.block := by unfold Addr.add; split <;> rfl

section
variable {w w' : World} {v : Value} {l : List UInt8}
theorem By.rd (h : By w v l) : Rd w v l := by
  rcases h.form with ⟨rfl, rfl⟩ | ⟨g, cap, cur, rfl, hb, _, _, _, ht⟩
  · exact ⟨none, 0, rfl, fun _ => ⟨rfl, rfl⟩, fun _ e => by cases e⟩
  · refine ⟨_, _, rfl, (fun e => by cases e), fun ad e j b hj => ?_⟩
    cases e
    have := World.ownsRow.cells h (g := g) rfl j (bv b) (by simp [hj])
    exact this
theorem Rd.yields (h : Rd w v l) : Yields w 24 v l := by
  obtain ⟨A, c, rfl, hn, hc⟩ := h
  cases A with
  | none =>
    obtain ⟨rfl, rfl⟩ := hn rfl
    exact Src.ofNil (P := Try.prog) w (size := 1) Try.underlying24 0
  | some ad =>
    refine Src.ofSlice (P := Try.prog) w (size := 1) Try.underlying24 ad l.length c (l.map bv) (by simp) ?_ (bv_one l)
    intro j u hu
    rw [List.getElem?_map] at hu
    cases hb : l[j]? with
    | none => rw [hb] at hu; cases hu
    | some b =>
      rw [hb] at hu
      cases hu
      exact hc ad rfl j b hb
theorem Rd.turn {S : Nat → Prop} (h : Rd w v l) (ht : Turn S w w') (hs : ∀ k, v.ownBlock = some k → ¬ S k) : Rd w' v l := by
  obtain ⟨A, c, rfl, hn, hc⟩ := h
  refine ⟨A, c, rfl, hn, fun ad e j b hj => ?_⟩
  have h1 := hc ad e j b hj
  have hlt := World.block_lt_of_cell? w _ h1
  rw [ht.cell hlt (by subst e; rw [add_block]; exact hs _ rfl)]
  exact h1
end


set_option maxRecDepth 100000 in
set_option maxHeartbeats 400000 in
theorem clone_any (v : Value) (l : List UInt8) (w : World) (hv : Rd w v l) (hl : l.length ≤ 1000000) :
    Calls Try.prog 28 #[v] w fun e w' => ∃ v', e = .returned v' ∧ By w' v' l ∧ Turn (fun _ => False) w w' ∧ ∀ k, v'.ownBlock = some k → w.heap.size ≤ k := by
  obtain ⟨A, c, rfl, hn, hc⟩ := hv
  cases A with
  | none =>
    obtain ⟨rfl, rfl⟩ := hn rfl
    clear hn hc
    have heq := fun (w : World) => Lib.run_eql_slice_nil (P := Try.prog) w 24 5 none 0 0 0 0 Try.underlying24
    go_enter Try.func28, Try.ntmps28
    go_wp2
    go_ret
    exact ⟨_, rfl, By.nil _, Turn.refl _ _, fun _ h => by cases h⟩
  | some ad =>
    have heq := fun (w : World) => Lib.run_eql_slice_nil (P := Try.prog) w 24 5 (some ad) l.length c 0 0 Try.underlying24
    have hY : ∀ o, Yields (w.alloc o) 24 (.slice (some ad) l.length c) l := fun o => by
      refine Rd.yields (Rd.turn (w := w) ⟨_, _, rfl, hn, hc⟩ ((Turn.refl (fun _ => False) w).alloc o) (fun _ _ f => f))
    clear hn hc
    have HY := Lib.hid hY; clear hY
    go_enter Try.func28, Try.ntmps28
    go_wp2_with (at_builtin; go_must (refine wpList_app _ rfl _ _ _ rfl _ [] rfl (By.empty w) _ rfl l (HY.out _) (by simp; omega) ?_))
    intro A' n' c' w1 hby hg hat
    have HB := Lib.hid hby; clear hby
    have HG := Lib.hid hg; clear hg
    have HA := Lib.hid hat; clear hat
    go_wp2
    go_ret
    refine ⟨.slice A' n' c', rfl, HB.out, ((Turn.refl _ w).alloc _).grown HG.out ?_, ?_⟩
    · intro k hk e
      simp [Value.ownBlock] at e
      omega
    · intro k hk
      rcases HA.out with e | e
      · rw [e] at hk
        simp [Value.ownBlock] at hk
        omega
      · rw [e] at hk
        simp at hk
        omega

/-- A slice as a string. -/
theorem Rd.string {w : World} {v : Value} {l : List UInt8} (h : Rd w v l) : (convert 24 9 v).run Try.prog w = .ok (.string ⟨l.toArray⟩) w := by
  obtain ⟨A, c, rfl, hn, hc⟩ := h
  cases A with
  | none =>
    obtain ⟨rfl, rfl⟩ := hn rfl
    exact run_convert_bytes_nil (P := Try.prog) w 24 5 Try.underlying24 Try.underlying5 0 0 _ Try.underlying9
  | some ad =>
    exact run_convert_bytes_back (P := Try.prog) w 24 9 5 ad c l Try.underlying24 Try.underlying5 Try.underlying9
      (fun j hj => hc ad rfl j _ (List.getElem?_eq_getElem hj))

set_option maxRecDepth 100000 in
set_option maxHeartbeats 400000 in
theorem same_any (u v : Value) (l m : List UInt8) (w : World) (hu : Rd w u l) (hv : Rd w v m) :
    Calls Try.prog 8 #[u, v] w fun e w' => e = .returned (.bool (l == m)) ∧ w = w' := by
  have h1 := hu.string
  have h2 := hv.string
  obtain ⟨A, c, rfl, _⟩ := hu
  obtain ⟨B, d, rfl, _⟩ := hv
  go_enter Try.func8, Try.ntmps8
  go_wp2
  go_ret
  exact ⟨rfl, rfl⟩

set_option maxRecDepth 100000 in
set_option maxHeartbeats 400000 in
theorem bytes_any (p : Nat) (v : Value) (l : List UInt8) (w : World) (hw : Wr w p v l) (hl : l.length ≤ 1000000) :
    Calls Try.prog 10 #[.pointer (some ⟨p, 0, none⟩)] w fun e w' => ∃ v', e = .returned v' ∧ By w' v' l ∧ Turn (fun _ => False) w w' ∧ ∀ k, v'.ownBlock = some k → w.heap.size ≤ k := by
  have hc : w.cell? ⟨p, 0, none⟩ = some v := hw.1.cell 0
  have HR := Lib.hid hw.2.rd
  clear hw
  go_enter Try.func10, Try.ntmps10
  go_wp2_with (go_at_call 28; refine (clone_any v l w HR.out hl).mono ?_; rintro e w' ⟨v', rfl, hb, ht, hk⟩; have HB := Lib.hid hb; clear hb; have HT := Lib.hid ht; clear ht; have HK := Lib.hid hk; clear hk)
  go_ret
  exact ⟨_, rfl, HB.out, HT.out, HK.out⟩

set_option maxRecDepth 100000 in
set_option maxHeartbeats 400000 in
theorem len_any (p : Nat) (v : Value) (l : List UInt8) (w : World) (hw : Wr w p v l) :
    Calls Try.prog 18 #[.pointer (some ⟨p, 0, none⟩)] w fun e w' => e = .returned (.int .i64 l.length) ∧ w = w' := by
  obtain ⟨A, c, hv, _⟩ := hw.2.rd
  subst hv
  have hc : w.cell? ⟨p, 0, none⟩ = some (.slice A l.length c) := hw.1.cell 0
  clear hw
  go_enter Try.func18, Try.ntmps18
  go_wp2
  go_ret
  exact ⟨rfl, rfl⟩

end Go.Proofs.Ytjanmiafnldkgaa
