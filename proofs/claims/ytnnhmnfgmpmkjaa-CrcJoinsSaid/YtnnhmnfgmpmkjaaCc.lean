/-
  Bytes that come in; the chapter's example.
-/
import Derived.Test.YtnnhmnfgmpmkjaaCb
import Derived.ProofKit
import Derived.OpenShut
import Derived.Deep.Slices
import Derived.Deep.Fields
import Derived.Lib.SlBytesConst
namespace Go.Proofs.Ytnnhmnfgmpmkjaa
open Go.RowKit

section
open Go.ChangeShapes Go.WideShapes Go.Deep
theorem open_bytes {H : Type} {enc : TypeId × Value → H} {W : World} {v : Value} {d : DataW H} {p : List MemPlace} {a : Option Addr} {len cap : Nat} (hv : v = .slice a len cap)
    (h : DataW.Trod enc Try.prog W 0 (fun _ => true) true 22 v d p) : ∃ l, Rd W v l ∧ l.length ≤ maxLen := by
  subst hv
  obtain ⟨fuel, hf⟩ := h
  rcases open_slice Try.underlying22 hf with ⟨hcs, _⟩ | ⟨a', len', cap', m, n, D, Pl, hcs, _, hl, hm, hmm, _, hx⟩
  · simp [Value.cells] at hcs
    obtain ⟨rfl, rfl, rfl⟩ := hcs
    exact ⟨[], ⟨none, 0, rfl, ⟨Nat.le_refl _, Nat.zero_le _⟩, fun _ => ⟨rfl, rfl⟩, fun _ e => by cases e⟩, Nat.zero_le _⟩
  · simp [Value.cells] at hcs
    obtain ⟨rfl, rfl, rfl⟩ := hcs
    have hC : Try.prog.cellsOf 5 = 1 := by kernel_rfl
    have hmm' : m = cap := by simpa using hmm
    subst hmm'
    have key : ∀ i, i < len → ∃ b : UInt8, W.cell? (a'.add i) = some (bv b) := by
      intro i hi
      obtain ⟨cs, h1, h2⟩ := hx i (by omega)
      rw [hC] at h1
      obtain ⟨_, hlen, hcell⟩ := World.cells?_some h1
      match cs, hlen with
      | [c0], _ =>
        obtain ⟨K, k0, _, kw⟩ := DataW.trod_int Try.underlying5 h2
        simp only [List.cons.injEq, and_true] at k0
        subst k0
        have hK : 0 ≤ K ∧ K ≤ 255 := by simpa [Lit.wf, IntKind.min, IntKind.max, IntKind.signed, IntKind.bits] using kw
        have hc := hcell 0 (by omega)
        simp only [Go.Deep.add_add] at hc
        refine ⟨UInt8.ofNat K.toNat, ?_⟩
        have e : bv (UInt8.ofNat K.toNat) = .int .u8 K := by
          unfold bv
          rw [UInt8.toNat_ofNat', Nat.mod_eq_of_lt (by omega), Int.toNat_of_nonneg hK.1]
        rw [e]
        have e2 : i * 1 + 0 = i := by omega
        simpa [e2] using hc
    obtain ⟨V, hV⟩ := choose_lt key
    have hll : ((List.range len).map V).length = len := by simp
    refine ⟨(List.range len).map V, ⟨some a', m, by rw [hll], ⟨by rw [hll]; omega, by omega⟩, (fun e => by cases e), fun ad e j b hj => ?_⟩, by rw [hll]; omega⟩
    cases e
    have hjl : j < len := by
      have := (List.getElem?_eq_some_iff.1 hj).1
      simpa using this
    have hb : b = V j := by
      rw [List.getElem?_map, List.getElem?_range hjl] at hj
      exact (Option.some.inj hj).symm
    rw [hb]
    exact hV j hjl
end

theorem By.made (w : World) (l : List UInt8) (hl : l.length ≤ maxLen) : By (w.alloc (.cells (l.map bv).toArray 5)) (.slice (some ⟨w.heap.size, 0, none⟩) l.length l.length) l := by
  refine ⟨by simp, .inr ⟨w.heap.size, l.length, (l.map bv).toArray, rfl, Nat.zero_le _, heap_alloc_new w _, Nat.le_refl _, hl, by simp, by simp; exact List.take_of_length_le (by simp)⟩⟩

def demoRow : Array Value := #[.int .u8 49, .int .u8 50, .int .u8 51, .int .u8 52, .int .u8 53, .int .u8 54, .int .u8 55, .int .u8 56, .int .u8 57]
theorem demo_rd (w : World) (fr : Nat × Nat) : Rd (w.alloc (.cells demoRow 5 fr)) (.slice (some ⟨w.heap.size, 0, none⟩) 9 9) demo := by
  refine ⟨_, _, rfl, ⟨Nat.le_refl _, by decide⟩, (fun e => by cases e), fun ad e j b hj => ?_⟩
  cases e
  have e1 : (⟨w.heap.size, 0, none⟩ : Addr).add j = ⟨w.heap.size, j, none⟩ := by unfold Addr.add; split <;> simp_all
  rw [e1, World.cell?_alloc_mark]
  have e2 : demoRow = (demo.map bv).toArray := rfl
  rw [e2, List.getElem?_toArray, List.getElem?_map, hj]
  rfl

set_option maxRecDepth 100000 in
set_option maxHeartbeats 400000 in
theorem alive_any (w : World) : Calls Try.prog 7 #[] w fun e w' => e = .returned (.bool true) ∧ Turn (fun _ => False) w w' := by
  have HD := Lib.hid demo_sum
  have kc := fun (w : World) (C : Array Value) (n c : Nat) => Lib.run_convert_bytes_const (P := Try.prog) w 22 5 C n c Try.underlying22 Try.underlying5
  go_enter Try.func7, Try.ntmps7
  go_wp2_with (go_at_call 8; refine (crc_sum _ demo _ (demo_rd w _) (by decide)).mono ?_; rintro e w' ⟨rfl, rfl⟩; rw [HD.out])
  go_ret
  exact ⟨rfl, (Turn.refl _ w).alloc _⟩

end Go.Proofs.Ytnnhmnfgmpmkjaa
