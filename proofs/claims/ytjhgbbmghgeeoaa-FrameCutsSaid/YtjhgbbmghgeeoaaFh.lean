
/-
  The chapter's example on frames: what must come at any rate.
-/
import Derived.Test.YtjhgbbmghgeeoaaFc
namespace Go.Proofs.Ytjhgbbmghgeeoaa
open Go.RowKit

theorem fr_nil : fr [] = [0, 0, 0, 0, 0] := by decide +kernel
theorem takes_nilfr : takes [0, 0, 0, 0, 0] = ([], 5, 0) := by
  have h := takes_fr [] [] (by decide)
  rw [List.append_nil, fr_nil] at h
  rw [h]
  decide +kernel
theorem sz_200 : sz 200 = 206 := by decide +kernel

set_option maxRecDepth 100000 in
set_option maxHeartbeats 1000000 in
theorem alive_any3 (w : World) : Calls Try.prog 5 #[] w fun e w' => e = .returned (.bool true) ∧ Turn (fun _ => False) w w' := by
  have HS := Lib.hid sz_200
  have HTK := Lib.hid takes_nilfr
  obtain ⟨b, hb⟩ : ∃ b : List UInt8, b = [0, 0, 0, 0, 0] := ⟨_, rfl⟩
  have HF : Hid (fr [] = b) := by rw [hb]; exact fr_nil
  have HL : Hid (b.length = 5) := by rw [hb]; rfl
  have H0 : Hid (b[0]? = some 0) := by rw [hb]; rfl
  have H4 : Hid (b[4]? = some 0) := by rw [hb]; rfl
  rw [← hb] at HTK
  clear hb
  go_enter Try.func5, Try.ntmps5
  go_wp2_with (first
    | (go_at_call 10; refine (frame_put _ [] w (Rd.none w) (by decide)).mono ?_; rintro e w1 ⟨v1, rfl, hm⟩; rw [HF.out] at hm; obtain ⟨g, c, hv, hcap, hcell⟩ := hm.1.at (by rw [HL.out]; decide); rw [HL.out] at hv hcap; subst hv; have HM := Lib.hid hm; have HC := Lib.hid hcell; clear hm hcell)
    | (go_at_call 11; refine (frame_take _ b w1 HM.out.1.rd (by rw [HL.out]; decide)).mono ?_; rintro e w2 ⟨v2, rfl, _, ht⟩; rw [HTK.out]; have c0 : w2.cell? ⟨g, 0, none⟩ = some (.int .u8 0) := (ht.cell (World.block_lt_of_cell? _ _ (HC.out 0 0 H0.out)) (fun f => f)).trans (HC.out 0 0 H0.out); have c4 : w2.cell? ⟨g, 4, none⟩ = some (.int .u8 0) := (ht.cell (World.block_lt_of_cell? _ _ (HC.out 4 0 H4.out)) (fun f => f)).trans (HC.out 4 0 H4.out); have HT := Lib.hid ht; clear ht)
    | (go_at_call 12; refine (size_any 200 w2 (by omega)).mono ?_; rintro e w3 ⟨rfl, ht⟩; rw [HS.out]; have HT3 := Lib.hid ht; clear ht))
  go_ret
  exact ⟨rfl, (HM.out.2.1.trans HT.out (fun _ _ f => f)).trans HT3.out (fun _ _ f => f)⟩

end Go.Proofs.Ytjhgbbmghgeeoaa
