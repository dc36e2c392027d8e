
/- What printf's laws ask of the program's calls, as a premise; lists of texts that a call builds. No conditions. -/
import Derived.Test.YtckmgcdiclkoeaaGreatDoorPrN
import Derived.Test.YtckmgcdiclkoeaaGreatDoorSzT
import Derived.Test.YtckmgcdiclkoeaaGreatDoorPpF
namespace Go.Proofs.YtckmgcdiclkoeaaGreatDoor
open Go.RowKit
open Go.Lib (hid)

/-- Format tells what the mathematics says; of what was in memory nothing has turned. -/
def FormatOk : Prop := ∀ (f : List UInt8) (A : Option Addr) (c : Nat) (args : List (List UInt8)) (W : World), TextsP W (fun _ => True) A args → args.length ≤ c → f.length + sizeTs args ≤ 2200000 → Tab W →
  Calls Tryz.prog 4 #[encS f, .slice A args.length c] W fun e w' => e = .returned (.tuple #[encS (formatL f args).1, .int .i64 (formatL f args).2]) ∧ Below W.heap.size W w'
def EscapeOk : Prop := ∀ (s : List UInt8) (W : World), s.length ≤ 1100000 → Calls Tryz.prog 8 #[encS s] W fun e w' => e = .returned (encS (escL s)) ∧ Below W.heap.size W w'
def ConvOk : Prop := ∀ (s : List UInt8) (W : World), s.length ≤ 1100000 → Calls Tryz.prog 10 #[encS s] W fun e w' => e = .returned (.int .i64 (convL s)) ∧ Below W.heap.size W w'
theorem texts_one_new {W : World} {g : Nat} {s : List UInt8} (h : W.heap[g]? = some (.cells #[encS s] 9 (0, 0))) : TextsP W (fun _ => True) (some ⟨g, 0, none⟩) [s] := fun k hk => by
  obtain rfl : k = 0 := by simp at hk; exact hk
  exact ⟨g, 0, rfl, trivial, by simp [World.cell?, h]⟩
theorem texts_two_new {W : World} {g : Nat} {s t : List UInt8} (h : W.heap[g]? = some (.cells #[encS s, encS t] 9 (0, 0))) : TextsP W (fun _ => True) (some ⟨g, 0, none⟩) [s, t] := fun k hk => by
  have hk2 : k < 2 := hk
  refine ⟨g, 0, rfl, trivial, ?_⟩
  match k, hk2 with
  | 0, _ => simp [World.cell?, h]
  | 1, _ => simp [World.cell?, h]
theorem alive_form : formatL [37, 115, 45] [[97], [98]] = ([97, 45, 98, 45], 0) := by
  have e0 : ∀ (a : List UInt8) (r : List (List UInt8)), onceL [37, 115, 45] (a :: r) = ⟨a ++ [45], r, 0, false⟩ := fun a r => by
    rw [once_s, once_plain 45 _ _ (by decide) (by decide), onceL_nil]
    rfl
  have e2 : convL [37, 115, 45] = 1 := by
    rw [conv_conv (u := [45]) (spec_one _ (c := 115) (by decide)) (by decide) (by decide) rfl, conv_plain 45 _ (by decide) (by decide), convL_nil]
  unfold formatL
  rw [formF, e0, e2, if_neg (by simp)]
  simp only [List.length_cons, List.length_nil, Nat.zero_add]
  rw [formF, e0, e2, if_pos (.inr (.inl rfl))]
  rfl

set_option maxRecDepth 100000 in
set_option maxHeartbeats 1000000 in
theorem pr_alive (hF : FormatOk) (w : World) (hTb : Tab w) : Calls Tryz.prog 12 #[] w fun e w' => e = .returned (.bool true) ∧ Below w.heap.size w w' := by
  obtain ⟨W1, hW1⟩ : ∃ W1, w.alloc (.cells #[encS [97], encS [98]] 9) = W1 := ⟨_, rfl⟩
  have hb1 : Below w.heap.size w W1 := by rw [← hW1]; exact (Below.refl _ _).alloc (Nat.le_refl _) _
  have cF := hF [37, 115, 45] (some ⟨w.heap.size, 0, none⟩) 2 [[97], [98]] W1 (texts_two_new (by rw [← hW1]; exact heap_alloc_new _ _)) (by decide) (by decide) (hTb.below hb1)
  rw [alive_form] at cF
  have HB1 := hid hb1
  clear hb1
  go_enter Tryz.func12, Tryz.ntmps12
  go_wp2_with fail
  refine cF.mono ?_
  rintro e w2 ⟨rfl, hb2⟩
  have HB2 := hid (HB1.out.trans (hb2.mono HB1.out.size))
  clear hb2 cF
  go_wp2_with fail
  go_ret
  exact ⟨rfl, HB2.out⟩
end Go.Proofs.YtckmgcdiclkoeaaGreatDoor
