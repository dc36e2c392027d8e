/- strings.IndexRune of " \t" at a code point beyond ASCII: it isn't there. No conditions. -/
import Derived.Test.YtchnopfnjkbelaaDoorBaseN
import Derived.Test.YtchnopfnjkbelaaDoorShelf
import Derived.Laws.RangeAny
import Derived.Laws.Runes
import Derived.Laws.Strings3
import Derived.Deep.LoopGhost
import Derived.RegionTactic
import Derived.WalkMore
namespace Go.Proofs.YtchnopfnjkbelaaDoor
open Go.RowKit
open Go.Lib (hid)

abbrev blanksB : ByteArray := ⟨#[32, 9]⟩
theorem valid_eq (r : Int) : Utf8.valid r = Lib.validRune r := by
  rw [validRune_eq]
  rfl

set_option maxRecDepth 100000 in
set_option maxHeartbeats 2000000 in
theorem indexRune_error (w : World) :
    Calls Tryd.prog 49 #[.string blanksB, .int .i32 65533] w fun e w' => e = .returned (.int .i64 (-1)) ∧ Below w.heap.size w w' := by
  have hn0 := fun ty => run_next_ascii (P := Tryd.prog) w blanksB 0 ty (by decide) (by decide)
  have hn1 := fun ty => run_next_ascii (P := Tryd.prog) w blanksB 1 ty (by decide) (by decide)
  have hn2 := fun ty => run_next_end (P := Tryd.prog) w blanksB 2 ty (by decide)
  go_enter Tryd.func49, Tryd.ntmps49
  go_wp2
  go_loopg [5, 6] 2 (fun g _ _ wx => ∃ i : Nat, i + g = 2 ∧ wx = w.iter blanksB i)
  case atStart => exact ⟨0, rfl, rfl⟩
  case round =>
    obtain ⟨i, hig, rfl⟩ := hrel
    match gk, hig with
    | 0, hig =>
      obtain rfl : i = 2 := by omega
      go_wp2
      go_ret
      exact ⟨rfl, (Below.refl _ _).alloc (Nat.le_refl _) _⟩
    | 1, hig =>
      obtain rfl : i = 1 := by omega
      go_wp2
      go_roundg 0
      case measure => omega
      case rel => exact ⟨2, rfl, rfl⟩
    | 2, hig =>
      obtain rfl : i = 0 := by omega
      go_wp2
      go_roundg 1
      case measure => omega
      case rel => exact ⟨1, rfl, rfl⟩

set_option maxRecDepth 100000 in
set_option maxHeartbeats 2000000 in
theorem indexRune_hi (r : Int) (w : World) (h : 128 ≤ r) (h2 : r ≤ 2147483647) :
    Calls Tryd.prog 49 #[.string blanksB, .int .i32 r] w fun e w' => e = .returned (.int .i64 (-1)) ∧ Below w.heap.size w w' := by
  by_cases hF : r = 65533
  · subst hF; exact indexRune_error w
  have hq1 : (r == 65533) = false := by simpa using hF
  have hq2 : decide ((0 : Int) ≤ r) = true := by simp; omega
  have hq3 : decide (r < 128) = false := by simp; omega
  cases hV : Lib.validRune r
  · have cV := fun W => Tryd.utf8_ValidRune r W
    rw [hV] at cV
    go_enter Tryd.func49, Tryd.ntmps49
    go_wp2_with fail
    refine (cV _).mono ?_
    rintro e w1 ⟨rfl, rfl⟩
    go_wp2
    go_ret
    exact ⟨rfl, Below.refl _ _⟩
  · have cV := fun W => Tryd.utf8_ValidRune r W
    rw [hV] at cV
    obtain ⟨e1, e2, e3⟩ := encode_facts r (by rw [valid_eq, hV]) h
    obtain ⟨rs, hrs⟩ : ∃ rs, Utf8.encode r = rs := ⟨_, rfl⟩
    rw [hrs] at e1 e2 e3
    by_cases h3 : rs.size = 2
    · obtain ⟨b, hb⟩ : ∃ b, rs[1]'(by omega) = b := ⟨_, rfl⟩
      have hg : ∀ h, rs[1]'h = b := fun _ => hb
      have hb128 : 128 ≤ b.toNat := by
        have e := e3 (by omega)
        simp only [h3] at e
        rw [← hb]
        exact e
      have hne : ∀ h, ((((blanksB[1]'h).toNat : Int)) != (b.toNat : Int)) = true := fun h => by
        have e : (blanksB[1]'h).toNat = 9 := rfl
        rw [e]
        simp
        omega
      have cI := fun W => Tryd.strings_IndexByte ByteArray.empty (b.toNat : Int) W
      have hix : Lib.indexByte (ByteArray.empty).data.toList ((b.toNat : Int)).toNat.toUInt8 = -1 := rfl
      rw [hix] at cI
      clear hb e1 e2 e3
      go_enter Tryd.func49, Tryd.ntmps49
      go_wp2_with fail
      refine (cV _).mono ?_
      rintro e w1 ⟨rfl, rfl⟩
      go_wp2
      go_step3
      go_wp2
      go_loopw [9, 10] (fun v9 v10 wr => v9 = .int .i64 1 ∧ v10 = .int .i64 0 ∧ Hid (Below w1.heap.size w1 wr)) (fun _ _ _ => 0)
      case atStart => exact ⟨rfl, rfl, hid (Below.refl _ _)⟩
      case round =>
        obtain ⟨rfl, rfl, HB⟩ := hrel
        go_wp2
        go_step3
        go_wp2
        go_quiet (fail)
        go_wp2
        have hw2 : IntKind.i64.wrap 2 = 2 := by decide
        have hx2 : blanksB.extract 2 2 = ByteArray.empty := rfl
        have hx3 : blanksB.size = 2 := rfl
        have HB5 := hid (below_drewN HB.out nq)
        clear HB
        generalize wr.drewN nq = W5 at *
        go_quiet ((go_at_call 54; exact Calls.quiet_of_same (cI _)))
        go_wp2
        dsimp +zetaDelta only [Exit.noGoto, Exit.inBlock, Exit.then]
        go_ret
        exact ⟨rfl, below_drewN HB5.out _⟩
    · have h34 : rs.size = 3 ∨ rs.size = 4 := by omega
      clear e1 e2 e3 h3
      rcases h34 with h3 | h3
      all_goals
        go_enter Tryd.func49, Tryd.ntmps49
        go_wp2_with fail
        refine (cV _).mono ?_
        rintro e w1 ⟨rfl, rfl⟩
        go_wp2
        go_step3
        go_wp2
        go_loopw [9, 10] (fun v9 v10 wr => (v9 = .int .i64 2 ∨ v9 = .int .i64 3) ∧ v10 = .int .i64 0 ∧ Hid (Below w1.heap.size w1 wr)) (fun _ _ _ => 0)
        case atStart => first | exact ⟨.inl rfl, rfl, hid (Below.refl _ _)⟩ | exact ⟨.inr rfl, rfl, hid (Below.refl _ _)⟩
        case round =>
          obtain ⟨h9, rfl, HB⟩ := hrel
          rcases h9 with rfl | rfl
          all_goals
            go_wp2
            change Exit.inBlock 0 _ Exit.ret _ _
            go_ret
            exact ⟨rfl, HB.out⟩
end Go.Proofs.YtchnopfnjkbelaaDoor
