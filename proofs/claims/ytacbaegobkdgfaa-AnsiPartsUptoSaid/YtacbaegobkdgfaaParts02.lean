/- The walk of AnsiParts: whatever the texts (within the bound of the statement's second form), the law returns true; of what was in memory nothing has turned. -/
import Derived.Test.YtacbaegobkdgfaaAlive02
namespace Go.Proofs.Ytacbaegobkdgfaa
open Go.RowKit
open Go.Lib (hid)

theorem app_toList (a b : ByteArray) : (a ++ b).data.toList = a.data.toList ++ b.data.toList := by rw [ByteArray.data_append, Array.toList_append]

theorem dec_shift : ∀ (n : Nat) (l : List UInt8), l.length ≤ n → ∀ a b : Nat, (∀ t, dec a l = .ok t → dec b l = .ok t) ∧ (∀ x, dec a l = .error x → ∃ y, dec b l = .error y) := by
  intro n
  induction n with
  | zero =>
    intro l hl a b
    obtain rfl := List.eq_nil_of_length_eq_zero (Nat.le_zero.1 hl)
    rw [dec_nil, dec_nil]
    exact ⟨fun _ h => h, fun x h => (by cases h)⟩
  | succ n ih =>
    intro l hl a b
    cases l with
    | nil => rw [dec_nil, dec_nil]; exact ⟨fun _ h => h, fun x h => (by cases h)⟩
    | cons c r =>
      cases ho : octL (c :: r) with
      | error e =>
        rw [dec_error (by simp) ho, dec_error (by simp) ho]
        exact ⟨fun _ h => (by cases h), fun x _ => ⟨_, rfl⟩⟩
      | ok p =>
        obtain ⟨q, k⟩ := p
        have h1 := octL_ok ho
        have h2 := ih ((c :: r).drop k) (by rw [List.length_drop]; omega) (a + k) (b + k)
        rw [dec_ok ho, dec_ok ho]
        cases hd : dec (a + k) ((c :: r).drop k) with
        | error y =>
          obtain ⟨z, hz⟩ := h2.2 y hd
          rw [hz]
          exact ⟨fun _ h => (by cases h), fun x _ => ⟨_, rfl⟩⟩
        | ok t =>
          rw [h2.1 t hd]
          exact ⟨fun _ h => h, fun x h => (by cases h)⟩

/-- What Decode tells of two texts, a blank between. -/
theorem dec_both (l m : List UInt8) : (∀ x y, dec 0 l = .ok x → dec 0 m = .ok y → dec 0 (l ++ 32 :: m) = .ok (x ++ 32 :: y)) ∧ ((∃ x, dec 0 l = .error x) ∨ (∃ x, dec 0 m = .error x) → ∃ z, dec 0 (l ++ 32 :: m) = .error z) := by
  have hp := dec_parts m l.length 0 l (Nat.le_refl _)
  refine ⟨fun x y hx hy => ?_, fun h => ?_⟩
  · rw [hp, hx, (dec_shift _ m (Nat.le_refl _) 0 _).1 y hy]
    simp [pre]
  · rw [hp]
    cases hl : dec 0 l with
    | error x => exact ⟨x, rfl⟩
    | ok t =>
      rcases h with ⟨x, hx⟩ | ⟨x, hx⟩
      · rw [hl] at hx; cases hx
      · obtain ⟨z, hz⟩ := (dec_shift _ m (Nat.le_refl _) 0 (0 + l.length + 1)).2 x hx
        rw [hz]; exact ⟨z, rfl⟩

theorem dec_err_ne {l : List UInt8} {x : Nat × Int} (h : dec 0 l = .error x) : (x.2 == 0) = false ∧ (x.2 != 0) = true := by
  have := ((dec_facts _ 0 l (Nat.le_refl _)).1 x h).2.2.1
  exact ⟨by simpa using this, by simpa using this⟩

theorem four_below {w w1 w2 w3 w4 : World} (h1 : Below w.heap.size w w1) (h2 : Below w1.heap.size w1 w2) (h3 : Below w2.heap.size w2 w3) (h4 : Below w3.heap.size w3 w4) : Below w.heap.size w w4 := by
  have s1 := h1.size
  have s2 := h2.size
  have s3 := h3.size
  exact ((h1.trans (h2.mono s1)).trans (h3.mono (by omega))).trans (h4.mono (by omega))

set_option maxHeartbeats 2000000 in
theorem parts_walk (s t : ByteArray) (w : World) (hs : s.size ≤ 1048576) (ht : t.size ≤ 1048576) :
    Calls Try.prog 5 #[.string s, .string t] w fun e w' => e = .returned (.bool true) ∧ Below w.heap.size w w' := by
  have hz : (s ++ ⟨#[32]⟩ ++ t : ByteArray).size = s.size + 1 + t.size := by rw [ByteArray.size_append, ByteArray.size_append]; rfl
  have e0 : (s ++ ⟨#[32]⟩ ++ t : ByteArray).data.toList = s.data.toList ++ 32 :: t.data.toList := by rw [app_toList, app_toList]; simp
  have hb := dec_both s.data.toList t.data.toList
  have cS := fun W => decode_any s W (by omega)
  have cT := fun W => decode_any t W (by omega)
  have cU := fun W => decode_any (s ++ ⟨#[32]⟩ ++ t) W (by rw [hz]; omega)
  rw [e0] at cU
  clear e0 hz
  cases h1 : dec 0 s.data.toList with
  | error x =>
    obtain ⟨z, hz⟩ := hb.2 (.inl ⟨x, h1⟩)
    obtain ⟨g1, g1'⟩ := dec_err_ne h1
    obtain ⟨g2, g2'⟩ := dec_err_ne hz
    rw [h1] at cS
    rw [hz] at cU
    obtain ⟨x1, x2⟩ := x
    obtain ⟨z1, z2⟩ := z
    change ∀ W, Calls _ _ _ W (fun e w' => e = .returned (.tuple #[.string .empty, .int .i64 x1, .int .i64 x2]) ∧ Below W.heap.size W w') at cS
    change ∀ W, Calls _ _ _ W (fun e w' => e = .returned (.tuple #[.string .empty, .int .i64 z1, .int .i64 z2]) ∧ Below W.heap.size W w') at cU
    cases h2 : dec 0 t.data.toList with
    | error y =>
      rw [h2] at cT
      obtain ⟨y1, y2⟩ := y
      change ∀ W, Calls _ _ _ W (fun e w' => e = .returned (.tuple #[.string .empty, .int .i64 y1, .int .i64 y2]) ∧ Below W.heap.size W w') at cT
      clear h1 h2 hb hz
      go_enter Try.func5, Try.ntmps5
      go_wp2_with (first | (go_at_call 7; (with_reducible refine (alive_any _).mono ?_); rintro e w1 ⟨rfl, hb1⟩) | (go_at_call 11; first | ((with_reducible refine (cS _).mono ?_); rintro e w2 ⟨rfl, hb2⟩) | ((with_reducible refine (cT _).mono ?_); rintro e w3 ⟨rfl, hb3⟩) | ((with_reducible refine (cU _).mono ?_); rintro e w4 ⟨rfl, hb4⟩)) | (go_at_call 9; (with_reducible refine (num_any _ _).mono ?_); rintro e w' ⟨rfl, rfl⟩))
      go_ret
      exact ⟨rfl, four_below hb1 hb2 hb3 hb4⟩
    | ok y =>
      rw [h2] at cT
      change ∀ W, Calls _ _ _ W (fun e w' => e = .returned (.tuple #[.string ⟨y.toArray⟩, .int .i64 t.size, .int .i64 0]) ∧ Below W.heap.size W w') at cT
      clear h1 h2 hb hz
      go_enter Try.func5, Try.ntmps5
      go_wp2_with (first | (go_at_call 7; (with_reducible refine (alive_any _).mono ?_); rintro e w1 ⟨rfl, hb1⟩) | (go_at_call 11; first | ((with_reducible refine (cS _).mono ?_); rintro e w2 ⟨rfl, hb2⟩) | ((with_reducible refine (cT _).mono ?_); rintro e w3 ⟨rfl, hb3⟩) | ((with_reducible refine (cU _).mono ?_); rintro e w4 ⟨rfl, hb4⟩)) | (go_at_call 9; (with_reducible refine (num_any _ _).mono ?_); rintro e w' ⟨rfl, rfl⟩))
      go_ret
      exact ⟨rfl, four_below hb1 hb2 hb3 hb4⟩
  | ok x =>
    rw [h1] at cS
    change ∀ W, Calls _ _ _ W (fun e w' => e = .returned (.tuple #[.string ⟨x.toArray⟩, .int .i64 s.size, .int .i64 0]) ∧ Below W.heap.size W w') at cS
    cases h2 : dec 0 t.data.toList with
    | error y =>
      obtain ⟨z, hz⟩ := hb.2 (.inr ⟨y, h2⟩)
      obtain ⟨g1, g1'⟩ := dec_err_ne h2
      obtain ⟨g2, g2'⟩ := dec_err_ne hz
      rw [hz] at cU
      rw [h2] at cT
      obtain ⟨y1, y2⟩ := y
      obtain ⟨z1, z2⟩ := z
      change ∀ W, Calls _ _ _ W (fun e w' => e = .returned (.tuple #[.string .empty, .int .i64 y1, .int .i64 y2]) ∧ Below W.heap.size W w') at cT
      change ∀ W, Calls _ _ _ W (fun e w' => e = .returned (.tuple #[.string .empty, .int .i64 z1, .int .i64 z2]) ∧ Below W.heap.size W w') at cU
      clear h1 h2 hb hz
      go_enter Try.func5, Try.ntmps5
      go_wp2_with (first | (go_at_call 7; (with_reducible refine (alive_any _).mono ?_); rintro e w1 ⟨rfl, hb1⟩) | (go_at_call 11; first | ((with_reducible refine (cS _).mono ?_); rintro e w2 ⟨rfl, hb2⟩) | ((with_reducible refine (cT _).mono ?_); rintro e w3 ⟨rfl, hb3⟩) | ((with_reducible refine (cU _).mono ?_); rintro e w4 ⟨rfl, hb4⟩)) | (go_at_call 9; (with_reducible refine (num_any _ _).mono ?_); rintro e w' ⟨rfl, rfl⟩))
      go_ret
      exact ⟨rfl, four_below hb1 hb2 hb3 hb4⟩
    | ok y =>
      have h3 := hb.1 x y h1 h2
      have hx := ((dec_facts _ 0 _ (Nat.le_refl _)).2 x h1).2
      have hy := ((dec_facts _ 0 _ (Nat.le_refl _)).2 y h2).2
      rw [len_toList] at hx hy
      rw [h2] at cT
      rw [h3] at cU
      obtain ⟨X, hX⟩ : ∃ X : ByteArray, ⟨x.toArray⟩ = X := ⟨_, rfl⟩
      obtain ⟨Y, hY⟩ : ∃ Y : ByteArray, ⟨y.toArray⟩ = Y := ⟨_, rfl⟩
      have hXd : X.data.toList = x := by rw [← hX]
      have hYd : Y.data.toList = y := by rw [← hY]
      have hXs : X.size ≤ 1048576 := by rw [← len_toList, hXd]; omega
      have hYs : Y.size ≤ 1048576 := by rw [← len_toList, hYd]; omega
      have hZ : (⟨(x ++ 32 :: y).toArray⟩ : ByteArray) = X ++ ⟨#[32]⟩ ++ Y := ByteArray.ext (Array.toList_inj.1 (by rw [app_toList, app_toList, hXd, hYd]; simp))
      change ∀ W, Calls _ _ _ W (fun e w' => e = .returned (.tuple #[.string ⟨y.toArray⟩, .int .i64 t.size, .int .i64 0]) ∧ Below W.heap.size W w') at cT
      change ∀ W, Calls _ _ _ W (fun e w' => e = .returned (.tuple #[.string ⟨(x ++ 32 :: y).toArray⟩, .int .i64 (s ++ ⟨#[32]⟩ ++ t : ByteArray).size, .int .i64 0]) ∧ Below W.heap.size W w') at cU
      rw [hZ] at cU
      rw [hX] at cS
      rw [hY] at cT
      have he : ((X ++ ⟨#[32]⟩ ++ Y : ByteArray).toList == (X ++ ⟨#[32]⟩ ++ Y : ByteArray).toList) = true := by simp
      clear h1 h2 h3 hb hX hY hXd hYd hZ hx hy
      go_enter Try.func5, Try.ntmps5
      go_wp2_with (first | (go_at_call 7; (with_reducible refine (alive_any _).mono ?_); rintro e w1 ⟨rfl, hb1⟩) | (go_at_call 11; first | ((with_reducible refine (cS _).mono ?_); rintro e w2 ⟨rfl, hb2⟩) | ((with_reducible refine (cT _).mono ?_); rintro e w3 ⟨rfl, hb3⟩) | ((with_reducible refine (cU _).mono ?_); rintro e w4 ⟨rfl, hb4⟩)) | (go_at_call 9; (with_reducible refine (num_any _ _).mono ?_); rintro e w' ⟨rfl, rfl⟩))
      go_ret
      exact ⟨rfl, four_below hb1 hb2 hb3 hb4⟩

theorem small_two {H : Type} {s t : ByteArray} (hk : Rows.uptoSmall H [.lit (.string s.data.toList), .lit (.string t.data.toList)] = true) : s.size ≤ 1048576 ∧ t.size ≤ 1048576 := by
  have h : Rows.uptoBulkAll [DataW.lit (H := H) (.string s.data.toList), DataW.lit (H := H) (.string t.data.toList)] ≤ 1048576 := of_decide_eq_true hk
  simp only [Rows.uptoBulkAll, Rows.uptoBulk] at h
  rw [len_toList, len_toList] at h
  omega

theorem parts_upto {H : Type} (s t : ByteArray) (w : World) (_hs : s.size ≤ 140737488351232) (_ht : t.size ≤ 140737488351232) (hk : Rows.uptoSmall H [.lit (.string s.data.toList), .lit (.string t.data.toList)] = true) :
    Calls Try.prog 5 #[.string s, .string t] w fun e w' => e = .returned (.bool true) ∧ Below w.heap.size w w' :=
  parts_walk s t w (small_two hk).1 (small_two hk).2
end Go.Proofs.Ytacbaegobkdgfaa
