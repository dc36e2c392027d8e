/- Contracts of octets.Reserved (with slices.ContainsFunc at its closure) and of strings.Clone. No conditions but the size of a string. -/
import Derived.Test.YtncfkfpjoohinaaOctB
import Derived.Below
namespace Go.Proofs.Ytncfkfpjoohinaa
open Go.RowKit
open Go.Lib (hid)

/-- Where the first is for which p holds, the first one's place being k; -1: nowhere. -/
def idxL (p : ByteArray → Bool) : Nat → List ByteArray → Int
  | _, [] => -1
  | k, c :: r => if p c then (k : Int) else idxL p (k + 1) r
def sameB (x s : ByteArray) : Bool := x.toList == s.toList

set_option maxHeartbeats 400000 in
theorem resFn (x s : ByteArray) (B : Nat) (w : World) (hc : w.cell? ⟨B, 0, none⟩ = some (.string s)) :
    Calls Try.prog 36 (#[.string x] ++ #[.pointer (some ⟨B, 0, none⟩)]) w fun e w' => e = .returned (.bool (sameB x s)) ∧ w = w' := by
  go_enter Try.func36, Try.ntmps36
  go_wp2
  go_ret
  exact ⟨rfl, rfl⟩

set_option maxHeartbeats 400000 in
theorem indexFunc_any (g : Nat) (lb : Array Value) (eg : ∀ args w, (callFunc g args).run Try.prog w = .ok (.enter g args) w) (p : ByteArray → Bool) (b off cap : Nat) (xs : List ByteArray) (w : World)
    (hs : xs.length ≤ maxLen) (hc : ∀ k (h : k < xs.length), w.cell? ⟨b, off + k, none⟩ = some (.string xs[k]))
    (hp : ∀ x, Calls Try.prog g (#[.string x] ++ lb) w fun e w' => e = .returned (.bool (p x)) ∧ w = w') :
    Calls Try.prog 43 #[.slice (some ⟨b, off, none⟩) xs.length cap, .func (.func g) #[] lb] w fun e w' => e = .returned (.int .i64 (idxL p 0 xs)) ∧ w = w' := by
  unfold maxLen at hs
  go_enter Try.func43, Try.ntmps43
  go_wp2
  go_loop [8] (fun i => ∃ k : Nat, k ≤ xs.length ∧ i = .int .i64 k ∧ idxL p 0 xs = idxL p k (xs.drop k)) (fun i => xs.length - (intOf i).toNat)
  case atStart => exact ⟨0, Nat.zero_le _, rfl, rfl⟩
  case round =>
    obtain ⟨k, hk, rfl, he⟩ := hrel
    have HE := Lib.hid he
    clear he
    by_cases hlt : k < xs.length
    · have HD : Hid (idxL p k (xs.drop k) = if p xs[k] then (k : Int) else idxL p (k + 1) (xs.drop (k + 1))) := hid (by rw [List.drop_eq_getElem_cons hlt]; rfl)
      have hcell := hc k hlt
      have cS := hp xs[k]
      clear hp hc
      cases hv : p xs[k]
      · have HV := Lib.hid hv
        rw [hv] at cS
        clear hv
        go_wp2_with (go_at_fn g; refine cS.mono ?_; rintro e W' ⟨rfl, rfl⟩)
        go_round
        case rel => exact ⟨k + 1, by omega, by go_num, by rw [HE.out, HD.out, HV.out]; rfl⟩
        case measure => simp [intOf]; omega
      · have HV := Lib.hid hv
        rw [hv] at cS
        clear hv
        go_wp2_with (go_at_fn g; refine cS.mono ?_; rintro e W' ⟨rfl, rfl⟩)
        go_ret
        exact ⟨by rw [HE.out, HD.out, HV.out]; rfl, rfl⟩
    · have HD : Hid (xs.drop k = []) := hid (List.drop_eq_nil_of_le (by omega))
      clear hc
      go_wp2
      go_ret
      exact ⟨by rw [HE.out, HD.out]; rfl, rfl⟩

theorem idxL_lo (p : ByteArray → Bool) : ∀ (k : Nat) (l : List ByteArray), -1 ≤ idxL p k l ∧ idxL p k l < k + l.length
  | k, [] => by unfold idxL; simp; omega
  | k, c :: r => by
    unfold idxL
    have := idxL_lo p (k + 1) r
    cases p c <;> simp <;> omega
theorem idxL_any (p : ByteArray → Bool) : ∀ (k : Nat) (l : List ByteArray), decide (0 ≤ idxL p k l) = l.any p
  | k, [] => by simp [idxL]
  | k, c :: r => by
    unfold idxL
    have := idxL_any p (k + 1) r
    cases h : p c <;> simp [h, this]

set_option maxHeartbeats 400000 in
theorem containsFunc_any (g : Nat) (lb : Array Value) (eg : ∀ args w, (callFunc g args).run Try.prog w = .ok (.enter g args) w) (p : ByteArray → Bool) (b off cap : Nat) (xs : List ByteArray) (w : World)
    (hs : xs.length ≤ maxLen) (hc : ∀ k (h : k < xs.length), w.cell? ⟨b, off + k, none⟩ = some (.string xs[k]))
    (hp : ∀ x, Calls Try.prog g (#[.string x] ++ lb) w fun e w' => e = .returned (.bool (p x)) ∧ w = w') :
    Calls Try.prog 35 #[.slice (some ⟨b, off, none⟩) xs.length cap, .func (.func g) #[] lb] w fun e w' => e = .returned (.bool (xs.any p)) ∧ w = w' := by
  have cI := indexFunc_any g lb eg p b off cap xs w hs hc hp
  have HA : Hid (xs.any p = decide (0 ≤ idxL p 0 xs)) := hid (idxL_any p 0 xs).symm
  clear hc hp
  go_enter Try.func35, Try.ntmps35
  go_wp2_with (go_at_call 43; refine cI.mono ?_; rintro e w' ⟨rfl, rfl⟩)
  go_ret
  exact ⟨by rw [HA.out]; rfl, rfl⟩

def resWords : List ByteArray := [⟨#[105, 102]⟩, ⟨#[116, 104, 101, 110]⟩, ⟨#[101, 108, 105, 102]⟩, ⟨#[101, 108, 115, 101]⟩, ⟨#[102, 105]⟩, ⟨#[100, 111]⟩, ⟨#[100, 111, 110, 101]⟩, ⟨#[99, 97, 115, 101]⟩, ⟨#[101, 115, 97, 99]⟩, ⟨#[119, 104, 105, 108, 101]⟩,
  ⟨#[117, 110, 116, 105, 108]⟩, ⟨#[102, 111, 114]⟩, ⟨#[105, 110]⟩, ⟨#[123]⟩, ⟨#[125]⟩, ⟨#[33]⟩, ⟨#[102, 117, 110, 99, 116, 105, 111, 110]⟩, ⟨#[91, 91]⟩, ⟨#[93, 93]⟩, ⟨#[115, 101, 108, 101, 99, 116]⟩]
/-- Reserved: one of the words. -/
def resL (s : ByteArray) : Bool := resWords.any (sameB · s)

def resRow : Array Value := (resWords.map Value.string).toArray
theorem resRow_at (w : World) (b : Nat) (h : w.heap[b]? = some (.cells resRow 9 (0, 0))) (k : Nat) (hk : k < resWords.length) : w.cell? ⟨b, 0 + k, none⟩ = some (.string resWords[k]) := by
  rw [cell_of_row w b _ resRow _ (0, 0) h]
  simp [resRow, hk]

theorem res_heap (w : World) (o : Obj) : ((w.alloc o).alloc (.cells resRow 9)).heap[w.heap.size + 1]? = some (.cells resRow 9 (0, 0)) := by
  have h := heap_alloc_new (w.alloc o) (.cells resRow 9)
  simpa only [World.size_alloc] using h

set_option maxHeartbeats 1000000 in
theorem reserved_any (s : ByteArray) (w : World) :
    Calls Try.prog 20 #[.string s] w fun e w' => e = .returned (.bool (resL s)) ∧ Below w.heap.size w w' := by
  have cC : ∀ W : World, W.heap[w.heap.size + 1]? = some (.cells resRow 9 (0, 0)) → W.cell? ⟨w.heap.size, 0, none⟩ = some (.string s) →
      Calls Try.prog 35 #[.slice (some ⟨w.heap.size + 1, 0, none⟩) 20 20, .func (.func 36) #[] #[.pointer (some ⟨w.heap.size, 0, none⟩)]] W fun e w' => e = .returned (.bool (resL s)) ∧ W = w' := fun W hb hc =>
    containsFunc_any 36 #[.pointer (some ⟨w.heap.size, 0, none⟩)] (enters_of Try.func36 (by kernel_rfl) rfl) (sameB · s) (w.heap.size + 1) 0 20 resWords W (by decide) (resRow_at W _ hb) (fun x => resFn x s _ W hc)
  go_enter Try.func20, Try.ntmps20
  go_wp2_with (go_at_call 35; go_loud (refine (cC _ (res_heap w (.cells #[.string s] 9)) (by simp)).mono ?_; rintro e w' ⟨rfl, rfl⟩))
  go_ret
  exact ⟨rfl, ((Below.refl _ _).alloc (Nat.le_refl _) _).alloc (by simp) _⟩

theorem clone_any (s : ByteArray) (w : World) (hlim : s.size ≤ 281474976710656) :
    Calls Try.prog 22 #[.string s] w fun e w' => e = .returned (.string s) ∧ Below w.heap.size w w' := by
  have c1 := fun W => Try.stringslite_Clone s W hlim
  go_enter Try.func22, Try.ntmps22
  go_wp2_with (go_at_call 38; refine (c1 _).mono ?_; rintro e w' ⟨rfl, hb⟩)
  go_ret
  exact ⟨rfl, hb⟩
end Go.Proofs.Ytncfkfpjoohinaa
