/- The sums of Erdös and Gallai tell the same, for at most eight counts: a table. Pure. -/
import Derived.Test.YtbimapbcpmeooaaHakM
namespace Go.Proofs.Ytbimapbcpmeooaa.Cl
set_option linter.unusedVariables false
set_option maxRecDepth 100000
/-- No number k stands against counts, the greatest ones first. -/
def egK (l : List Nat) (k : Nat) : Bool := Nat.ble (l.take k).sum (k * (k - 1) + ((l.drop k).map fun y => bif Nat.ble y k then y else k).sum)
def egB (l : List Nat) : Bool := Nat.beq (l.sum % 2) 0 && (List.range l.length).all fun i => egK l (i + 1)
/-- All lists that descend. -/
def enD : Nat → Nat → List (List Nat)
  | 0, _ => [[]]
  | n + 1, m => (List.range (m + 1)).flatMap fun x => (enD n x).map (x :: ·)
theorem mem_enD : ∀ {l : List Nat} {m : Nat}, Dsc l → (∀ x ∈ l, x ≤ m) → l ∈ enD l.length m
  | [], m, _, _ => by simp [enD]
  | x :: l, m, hs, hm => by
    obtain ⟨h1, h2⟩ := List.pairwise_cons.1 hs
    simp only [List.length_cons, enD, List.mem_flatMap, List.mem_range, List.mem_map]
    exact ⟨x, by have := hm x (by simp); omega, l, mem_enD h2 (fun y hy => h1 y hy), rfl⟩
def galT (n : Nat) : Bool := (enD n (n - 1)).all fun l => egB l == hhB n l
theorem gal1 : galT 1 = true := by decide +kernel
theorem gal2 : galT 2 = true := by decide +kernel
theorem gal3 : galT 3 = true := by decide +kernel
theorem gal4 : galT 4 = true := by decide +kernel
theorem gal5 : galT 5 = true := by decide +kernel
theorem gal6 : galT 6 = true := by decide +kernel
theorem gal7 : galT 7 = true := by decide +kernel
theorem gal8 : galT 8 = true := by decide +kernel
theorem gal_all : ∀ n, 1 ≤ n → n ≤ 8 → galT n = true := by
  intro n h1 h8
  match n, h1, h8 with
  | 1, _, _ => exact gal1
  | 2, _, _ => exact gal2
  | 3, _, _ => exact gal3
  | 4, _, _ => exact gal4
  | 5, _, _ => exact gal5
  | 6, _, _ => exact gal6
  | 7, _, _ => exact gal7
  | 8, _, _ => exact gal8
/-- There is a plan of counts just if their sum is even and no number stands against them. -/
theorem gallai {l : List Nat} (h8 : l.length ≤ 8) (hl : ∀ x ∈ l, x < l.length) : real l ↔ egB (srtD l) = true := by
  have hp := srtD_perm l
  rw [← real_perm hp]
  rcases Nat.eq_zero_or_pos l.length with h0 | h0
  · obtain rfl : l = [] := List.length_eq_zero_iff.1 h0
    exact ⟨fun _ => by decide, fun _ => real_nil⟩
  · have hm := mem_enD (srtD_dsc l) (m := l.length - 1) fun x hx => by
      have := hl x (hp.mem_iff.1 hx)
      omega
    rw [hp.length_eq] at hm
    have ht := List.all_eq_true.1 (gal_all l.length h0 h8) _ hm
    rw [beq_iff_eq] at ht
    rw [← hh_real l.length (srtD l) hp.length_eq (srtD_dsc l), ht]
end Go.Proofs.Ytbimapbcpmeooaa.Cl
