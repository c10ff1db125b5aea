/- Dock: lists of wishes are counted. -/
import Derived.Test.YtojblooaiojmcaaProved
import Derived.Test.YtojblooaiojmcaaAxZ
namespace Go.Proofs.Ytojblooaiojmcaa
open Go Go.Proofs.Ytojblooaiojmcaa.AX

/-- How many bays are taken. -/
def popc (s : Nat) : Nat := bc 8 s 0
theorem ones_all : (List.range 256).all (fun s => match runZ cx 300 84 [.int .u64 (.ofNat s)] [] with | some (.int .i64 m, []) => ieq m (.ofNat (popc s)) | _ => false) = true := by kernel_rfl
theorem ones_ac (s : Nat) (H : AH) (Q : AV → AH → Prop) (hs : s < 256) (h : Q (.int .i64 (popc s)) H) : AC Try.prog 84 [.int .u64 s] H Q := by
  have := List.all_eq_true.1 ones_all s (List.mem_range.2 hs)
  split at this
  · rename_i m hr
    rw [ieq_eq, beq_iff_eq] at this
    subst this
    exact AC_kernZ cx_ok 300 hr (.cons (.int _ _) .nil) (.int _ _) h
  · cases this

def tailsV (f : Nat → Nat) : List AV := (List.range 256).map fun s => .int .i64 (f s : Nat)
theorem tailsV_get (f : Nat → Nat) {i : Nat} (hi : i < 256) : (tailsV f)[i]? = some (.int .i64 (f i : Nat)) := by simp [tailsV, hi]
theorem tailsV_len (f : Nat → Nat) : (tailsV f).length = 256 := by simp [tailsV]
theorem tailsV_set (f : Nat → Nat) {i : Nat} (x : Nat) : (tailsV f).set i (.int .i64 (x : Nat)) = tailsV fun b => if b = i then x else f b := by
  apply List.ext_getElem?
  intro j
  rw [List.getElem?_set]
  by_cases hj : j < 256
  · by_cases hij : i = j
    · subst hij; simp [tailsV, hj]
    · rw [if_neg hij, tailsV_get f hj, tailsV_get _ hj, if_neg (fun h => hij h.symm)]
  · have h1 : ∀ f, (tailsV f)[j]? = none := fun f => by simp [tailsV]; omega
    rw [h1, h1]
    by_cases hij : i = j
    · subst hij; simp [tailsV, hj]
    · rw [if_neg hij]
theorem tailsV_congr {f g : Nat → Nat} (h : ∀ b, b < 256 → f b = g b) : tailsV f = tailsV g := by
  simp only [tailsV]
  exact List.map_congr_left fun b hb => by rw [h b (List.mem_range.1 hb)]
theorem z78 : zeroT Try.prog 78 = some (tailsV fun _ => 0) := by kernel_rfl
theorem assert91 (b : Int) : aAssert Try.prog (.iface 91 (.agg [.int .i64 b])) 91 true = some (.tuple [.agg [.int .i64 b], .bool true]) := by kernel_rfl
theorem assert93 : aAssert Try.prog (.iface 93 (.agg [])) 91 true = some (.tuple [.agg [.int .i64 0], .bool false]) := by kernel_rfl

theorem leaves_ex (b s : Nat) (H : AH) (Q : AV → AH → Prop) (hs : s < 2 ^ 64) (hb : b < 64) (h : Q (.int .u64 ((s ||| 2 ^ b : Nat) : Int)) (H ++ [.row [.int .i64 b] 0 0 false])) : AC Try.prog 125 [.agg [.int .i64 b], .int .u64 s] H Q := by
  refine L_body 9 Try.func125 rfl rfl ?_
  refine L_reg [1, 2] (fun K hK => ?_)
  simp [AV.isU, acells]
  apply hK; clear hK K
  refine L_reg [4] (fun K hK => ?_)
  simp [okFn_low, fa91, ld_last]
  refine with_ac s b _ _ hs hb ?_
  simp
  apply hK; clear hK K
  exact L_ret ⟨.inr rfl, _, rfl, h⟩

theorem lt256 {s b : Nat} (hs : s < 256) (hb : b < 8) : s ||| 2 ^ b < 256 := Nat.or_lt_two_pow (n := 8) hs (Nat.pow_lt_pow_right (by decide) hb)

theorem behind_yes (r n b s : Nat) (f : Nat → Nat) (H : AH) (Q : AV → AH → Prop) (hn : n ≤ 8) (hbn : b < n) (hs : s < 256) (hrow : H[r]? = some (.row (tailsV f) 0 0 false)) (h : Q (.int .i64 (f (s ||| 2 ^ b) : Nat)) (H ++ [.row [.int .i64 b] 0 0 false])) :
    AC Try.prog 74 [.ptr r 0 0, fateV n b, .int .u64 s] H Q := by
  have hlt := lt256 hs (show b < 8 by omega)
  have hE : Ext H (H ++ [AObj.row [.int .i64 b] 0 0 false]) := .push _ _
  have hrow2 := hE.row hrow
  have hld : ld (H ++ [AObj.row [.int .i64 b] 0 0 false]) r (s ||| 2 ^ b) 0 = some (.int .i64 (f (s ||| 2 ^ b) : Nat)) := by rw [ld_row hrow2, tailsV_get _ hlt]; rfl
  rw [fateV, if_pos hbn]
  refine L_body 18 Try.func74 rfl rfl ?_
  refine L_reg [0, 1, 2] (fun K hK => ?_)
  simp
  apply hK; clear hK K
  refine L_reg [0, 1, 2, 7] (fun K hK => ?_)
  simp
  apply hK; clear hK K
  refine L_block ?_
  refine L_reg [0, 1, 2, 9] (fun K hK => ?_)
  simp [assert91, extV]
  apply hK; clear hK K
  refine L_true rfl ?_
  refine L_regX mixed [6] (by kernel_rfl) (fun K hK => ?_)
  simp [invS_some inv91]
  refine exX_mk (fun Q hQ => leaves_ex b s _ Q (by omega) (by omega) hQ) hE ?_
  generalize H ++ [AObj.row [.int .i64 b] 0 0 false] = H1 at *
  generalize s ||| 2 ^ b = x at *
  simp [aNil, show (x : Int) < 256 by omega, hld]
  apply hK; clear hK K
  exact L_ret ⟨.inr rfl, _, rfl, h⟩
theorem behind_no (r n b s : Nat) (H : AH) (Q : AV → AH → Prop) (hbn : ¬ b < n) (h : Q (.int .i64 (0 : Nat)) H) :
    AC Try.prog 74 [.ptr r 0 0, fateV n b, .int .u64 s] H Q := by
  rw [fateV, if_neg hbn]
  refine L_body 18 Try.func74 rfl rfl ?_
  refine L_reg [0, 1, 2] (fun K hK => ?_)
  simp
  apply hK; clear hK K
  refine L_reg [0, 1, 2, 7] (fun K hK => ?_)
  simp
  apply hK; clear hK K
  refine L_block ?_
  refine L_reg [0, 1, 2, 9] (fun K hK => ?_)
  simp [assert93, extV]
  apply hK; clear hK K
  refine L_false rfl ?_
  refine L_reg [6] (fun K hK => ?_)
  simp
  apply hK; clear hK K
  exact L_ret ⟨.inr rfl, _, rfl, by simpa using h⟩

def sW (g : Nat → Nat) : Nat → Nat
  | 0 => 0
  | w + 1 => sW g w + g w
/-- How many lists of k more wishes serve all, when a set of bays is taken. -/
def tlF (n : Nat) : Nat → Nat → Nat
  | 0, _ => 1
  | k + 1, s => sW (fun w => if ff s (n - w) w < n then tlF n k (s ||| 2 ^ ff s (n - w) w) else 0) n
theorem sW_le {g : Nat → Nat} {B : Nat} (h : ∀ w, g w ≤ B) : ∀ n, sW g n ≤ n * B
  | 0 => by simp [sW]
  | n + 1 => by rw [sW, Nat.succ_mul]; have := sW_le h n; have := h n; omega
theorem tlF_le {n : Nat} (hn : n ≤ 8) : ∀ k s, tlF n k s ≤ 8 ^ k
  | 0, s => by simp [tlF]
  | k + 1, s => by
    rw [tlF]
    refine Nat.le_trans (sW_le (B := 8 ^ k) (fun w => ?_) n) ?_
    · split
      · exact tlF_le hn k _
      · exact Nat.zero_le _
    · rw [Nat.pow_succ, Nat.mul_comm]; exact Nat.mul_le_mul (Nat.le_refl _) hn
/-- What is counted for each set. -/
def tlS (n m s : Nat) : Nat := if s < 2 ^ n ∧ popc s ≤ m then tlF n (m - popc s) s else 0
end Go.Proofs.Ytojblooaiojmcaa
