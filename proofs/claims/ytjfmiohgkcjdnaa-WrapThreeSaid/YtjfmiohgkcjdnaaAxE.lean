/- A plain reading of runs: what the operations that leave memory alone answer. -/
import Derived.Test.YtjfmiohgkcjdnaaAxD
namespace Go.Proofs.Ytjfmiohgkcjdnaa.AX
open Go Go.RowKit
section
variable {P : Program} {σ : Inj}

theorem aIndexAddr_sound {t : TypeId} {x i v : AV} {a j : Value} (h : aIndexAddr P t x i = some v) (hx : RelV σ x a) (hi : RelV σ i j) : ∃ c, RelV σ v c ∧ ∀ w, (Instr.indexAt t a j).run P w = .ok c w := by
  unfold aIndexAddr at h
  split at h
  case h_5 => cases h
  case h_3 n e g off k i hu =>
    split at h
    case h_2 => cases h
    rename_i ie hie
    split at h
    case isFalse => cases h
    rename_i hc
    obtain ⟨h0, h1⟩ := hc
    cases h
    cases hi
    cases hx
    refine ⟨.pointer (some ⟨g, off + i.toNat * ie.size, none⟩), .gptr _ _, fun w => ?_⟩
    simp [Instr.indexAt, asIntOf, run_underlying hu, h0, h1, sizeOf, typeInfo, hie, add_plain, Instr.sureAddr]
  case h_4 e r off len ver sz k i hu =>
    split at h
    case h_2 => cases h
    rename_i ie hie
    split at h
    case isFalse => cases h
    rename_i hc
    obtain ⟨hsz, h0, h1⟩ := hc
    cases h
    cases hi
    obtain ⟨b, o, n, sp, d, rfl, hf, hv, hcn, ho⟩ := hx.clipped
    obtain ⟨ho1, ho2, rfl⟩ := ho (by omega)
    refine ⟨.pointer (some ⟨b, o + i.toNat * sz, none⟩), .ptr hf (by push_cast; omega) hv hcn, fun w => ?_⟩
    simp [Instr.indexAt, asIntOf, run_underlying hu, h0, h1, sizeOf, typeInfo, hie, hsz, add_plain]
  case h_1 e r off len ver sz full k i hu =>
    split at h
    case h_2 => cases h
    rename_i ie hie
    split at h
    case isFalse => cases h
    rename_i hc
    obtain ⟨hsz, h0, h1⟩ := hc
    cases h
    cases hi
    cases hx with
    | slice hf hv hcn hl ho hfl hfin =>
      rename_i b o n cap sp d
      obtain ⟨ho1, ho2, rfl⟩ := ho (by omega)
      refine ⟨.pointer (some ⟨b, o + i.toNat * sz, none⟩), .ptr hf (by push_cast; omega) hv hcn, fun w => ?_⟩
      simp [Instr.indexAt, asIntOf, run_underlying hu, h0, h1, sizeOf, typeInfo, hie, hsz, add_plain]
  case h_2 n e r off ver k i hu =>
    split at h
    case h_2 => cases h
    rename_i ie hie
    split at h
    case isFalse => cases h
    rename_i hc
    obtain ⟨h0, h1⟩ := hc
    cases h
    cases hi
    cases hx with
    | ptr hf ho hv hcn =>
      rename_i b o m d
      refine ⟨.pointer (some ⟨b, o + i.toNat * ie.size, none⟩), .ptr hf (by push_cast; omega) hv hcn, fun w => ?_⟩
      simp [Instr.indexAt, asIntOf, run_underlying hu, h0, h1, sizeOf, typeInfo, hie, add_plain, Instr.sureAddr]

theorem aIndex_sound {t : TypeId} {x i v : AV} {a j : Value} (h : aIndex P t x i = some v) (hx : RelV σ x a) (hi : RelV σ i j) : ∃ c, RelV σ v c ∧ ∀ w, (Instr.index t a j).run P w = .ok c w := by
  unfold aIndex at h
  split at h
  case h_3 => cases h
  case h_1 n e cs k i hu =>
    split at h
    case isFalse => cases h
    rename_i hc
    obtain ⟨ie, hie, h⟩ := Option.bind_eq_some_iff.1 h
    cases hi
    cases hx with
    | agg hcs =>
      rename_i cs'
      obtain ⟨c, h1, h2⟩ := aPart_sound h hcs
      refine ⟨c, h1, fun w => ?_⟩
      simp [Instr.index, asIntOf, run_underlying hu, hc.1, hc.2, sizeOf, typeInfo, hie, h2]
  case h_2 s k i hu =>
    split at h
    case isFalse => cases h
    rename_i h0
    obtain ⟨b, hb, rfl⟩ := Option.map_eq_some_iff.1 h
    cases hi
    cases hx with
    | str s =>
      refine ⟨.int .u8 b.toNat, .int _ _, fun w => ?_⟩
      have hb' : s[i.toNat]? = some b := by
        rw [Array.getElem?_toList] at hb
        rw [← hb]; rfl
      simp [Instr.index, asIntOf, run_underlying hu, h0, hb']

theorem aConv_sound {s d : TypeId} {x v : AV} {a : Value} (h : aConv P s d x = some v) (hx : RelV σ x a) : ∃ c, RelV σ v c ∧ ∀ w, (convert s d a).run P w = .ok c w := by
  unfold aConv at h
  split at h
  case h_4 => cases h
  case h_1 hd hs =>
    cases h; cases hx
    exact ⟨_, .int _ _, fun w => by simp [convert, run_underlying hd, run_underlying hs, Conv.intToInt]⟩
  case h_2 hd hs =>
    cases h; cases hx
    exact ⟨.string _, .str _, fun w => by simp [convert, run_underlying hd, run_underlying hs, Conv.intToString]⟩
  case h_3 hd hs =>
    cases h; cases hx
    exact ⟨.string _, .str _, fun w => by simp [convert, run_underlying hd, run_underlying hs]⟩

theorem aUn_sound {op : UnOp} {x v : AV} {a : Value} (h : aUn op x = some v) (hx : RelV σ x a) : ∃ c, RelV σ v c ∧ ∀ w, (Op.unary op a).run P w = .ok c w := by
  unfold aUn at h
  split at h
  case h_4 => cases h
  all_goals
    cases h; cases hx
    first
    | exact ⟨_, .int _ _, fun w => rfl⟩
    | exact ⟨_, .bool _, fun w => rfl⟩

theorem aAssert_sound {x v : AV} {a : Value} {xt t : TypeId} {ok : Bool} (h : aAssert P x t ok = some v) (hx : RelV σ x a) : ∃ c, RelV σ v c ∧ ∀ w, (Instr.typeAssert a xt t ok).run P w = .ok c w := by
  have hholds : ∀ {u : AV} {c : Value}, RelV σ u c → RelV σ (aHolds ok u) (if ok then .tuple #[c, .bool true] else c) := by
    intro u c hu
    unfold aHolds
    split
    · exact .tuple (.cons hu (.cons (.bool _) .nil))
    · exact hu
  have hfails : ∀ {u : AV} (_ : aFails P t ok = some u), ∃ z, RelV σ u (.tuple #[z, .bool false]) ∧ ok = true ∧ ∀ w, (zeroValue t).run P w = .ok z w := by
    intro u hu
    unfold aFails at hu
    split at hu
    · rename_i hok
      obtain ⟨z, hz, rfl⟩ := Option.map_eq_some_iff.1 hu
      obtain ⟨i, hi, hz⟩ := Option.bind_eq_some_iff.1 hz
      exact ⟨z, .tuple (.cons (relV_absV σ 3 z) (.cons (.bool _) .nil)), hok, fun w => by simp [zeroValue, typeInfo, hi, hz]⟩
    · cases hu
  unfold aAssert at h
  split at h
  case h_4 => cases h
  case h_1 want t' u hu =>
    cases hx with
    | iface _ hv =>
      split at h
      case h_2 => cases h
      rename_i i hi
      split at h
      · rename_i hm
        cases h
        refine ⟨_, hholds (.iface _ hv), fun w => ?_⟩
        simp [Instr.typeAssert, run_underlying hu, typeInfo, hi, hm]
      · rename_i m hm
        obtain ⟨z, h1, h2, h3⟩ := hfails h
        refine ⟨_, h1, fun w => ?_⟩
        simp [Instr.typeAssert, run_underlying hu, typeInfo, hi, hm, h2, h3]
  case h_2 d hu =>
    cases hx
    obtain ⟨z, h1, h2, h3⟩ := hfails h
    refine ⟨_, h1, fun w => ?_⟩
    cases d <;> simp [Instr.typeAssert, run_underlying hu, h2, h3]
  case h_3 d t' u _ hu =>
    cases hx with
    | iface _ hv =>
      split at h
      · cases h
      · rename_i hd
        split at h
        · rename_i ht
          cases h
          refine ⟨_, hholds hv, fun w => ?_⟩
          cases d <;> first | (exact absurd rfl hd) | simp [Instr.typeAssert, run_underlying hu, ht]
        · rename_i ht
          obtain ⟨z, h1, h2, h3⟩ := hfails h
          refine ⟨_, h1, fun w => ?_⟩
          cases d <;> first | (exact absurd rfl hd) | simp [Instr.typeAssert, run_underlying hu, ht, h2, h3]

theorem aLen_sound {t : TypeId} {x v : AV} {a : Value} {ts : Array TypeId} {ty : TypeId} {as : Array Value} (h : aLen P t x = some v) (hx : RelV σ x a) (ht : ts[0]? = some t) (ha : as[0]? = some a) :
    ∃ c, RelV σ v c ∧ ∀ w, (Builtin.len_ ts ty as).run P w = .ok c w := by
  unfold aLen at h
  split at h
  case h_7 => cases h
  case h_1 hu =>
    cases h; cases hx with | str s => ?_
    exact ⟨_, .int _ _, fun w => by simp only [Builtin.len_, ht, ha, Sem.run_bind, run_underlying hu, Result.andThen_ok]; rfl⟩
  case h_2 hu =>
    cases h
    exact ⟨_, .int _ _, fun w => by simp only [Builtin.len_, ht, ha, Sem.run_bind, run_underlying hu, Result.andThen_ok]; rfl⟩
  case h_3 hu =>
    cases h
    cases hx <;> exact ⟨_, .int _ _, fun w => by simp only [Builtin.len_, ht, ha, Sem.run_bind, run_underlying hu, Result.andThen_ok]; rfl⟩
  case h_4 hu =>
    cases h; cases hx
    exact ⟨_, .int _ _, fun w => by simp only [Builtin.len_, ht, ha, Sem.run_bind, run_underlying hu, Result.andThen_ok]; rfl⟩
  case h_5 hu =>
    cases h; cases hx
    exact ⟨_, .int _ _, fun w => by simp only [Builtin.len_, ht, ha, Sem.run_bind, run_underlying hu, Result.andThen_ok]; rfl⟩
  case h_6 p hu =>
    split at h
    case h_2 => cases h
    rename_i hp
    cases h
    exact ⟨_, .int _ _, fun w => by simp only [Builtin.len_, ht, ha, Sem.run_bind, run_underlying hu, run_underlying hp, Result.andThen_ok]; rfl⟩

theorem aPure_sound {ρ : Operand → AV} {ρc : Operand → Value} (hρ : ∀ x, RelV σ (ρ x) (ρc x)) {o : Oper} {v : AV} (h : aPure P ρ o.op = some v) : ∃ c, RelV σ v c ∧ ∀ w, (execOp ρc o).run P w = .ok (.value c) w := by
  have fin : ∀ {s : Sem Value} {v : AV}, (∃ c, RelV σ v c ∧ ∀ w, s.run P w = .ok c w) → ∃ c, RelV σ v c ∧ ∀ w, (do pure (Next.value (← s)) : Sem Next).run P w = .ok (.value c) w :=
    fun ⟨c, h1, h2⟩ => ⟨c, h1, fun w => run_v (h2 w)⟩
  unfold aPure at h
  unfold execOp
  split at h <;> first | (cases h; done) | skip
  all_goals (rename_i heq; rw [heq]; simp only [])
  case h_1 x => cases h; exact ⟨_, hρ x, fun w => rfl⟩
  case h_2 x => cases h; exact ⟨_, hρ x, fun w => rfl⟩
  case h_3 c a b =>
    have hc := hρ c
    split at h
    case h_2 => cases h
    rename_i t ht
    rw [ht] at hc
    cases hc' : ρc c <;> rw [hc'] at hc <;> cases hc
    cases h
    refine ⟨if t then ρc a else ρc b, ?_, fun w => by simp [asBool]⟩
    split
    · exact hρ a
    · exact hρ b
  case h_4 t parts =>
    obtain ⟨cells, h1, rfl⟩ := Option.map_eq_some_iff.1 h
    obtain ⟨C, h2, h3⟩ := aBuilt_sound h1 (RelPs.of_map hρ parts.toList)
    refine fin ⟨.agg C, .agg h3, fun w => run_build w t _ C ?_⟩
    rw [Array.toList_map]; exact h2
  case h_5 x =>
    have hx := hρ x
    unfold aNil at h
    split at h
    case h_4 => cases h
    all_goals
      rename_i hv
      rw [hv] at hx
      cases h
      generalize ρc x = c at hx ⊢
      cases hx
      refine ⟨_, ?_, fun w => rfl⟩
      constructor <;> assumption
  case h_6 op t x y yt =>
    split at h
    · rename_i v' hv'
      cases h
      exact fin (aBin_sound hv' (hρ x) (hρ y))
    · split at h
      · rename_i v' hv'
        cases h
        exact fin (aCmp_sound hv' (hρ x) (hρ y))
      · exact fin (aEqA_sound h (hρ x) (hρ y))
  case h_7 op t x => exact fin (aUn_sound h (hρ x))
  case h_8 s d x => exact fin (aConv_sound h (hρ x))
  case h_9 t x =>
    split at h
    case h_2 => cases h
    rename_i d hd
    split at h
    · cases h
    · rename_i hi
      cases h
      refine fin ⟨.iface t (ρc x), .iface t (hρ x), fun w => ?_⟩
      simp only [Instr.makeInterface, Sem.run_bind, run_underlying hd, Result.andThen_ok]
      cases d <;> first | exact absurd rfl hi | rfl
  case h_10 fn first captured =>
    cases h
    refine fin ⟨.func fn (first.map ρc) (captured.map ρc), .func fn ?_ ?_, fun w => rfl⟩
    · rw [Array.toList_map]; exact RelVs.of_ops hρ _
    · rw [Array.toList_map]; exact RelVs.of_ops hρ _
  case h_11 t x lo hi mx => exact fin (aSlice_sound hρ h (hρ x))
  case h_12 s x f =>
    have hx := hρ x
    unfold aFieldAddr at h
    split at h
    case h_3 => cases h
    case h_2 fields g off hu hv =>
      rw [hv] at hx
      obtain ⟨fd, hf, h⟩ := Option.bind_eq_some_iff.1 h
      obtain ⟨i, hi, h⟩ := Option.bind_eq_some_iff.1 h
      split at h
      · cases h
      rename_i hs
      cases h
      generalize ρc x = c at hx ⊢
      cases hx
      refine fin ⟨.pointer (some ⟨g, off + fd.offset, none⟩), .gptr _ _, fun w => ?_⟩
      simp [Instr.fieldAt, run_underlying hu, hf, Instr.sureAddr, fieldPlace, sizeOf, typeInfo, hi, hs, add_plain]
    rename_i fields r off ver hu hv
    rw [hv] at hx
    obtain ⟨fd, hf, h⟩ := Option.bind_eq_some_iff.1 h
    obtain ⟨i, hi, h⟩ := Option.bind_eq_some_iff.1 h
    split at h
    · cases h
    rename_i hs
    cases h
    generalize ρc x = c at hx ⊢
    cases hx with
    | ptr hfm ho hver hc =>
      rename_i b o n d
      refine fin ⟨.pointer (some ⟨b, o + fd.offset, none⟩), .ptr hfm (by push_cast; omega) hver hc, fun w => ?_⟩
      simp [Instr.fieldAt, run_underlying hu, hf, Instr.sureAddr, fieldPlace, sizeOf, typeInfo, hi, hs, add_plain]
  case h_13 t x f =>
    have hx := hρ x
    unfold aField at h
    split at h
    case h_2 => cases h
    rename_i fields cs hu hv
    rw [hv] at hx
    obtain ⟨fd, hf, h⟩ := Option.bind_eq_some_iff.1 h
    generalize ρc x = c at hx ⊢
    cases hx with
    | agg hcs =>
      obtain ⟨c, h1, h2⟩ := aPart_sound h hcs
      refine fin ⟨c, h1, fun w => ?_⟩
      simp [Instr.field, run_underlying hu, hf, asAgg, h2]
  case h_14 t x i => exact fin (aIndexAddr_sound h (hρ x) (hρ i))
  case h_15 t x i => exact fin (aIndex_sound h (hρ x) (hρ i))
  case h_16 x xt t ok => exact fin (aAssert_sound h (hρ x))
  case h_17 x i =>
    have hx := hρ x
    split at h
    case h_2 => cases h
    rename_i vs hv
    rw [hv] at hx
    generalize ρc x = c at hx ⊢
    cases hx with
    | tuple hvs =>
      obtain ⟨c, h1, h2⟩ := hvs.get h
      rw [Array.getElem?_toList] at h1
      exact fin ⟨c, h2, fun w => by simp [Instr.extract, h1]⟩
  case h_18 args ts =>
    split at h
    case h_2 => cases h
    rename_i t x ht hx
    have := aLen_sound (ty := o.type) (as := args.map ρc) h (hρ x) ht (by simp [hx])
    obtain ⟨c, h1, h2⟩ := this
    exact ⟨c, h1, fun w => by simp [resolve, invoke, builtin, h2]⟩
  case h_19 args ts =>
    have := RelVs.of_ops hρ args.toList
    cases hl : args.toList with
    | nil => rw [hl] at h; cases h
    | cons x l =>
      rw [hl] at h
      simp only [List.map_cons, aMin] at h
      obtain ⟨c, h1, h2⟩ := aMin_sound (P := P) h (hρ x) (RelVs.of_ops hρ l)
      exact ⟨c, h1, fun w => by simp [resolve, invoke, builtin, Builtin.min_, hl, h2]⟩
  case h_20 args ts =>
    have := RelVs.of_ops hρ args.toList
    cases hl : args.toList with
    | nil => rw [hl] at h; cases h
    | cons x l =>
      rw [hl] at h
      simp only [List.map_cons, aMax] at h
      obtain ⟨c, h1, h2⟩ := aMax_sound (P := P) h (hρ x) (RelVs.of_ops hρ l)
      exact ⟨c, h1, fun w => by simp [resolve, invoke, builtin, Builtin.max_, hl, h2]⟩
end
end Go.Proofs.Ytjfmiohgkcjdnaa.AX
