/- Joined texts: Frame, Mem, OpenArgs, Own, Turns, CurBase, SameBytes. -/
import Derived.WalkKit
import Derived.ProofKit
import Derived.LaidMore
import Derived.OpenShut
import Derived.Stop.Joined
import Derived.WalkSmall
import Derived.Lib.LaidTab
import Derived.MakeChecks
import Derived.WalkSpells
import Derived.WalkLawsBesides
import Derived.Lib.Hide
import Derived.Deep.AppendLies
import Derived.Maps.AppendAt
import Derived.Test.YtdbgkpmdimapdaaProg
import Derived.Deep.QuietTactic
import Derived.BigQuiet
import Derived.Laws.BytesArg
set_option linter.unusedSimpArgs false
set_option linter.unusedVariables false
/- A law's row out of its walk, for any program, any parameters and any listed variables: where the call returns true and leaves all old memory as it was, every argument and every listed variable reads as before. -/
namespace G294
open Go Go.ChangeShapes Go.WideShapes Go.ChangeAt Go.RowKit

section
variable {H : Type} {enc : TypeId × Value → H} {P : Program}

def readableAll (P : Program) (ts : List TypeId) : Bool := ts.all fun t => P.readableRec t && decide (t < P.types.size)

theorem trodAll_below (hl : laidOutB P = true) {W W' : World} (hb : Below W.heap.size W W') (sp : Nat → Bool) :
    ∀ {ts : List TypeId} {vs : List Value} {ds : List (DataW H)} {ps : List MemPlace}, readableAll P ts = true → DataW.TrodAll enc P W 0 (fun _ => true) true ts vs ds ps →
      (∀ x ∈ ps, x.block < W.heap.size) → (∀ x ∈ ps, sp x.block = true) → DataW.TrodAll enc P W' 0 sp true ts vs ds ps
  | [], _, _, _, _, h, _, _ => by
    obtain ⟨rfl, rfl, rfl⟩ := trodAll_nil h
    exact rfl
  | t :: ts, _, _, _, hr, h, hlt, hs => by
    obtain ⟨v, vs1, d, ds1, a, b, rfl, rfl, rfl, h1, h2⟩ := trodAll_cons h
    simp only [readableAll, List.all_cons, Bool.and_eq_true, decide_eq_true_eq] at hr
    exact ⟨a, b, WideElems.Trod_stays hl hr.1.1 hr.1.2 h1 (fun x hx => hb.same (hlt x (List.mem_append_left _ hx))) (fun x hx => hs x (List.mem_append_left _ hx)),
      trodAll_below hl hb sp hr.2 h2 (fun x hx => hlt x (List.mem_append_right _ hx)) (fun x hx => hs x (List.mem_append_right _ hx)), rfl⟩

def readableVars (P : Program) (ns : List String) : Bool := ns.all fun n => match P.globalNamed n with
  | some g => match (P.globals[g]?).map (·.type) with
    | some t => P.readableRec t && decide (t < P.types.size)
    | none => false
  | none => false

theorem trodVars_below (hl : laidOutB P = true) {W W' : World} (hb : Below W.heap.size W W') (sp : Nat → Bool) :
    ∀ {ns : List String} {ds : List (DataW H)} {ps : List MemPlace}, readableVars P ns = true → DataW.TrodVars enc P W (fun _ => true) ns ds ps →
      (∀ x ∈ ps, x.block < W.heap.size) → (∀ x ∈ ps, sp x.block = true) → DataW.TrodVars enc P W' sp ns ds ps
  | [], ds, ps, _, h, _, _ => by
    obtain ⟨rfl, rfl⟩ := trodVars_none h
    exact rfl
  | n :: ns, [], ps, hr, h, hlt, hs => h.elim
  | n :: ns, d :: ds, ps, hr, h, hlt, hs => by
    obtain ⟨g, t, cs, fuel, p, q, hg, ht, hv, hd, hrest, rfl⟩ := h
    simp only [readableVars, List.all_cons, Bool.and_eq_true, hg, ht, decide_eq_true_eq] at hr
    have hgl : g < W.heap.size := by
      unfold World.var? at hv
      simp only [hg, Option.bind_some] at hv
      rcases Nat.lt_or_ge g W.heap.size with h | h
      · exact h
      · rw [Array.getElem?_eq_none h] at hv; cases hv
    refine ⟨g, t, cs, fuel, p, q, hg, ht, var?_below hb hg hgl hv, ?_, trodVars_below hl hb sp hr.2 hrest (fun x hx => hlt x (List.mem_append_right _ hx)) (fun x hx => hs x (List.mem_append_right _ hx)), rfl⟩
    exact DataW.trod_stays (kids_book hl hr.1.1) (book_sized hr.1.1) (fun h => by cases h) ⟨hr.1.2, book_self t⟩ hd
      (fun x hx => hb.same (hlt x (List.mem_append_left _ (List.mem_append_right _ hx)))) (fun x hx => hs x (List.mem_append_left _ (List.mem_append_right _ hx)))

theorem trodAll_length {w : World} {base : Nat} {sp : Nat → Bool} {held : Bool} : ∀ {ts : List TypeId} {vs : List Value} {ds : List (DataW H)} {ps : List MemPlace},
    DataW.TrodAll enc P w base sp held ts vs ds ps → vs.length = ts.length ∧ ds.length = ts.length
  | [], _, _, _, h => by
    obtain ⟨rfl, rfl, rfl⟩ := trodAll_nil h
    exact ⟨rfl, rfl⟩
  | t :: ts, _, _, _, h => by
    obtain ⟨v, vs1, d, ds1, a, b, rfl, rfl, rfl, h1, h2⟩ := trodAll_cons h
    have := trodAll_length h2
    simp [this.1, this.2]
theorem trodVars_length {w : World} {sp : Nat → Bool} : ∀ {ns : List String} {ds : List (DataW H)} {ps : List MemPlace}, DataW.TrodVars enc P w sp ns ds ps → ds.length = ns.length
  | [], ds, ps, h => by
    obtain ⟨rfl, rfl⟩ := trodVars_none h
    rfl
  | n :: ns, [], ps, h => h.elim
  | n :: ns, d :: ds, ps, h => by
    obtain ⟨g, t, cs, fuel, p, q, hg, ht, hv, hd, hrest, rfl⟩ := h
    simp [trodVars_length hrest]

/-- the row's last step of a law: it returned true, and below the heap's old size nothing has turned -/
theorem post_law {f : Func} {s : ChangeSpec} {apart fresh handsOn again : Bool} {W W' : World} {args : Array Value} {ds gs : List (DataW H)} {before : List MemPlace} {tb : TypeId}
    (hl : laidOutB P = true) (hr : readableAll P f.params.toList = true) (hrv : readableVars P s.vars = true) (hres : f.resultTypes = #[tb]) (htb : P.underlying tb = some .bool)
    (hfn : ∀ ds gs : List (DataW H), ds.length = f.params.toList.length → gs.length = s.vars.length → s.fn H (ds ++ gs) = { results := [.lit (.bool true)], args := ds, vars := gs })
    (hW : DataW.Whole enc P f.params.toList s.vars apart W args.toList ds gs before) (hb : Below W.heap.size W W') :
    s.post enc P f apart fresh handsOn again W args (.bool true) W' := by
  have hW0 := hW
  have hlt : ∀ p ∈ before, p.block < W.heap.size := fun p hp => hW.lt p hp
  obtain ⟨pa, pv, hA, hV, rfl, hz, hn⟩ := hW
  have hf := hfn ds gs (trodAll_length hA).2 (trodVars_length hV)
  have hold : ∀ p ∈ pa ++ pv, (fun b => decide (b < W.heap.size)) p.block = true := fun p hp => by simpa using hlt p hp
  have hargs : ∀ sp : Nat → Bool, (∀ p ∈ pa ++ pv, sp p.block = true) → DataW.TrodAll enc P W' 0 sp true f.params.toList args.toList ds pa := fun sp hs =>
    trodAll_below hl hb sp hr hA (fun x hx => hlt x (List.mem_append_left _ hx)) (fun x hx => hs x (List.mem_append_left _ hx))
  have hvars : ∀ sp : Nat → Bool, (∀ p ∈ pa ++ pv, sp p.block = true) → DataW.TrodVars enc P W' sp s.vars gs pv := fun sp hs =>
    trodVars_below hl hb sp hrv hV (fun x hx => hlt x (List.mem_append_right _ hx)) (fun x hx => hs x (List.mem_append_right _ hx))
  have hrs : ∀ (b : Nat) (sp : Nat → Bool) (hd : Bool), DataW.TrodAll enc P W' b sp hd f.resultTypes.toList ((Value.bool true).resultList f.resultTypes.size) [.lit (.bool true)] [] := fun b sp hd => by
    rw [hres]
    exact trodAll_cons_mk (shut_bool htb true) trodAll_mk0
  refine ⟨ds, gs, pa ++ pv, [], pa, pv, hW0, by rw [hf]; exact hrs _ _ _, by rw [hf]; exact hargs _ hold, by rw [hf]; exact hvars _ hold, World.keptBut_mono (fun p hp => ⟨hp, ?_⟩) (hb.frame (· ∈ pa ++ pv)), fun _ => ?_⟩
  · exact Or.inr (List.mem_append.1 hp)
  · refine ⟨ok_one hres rfl (okWide_bool_mk htb true), _, _, ([] ++ pa) ++ pv, ⟨[] ++ pa, pv, trodAll_append (hargs _ (fun _ _ => rfl)) (hrs _ _ _), hvars _ (fun _ _ => rfl), rfl, ?_, ?_⟩, ?_⟩
    · intro b off hp
      have hin : MemPlace.cell b off ∈ pa ++ pv := by simpa using hp
      rw [hb.frozen (p := ⟨b, off, none⟩) (hlt _ hin)]
      exact hz b off hin
    · intro ha
      simpa using hn ha
    · intro p hp _
      simpa using hp
end

/-- the walk that a law's row asks: at every world and every reading of the arguments and the listed variables the call returns true and leaves old memory as it was -/
def LawWalk (P : Program) (f : FuncId) (fn : Func) (vars : List String) (apart : Bool) (X : World → Prop) : Prop :=
  ∀ (H : Type) (enc : TypeId × Value → H) (W : World) (base : Nat) (args : Array Value) (ds gs : List (DataW H)) (before : List MemPlace),
    (∀ (j : Nat) t v, fn.params[j]? = some t → args[j]? = some v → Value.okWide P W .any base t v) →
    DataW.Whole enc P fn.params.toList vars apart W args.toList ds gs before → X W →
    Calls P f args W fun e W' => e = .returned (.bool true) ∧ Below W.heap.size W W'


section
variable {P : Program} {W : World}
theorem laidVars_at : ∀ {l : List (String × DataW Unit)} {ps : List MemPlace}, DataW.LaidVars P W l ps → ∀ {i : Nat} {n : String} {d : DataW Unit}, l[i]? = some (n, d) →
    ∃ g t cs fuel p, P.globalNamed n = some g ∧ (P.globals[g]?).map (·.type) = some t ∧ W.var? P n = some cs ∧ DataW.trod (fun _ => ()) P W 0 (fun _ => true) false fuel t cs.toList = some (d, p)
  | [], _, _, i, n, d, hi => by simp at hi
  | (m, x) :: l, ps, h, i, n, d, hi => by
    obtain ⟨g, t, cs, fuel, p, q, h1, h2, h3, h4, h5, _⟩ := h
    cases i with
    | zero =>
      simp only [List.getElem?_cons_zero, Option.some.injEq, Prod.mk.injEq] at hi
      obtain ⟨rfl, rfl⟩ := hi
      exact ⟨g, t, cs, fuel, p, h1, h2, h3, h4⟩
    | succ i => exact laidVars_at h5 (by simpa using hi)

/-- a listed table of integers: its cells, and that it lies below the heap's end -/
theorem tab_of_laid {laid : List (String × DataW Unit)} (hpl : (laid.all fun x => x.2.handleName?.isNone) = true) (h : laidMetH P laid W) (i : Nat) {name : String} {k : IntKind} {zs : List Int} {g : Nat} {t e : TypeId} {n : Nat}
    (hi : laid[i]? = some (name, Lib.tabData k zs)) (hg : P.globalNamed name = some g) (hty : (P.globals[g]?).map (·.type) = some t) (ht : P.underlying t = some (.array n e)) (he : P.underlying e = some (.int k))
    (hce : P.cellsOf e = 1) (hct : P.cellsOf t = n) : (∀ j, j < zs.length → W.cell? ⟨g, j, none⟩ = some (.int k (zs.getD j 0))) ∧ g < W.heap.size := by
  rw [MakeChecks.laidMetH_plain _ _ _ hpl] at h
  obtain ⟨ps, hv, _⟩ := h
  obtain ⟨g', t', cs, fuel, p, hg', ht', hvar, hd⟩ := laidVars_at hv hi
  obtain rfl := Option.some.inj (hg.symm.trans hg')
  obtain rfl := Option.some.inj (hty.symm.trans ht')
  have hT : Lib.TabIs P W name k zs := by
    unfold Lib.TabIs
    rw [hvar, ← Lib.cells_of_tab ht he hce hct hd]
  refine ⟨fun j hj => hT.cell hg j hj, ?_⟩
  unfold World.var? at hvar
  simp only [hg, Option.bind_some] at hvar
  rcases Nat.lt_or_ge g W.heap.size with h | h
  · exact h
  · rw [Array.getElem?_eq_none h] at hvar; cases hvar
end

end G294

/- Words for memory, for any program: a slice that is seen as a list of cells; rows of the call's own kept by what comes later. -/
namespace G294
open Go Go.RowKit

/-- bytes as the cells of memory -/
def bys (l : List UInt8) : List Value := l.map fun x => .int .u8 (x.toNat : Int)
@[simp] theorem bys_length (l : List UInt8) : (bys l).length = l.length := by simp [bys]
theorem bys_append (l m : List UInt8) : bys (l ++ m) = bys l ++ bys m := by simp [bys]
theorem bys_nil : bys [] = [] := rfl
theorem bys_get (l : List UInt8) (i : Nat) (h : i < l.length) : (bys l)[i]? = some (.int .u8 ((l[i]).toNat : Int)) := by
  simp [bys, h]
theorem bys_one (u : Value) (l : List UInt8) (h : u ∈ bys l) : u.oneCell' = true := by
  simp only [bys, List.mem_map] at h
  obtain ⟨x, _, rfl⟩ := h
  rfl

/-- the slice value v is seen in w as the cells xs -/
def Seen (w : World) (v : Value) (xs : List Value) : Prop :=
  ∃ A c, v = .slice A xs.length c ∧ xs.length ≤ c ∧ c ≤ maxLen ∧ (0 < xs.length → ∃ b off, A = some ⟨b, off, none⟩ ∧ b < w.heap.size ∧ ∀ i u, xs[i]? = some u → w.cell? ⟨b, off + i, none⟩ = some u)

section
variable {w w' : World} {v : Value} {xs : List Value} {base n size : Nat} {e : TypeId}
theorem Seen.keep (h : Seen w v xs) (hs : w.heap.size ≤ w'.heap.size) (hk : ∀ p : Addr, p.block < w.heap.size → w'.cell? p = w.cell? p) : Seen w' v xs := by
  obtain ⟨A, c, rfl, h1, h2, h3⟩ := h
  refine ⟨A, c, rfl, h1, h2, fun hn => ?_⟩
  obtain ⟨b, off, rfl, hb, hc⟩ := h3 hn
  exact ⟨b, off, rfl, by omega, fun i u hu => (hk _ hb).trans (hc i u hu)⟩
theorem Seen.below (h : Seen w v xs) (hb : Below w.heap.size w w') : Seen w' v xs := h.keep hb.size fun _ hp => hb.cell hp
theorem Seen.nil (w : World) : Seen w (.slice none 0 0) [] := ⟨none, 0, rfl, Nat.le_refl _, Nat.zero_le _, fun h => by simp at h⟩
theorem Seen.of_own (h : w.ownsRow base e 1 v n xs) : Seen w v xs := by
  have hl : xs.length = n := by have := h.1; omega
  rcases h.2 with ⟨rfl, rfl⟩ | ⟨g, cap, cur, rfl, hb, hg, hnc, hcm, hcs, ht⟩
  · have : xs = [] := List.eq_nil_of_length_eq_zero hl
    subst this
    exact Seen.nil w
  · refine ⟨_, cap, by rw [hl], by omega, hcm, fun hn => ⟨g, 0, rfl, (Array.getElem?_eq_some_iff.1 hg).1, fun i u hu => ?_⟩⟩
    have hc := h.cells (g := g) rfl i u hu
    rwa [Addr.add_lit, Nat.zero_add, ← Nat.zero_add i] at hc
theorem Seen.len (h : Seen w v xs) : ∃ A c, v = .slice A xs.length c := by
  obtain ⟨A, c, h, _⟩ := h
  exact ⟨A, c, h⟩
/-- rows of the call's own stay over whatever leaves old memory alone -/
theorem own_below (h : w.ownsRow base e size v n xs) (hb : Below w.heap.size w w') : w'.ownsRow base e size v n xs := by
  refine ⟨h.1, ?_⟩
  rcases h.2 with hn | ⟨g, cap, cur, rfl, hbg, hg, rest⟩
  · exact .inl hn
  · refine .inr ⟨g, cap, cur, rfl, hbg, ?_, rest⟩
    rw [hb.block g (Array.getElem?_eq_some_iff.1 hg).1]
    exact hg
theorem own_base {base' : Nat} (h : w.ownsRow base e size v n xs) (hb : base' ≤ base) : w.ownsRow base' e size v n xs := by
  refine ⟨h.1, ?_⟩
  rcases h.2 with hn | ⟨g, cap, cur, rfl, hbg, hg, rest⟩
  · exact .inl hn
  · exact .inr ⟨g, cap, cur, rfl, by omega, hg, rest⟩
/-- rows of the call's own stay over a write to another row -/
theorem own_other (h : w.ownsRow base e size v n xs) {row : Option Nat} (hg : w.grownBy w' row) (hne : ∀ g, v.ownBlock = some g → row ≠ some g) : w'.ownsRow base e size v n xs := by
  refine h.kept hg ?_
  cases hv : v.ownBlock with
  | none => exact .inl rfl
  | some g => exact .inr fun e => hne g hv e.symm
theorem Seen.other (h : Seen w v xs) {row : Option Nat} (hg : w.grownBy w' row) (hne : ∀ g, v.ownBlock = some g → row ≠ some g) : Seen w' v xs := by
  obtain ⟨A, c, rfl, h1, h2, h3⟩ := h
  refine ⟨A, c, rfl, h1, h2, fun hn => ?_⟩
  obtain ⟨b, off, rfl, hb, hc⟩ := h3 hn
  have hs := hg.size
  exact ⟨b, off, rfl, by omega, fun i u hu => hg.cell (hc i u hu) (fun e => hne b rfl e.symm)⟩
theorem below_of_grown {B : Nat} {a : World} {row : Option Nat} (hg : a.grownBy w row) (hB : B ≤ a.heap.size) (hr : ∀ k, row = some k → B ≤ k) : Below B a w :=
  (Below.refl B a).grown hg hB hr
theorem grown_of_below {row : Option Nat} (hb : Below w.heap.size w w') : w.grownBy w' row := ⟨hb.os, hb.tape, hb.output, hb.size, fun k hk _ => hb.block k hk⟩
theorem below_drewN {B : Nat} {a w : World} (h : Below B a w) (k : Nat) : Below B a (w.drewN k) := ⟨h.os, h.tape, h.output, h.size, h.block⟩
end

/-- the bytes k, k + 1, .. that a mark writes -/
def marks (k n : Nat) : List UInt8 := (List.range n).map fun i => UInt8.ofNat (k + i)
@[simp] theorem marks_length (k n : Nat) : (marks k n).length = n := by simp [marks]
theorem marks_get (k n i : Nat) (h : i < n) : (bys (marks k n))[i]? = some (.int .u8 (((k + i : Nat) : Int) % 256)) := by
  simp [bys, marks, h, UInt8.toNat_ofNat']

theorem take_set_next {α : Type} (l : List α) (z : List α) (k : Nat) (x : α) (hk : l[k]? = some x) (hz : z.length + k = l.length) :
    (l.take k ++ z).set k x = l.take (k + 1) ++ z.tail := by
  have hlt : k < l.length := (List.getElem?_eq_some_iff.1 hk).1
  have hx : l[k] = x := (List.getElem?_eq_some_iff.1 hk).2
  have ht : (l.take k).length = k := by simp; omega
  rw [List.set_append, if_neg (by omega), ht, Nat.sub_self]
  cases z with
  | nil => simp at hz; omega
  | cons a z =>
    rw [List.take_add_one, hk]
    simp
theorem take_set_over {α : Type} (l m : List α) (k : Nat) (x : α) (hk : l[k]? = some x) (hm : l.length = m.length) :
    (l.take k ++ m.drop k).set k x = l.take (k + 1) ++ m.drop (k + 1) := by
  have hlt : k < l.length := (List.getElem?_eq_some_iff.1 hk).1
  rw [take_set_next l (m.drop k) k x hk (by simp; omega)]
  simp

/-- append(s, x) of one element of one cell, onto a row of the call's own -/
theorem wpList_append1 {P : Program} {w : World} {ops : Array Oper} {rest : List Oper} {o : Oper} {a : Act} {Q : Exit → Act → World → Prop} (hgd : o.guard = none) (s x : Operand) (t : TypeId)
    (ho : o.op = .call { callee := .builtin .append, args := #[s, x], argTypes := #[t, t] })
    (base : Nat) (e : TypeId) (z : Value) (bytes : Nat) (ht : P.underlying t = some (.slice e)) (hinfo : (P.info? e).map (fun i => (i.zero, i.size, i.bytes)) = some (some z, 1, bytes)) (hzs : z.cells.size = 1)
    (v : Value) (n : Nat) (xs : List Value) (hs : a.eval s = v) (hown : w.ownsRow base e 1 v n xs)
    (g : Nat) (u : Value) (hx : a.eval x = .slice (some ⟨g, 0, none⟩) 1 1) (hc : w.cell? ⟨g, 0, none⟩ = some u) (h1 : u.oneCell' = true)
    (hn : n ≤ 1000000000) (hby : bytes ≤ 1000) (hbase : base ≤ w.heap.size)
    (h : ∀ v' w', w'.ownsRow base e 1 v' (n + 1) (xs ++ [u]) → w.grownBy w' v.ownBlock → (v'.ownBlock = v.ownBlock ∨ v'.ownBlock = some w.heap.size) → wpList P ops Q rest (a.put o.dst v') w') :
    wpList P ops Q (o :: rest) a w := by
  obtain ⟨i, hi, hz, hsz, hbs⟩ := info_parts hinfo
  refine wpList_append_own_at w hgd s x t ho base e i z 1 bytes ht hi hz hsz hbs hzs (by omega) v n xs hs hown ⟨g, 0, none⟩ 1 1 [u] hx rfl ?_ ?_ ?_ ?_ hbase (fun v' w' h2 h3 _ h5 => h v' w' h2 h3 h5)
  · intro j y hj
    match j, hj with
    | 0, hj =>
      simp only [List.getElem?_cons_zero, Option.some.injEq] at hj
      subst hj
      simpa [Addr.add] using hc
  · intro y hy
    simp only [List.mem_singleton] at hy
    subst hy; exact h1
  · unfold maxLen; omega
  · have : (n + 1) * bytes ≤ 1000000001 * 1000 := Nat.mul_le_mul (by omega) hby
    omega
theorem below_append {B : Nat} {a w w' : World} {base : Nat} {e : TypeId} {size n : Nat} {v : Value} {xs : List Value} (h : Below B a w) (hown : w.ownsRow base e size v n xs) (hg : w.grownBy w' v.ownBlock) (hB : B ≤ base) (hs : B ≤ w.heap.size) : Below B a w' :=
  h.grown hg hs fun k hk => by have := (hown.lt k hk).1; omega
theorem xor_u8 (a b : UInt8) : bits BinOp.xor IntKind.u8 (a.toNat : Int) (b.toNat : Int) = ((a ^^^ b).toNat : Int) := by
  rw [u8_xor_nat _ _ a.toNat_lt b.toNat_lt, UInt8.toNat_xor]
/-- a callee that leaves the world alone, inside a region that draws its order -/
theorem quietly {P : Program} {f : FuncId} {args : Array Value} {w : World} {n : Nat} {v : Value} (h : Calls P f args (w.drewN n) fun e w' => e = .returned v ∧ w.drewN n = w') :
    Calls P f args (w.drewN n) fun e w' => e = .returned v ∧ ∃ m, w' = w.drewN m := h.mono fun _ _ ⟨he, hw⟩ => ⟨he, n, hw.symm⟩
/-- the same, as one step of a region that draws its order -/
theorem step_append1 {P : Program} {w : World} {ops : Array Oper} {o : Oper} {a : Act} {K : Act → World → Prop} {Q : Exit → Act → World → Prop} {E : Prop} (hgd : o.guard = none) (s x : Operand) (t : TypeId)
    (ho : o.op = .call { callee := .builtin .append, args := #[s, x], argTypes := #[t, t] })
    (base : Nat) (e : TypeId) (z : Value) (bytes : Nat) (ht : P.underlying t = some (.slice e)) (hinfo : (P.info? e).map (fun i => (i.zero, i.size, i.bytes)) = some (some z, 1, bytes)) (hzs : z.cells.size = 1)
    (v : Value) (n : Nat) (xs : List Value) (hs : a.eval s = v) (hown : w.ownsRow base e 1 v n xs)
    (g : Nat) (u : Value) (hx : a.eval x = .slice (some ⟨g, 0, none⟩) 1 1) (hc : w.cell? ⟨g, 0, none⟩ = some u) (h1 : u.oneCell' = true)
    (hn : n ≤ 1000000000) (hby : bytes ≤ 1000) (hbase : base ≤ w.heap.size)
    (h : ∀ v' w', w'.ownsRow base e 1 v' (n + 1) (xs ++ [u]) → w.grownBy w' v.ownBlock → (v'.ownBlock = v.ownBlock ∨ v'.ownBlock = some w.heap.size) → K (a.put o.dst v') w') :
    if Region.wanted o (yielded ops a.tmps) = true then Oper.wp P o a w K Q else E := by
  have hw : Region.wanted o (yielded ops a.tmps) = true := by simp [Region.wanted, hgd]
  rw [if_pos hw]
  obtain ⟨i, hi, hz, hsz, hbs⟩ := info_parts hinfo
  obtain ⟨v', w', hrun, r1, r2, _, r4⟩ := run_append_own_at (P := P) w base t o.type e i z 1 bytes ht hi hz hsz hbs hzs (by omega) v n xs hown ⟨g, 0, none⟩ 1 1 [u] rfl (by
    intro j y hj
    match j, hj with
    | 0, hj =>
      simp only [List.getElem?_cons_zero, Option.some.injEq] at hj
      subst hj
      simpa [Addr.add] using hc) (by
    intro y hy
    simp only [List.mem_singleton] at hy
    subst hy; exact h1) (by unfold maxLen; omega) (by
    have : (n + 1) * bytes ≤ 1000000001 * 1000 := Nat.mul_le_mul (by omega) hby
    omega) hbase
  unfold Oper.wp execOp
  simp only [ho, resolve, invoke, builtin, Sem.run_bind, Sem.run_pure, Result.andThen_ok, List.map_toArray, List.map_cons, List.map_nil, hs, hx, hrun]
  exact h v' w' r1 r2 r4
end G294

/- From the readings of a law's arguments to what its walk asks: bytes, ints, slices of bytes. -/
namespace G294
open Go Go.ChangeShapes Go.WideShapes Go.ChangeAt Go.RowKit

theorem byte_of_wf {x : Int} (h : (Lit.int .u8 x).wf = true) : ∃ n : UInt8, x = (n.toNat : Int) := by
  have hb := bounds_u8 h
  refine ⟨UInt8.ofNat x.toNat, ?_⟩
  rw [UInt8.toNat_ofNat']
  omega

theorem bytes_of_wf : ∀ {zs : List Int}, (∀ z ∈ zs, (Lit.int .u8 z).wf = true) → ∃ l : List UInt8, zs.map (fun z => Value.int .u8 z) = bys l ∧ l.length = zs.length
  | [], _ => ⟨[], rfl, rfl⟩
  | z :: zs, h => by
    obtain ⟨l, hl, hn⟩ := bytes_of_wf (zs := zs) (fun y hy => h y (List.mem_cons_of_mem _ hy))
    obtain ⟨x, rfl⟩ := byte_of_wf (h z (List.mem_cons_self))
    exact ⟨x :: l, by simp [bys] at hl ⊢; exact hl, by simp [hn]⟩

section
variable {H : Type} {enc : TypeId × Value → H} {P : Program} {W : World} {base : Nat} {t e : TypeId} {v : Value} {d : DataW H} {p : List MemPlace}
/-- a slice of bytes that came in -/
theorem seen_bytes (ht : P.underlying t = some (.slice e)) (he : P.underlying e = some (.int .u8)) (hc : P.cellsOf e = 1)
    (hv : Value.okWide P W .any base t v) (h : DataW.Trod enc P W 0 (fun _ => true) true t v d p) (hlt : ∀ x ∈ p, x.block < W.heap.size) : ∃ l : List UInt8, Seen W v (bys l) := by
  obtain ⟨a0, len, cap, rfl⟩ := okWide_slice ht hv
  obtain ⟨fuel, hf⟩ := h
  rcases open_ints ht he hc hf with ⟨hcs, hx⟩ | ⟨a, len', cap', zs, hcs, _, hl, hm, hz, hx, hcell, hwz⟩
  · have e1 : a0 = none ∧ len = 0 ∧ cap = 0 := by simpa [Value.cells] using hcs
    obtain ⟨rfl, rfl, rfl⟩ := e1
    exact ⟨[], Seen.nil W⟩
  · have e1 : a0 = some a ∧ len = len' ∧ cap = cap' := by simpa [Value.cells] using hcs
    obtain ⟨rfl, rfl, rfl⟩ := e1
    have hz' : zs.length = cap := by simpa using hz
    obtain ⟨l, hbl, hll⟩ := bytes_of_wf (zs := zs.take len) (fun y hy => hwz y (List.mem_of_mem_take hy))
    have hlen : l.length = len := by rw [hll, List.length_take]; omega
    refine ⟨l, some a, cap, by simp [hlen], by simp [hlen, hl], hm, fun hn => ?_⟩
    rw [bys_length, hlen] at hn
    obtain ⟨b, off, rfl, hc'⟩ := ints_at hcell (by omega)
    have hpl : MemPlace.cell b off ∈ p := by
      have : p = MemPlace.row ⟨b, off, none⟩ zs.length := by simpa using congrArg Prod.snd hx
      rw [this, MemPlace.row]
      exact List.mem_map.2 ⟨0, by simp; omega, rfl⟩
    refine ⟨b, off, rfl, hlt _ hpl, fun i u hu => ?_⟩
    rw [← hbl] at hu
    simp only [List.getElem?_map, List.getElem?_take] at hu
    split at hu
    · rename_i hi
      rw [hc' i (by omega)]
      rw [List.getElem?_eq_getElem (by omega)] at hu
      simp only [Option.map_some, Option.some.injEq] at hu
      rw [← hu]
      simp [List.getD, show i < zs.length by omega]
    · simp at hu
end
end G294

/- Memory that a call made, by intervals of block numbers: what lies in one interval is kept by whatever touches another. -/
namespace G294
open Go Go.RowKit

/-- of the blocks that were there only those from lo to hi may have turned -/
structure TurnIn (lo hi : Nat) (w w' : World) : Prop where
  os : w'.os = w.os
  tape : w'.tape = w.tape
  output : w'.output = w.output
  size : w.heap.size ≤ w'.heap.size
  block : ∀ k, k < w.heap.size → (k < lo ∨ hi ≤ k) → w'.heap[k]? = w.heap[k]?

section
variable {w w' w'' : World} {lo hi a b B : Nat} {v : Value} {l : List UInt8} {E : TypeId}
theorem TurnIn.of_below (h : Below w.heap.size w w') : TurnIn 0 0 w w' := ⟨h.os, h.tape, h.output, h.size, fun k hk _ => h.block k hk⟩
theorem TurnIn.of_grown {row : Option Nat} (h : w.grownBy w' row) (hr : ∀ g, row = some g → lo ≤ g ∧ g < hi) : TurnIn lo hi w w' :=
  ⟨h.os, h.tape, h.output, h.size, fun k hk hd => h.block k hk (fun e => by have := hr k e.symm; omega)⟩
theorem TurnIn.refl (w : World) : TurnIn 0 0 w w := ⟨rfl, rfl, rfl, Nat.le_refl _, fun _ _ _ => rfl⟩
theorem TurnIn.to_below (h : TurnIn 0 0 w w') : Below w.heap.size w w' := ⟨h.os, h.tape, h.output, h.size, fun k hk => h.block k hk (by omega)⟩
/-- what was there at the beginning is kept -/
theorem TurnIn.base {W : World} (t : TurnIn a b w w') (h : Below B W w) (hs : B ≤ w.heap.size) (hB : B ≤ a ∨ b = 0) : Below B W w' :=
  ⟨t.os.trans h.os, t.tape.trans h.tape, t.output.trans h.output, Nat.le_trans h.size t.size, fun k hk => (t.block k (by omega) (by omega)).trans (h.block k hk)⟩

/-- a row of bytes of the call's own, its block from lo to hi -/
def OwnBytes (E : TypeId) (w : World) (lo hi : Nat) (v : Value) (l : List UInt8) : Prop := w.ownsRow lo E 1 v l.length (bys l) ∧ hi ≤ w.heap.size ∧ ∀ g, v.ownBlock = some g → g < hi
theorem OwnBytes.keep (h : OwnBytes E w lo hi v l) (t : TurnIn a b w w') (d : hi ≤ a ∨ b ≤ lo) : OwnBytes E w' lo hi v l := by
  obtain ⟨h1, h2, h3⟩ := h
  have hs := t.size
  refine ⟨⟨h1.1, ?_⟩, by omega, h3⟩
  rcases h1.2 with hn | ⟨g, cap, cur, rfl, hbg, hg, rest⟩
  · exact .inl hn
  · refine .inr ⟨g, cap, cur, rfl, hbg, ?_, rest⟩
    have := h3 g rfl
    rw [t.block g (Array.getElem?_eq_some_iff.1 hg).1 (by omega)]
    exact hg
theorem OwnBytes.seen (h : OwnBytes E w lo hi v l) : Seen w v (bys l) := Seen.of_own h.1
theorem OwnBytes.nil (E : TypeId) (w : World) (lo : Nat) : OwnBytes E w lo w.heap.size (.slice none 0 0) [] := ⟨World.ownsRow_nil _ _ _ _, Nat.le_refl _, fun g h => by simp [Value.ownBlock] at h⟩
theorem OwnBytes.of_made (h : w'.ownsRow w.heap.size E 1 v l.length (bys l)) : OwnBytes E w' w.heap.size w'.heap.size v l := ⟨h, Nat.le_refl _, fun g hg => (h.lt g hg).2⟩
theorem Seen.touch {xs : List Value} (h : Seen w v xs) (t : TurnIn 0 0 w w') : Seen w' v xs := h.below t.to_below
end

/-- one new row of bytes is returned -/
def RetBytes (E : TypeId) (w : World) (l : List UInt8) (e : Ending) (w' : World) : Prop := ∃ v, e = .returned v ∧ OwnBytes E w' w.heap.size w'.heap.size v l ∧ TurnIn 0 0 w w'
def RetBytesOk (E : TypeId) (w : World) (l : List UInt8) (ok : Bool) (e : Ending) (w' : World) : Prop := ∃ v, e = .returned (.tuple #[v, .bool ok]) ∧ OwnBytes E w' w.heap.size w'.heap.size v l ∧ TurnIn 0 0 w w'
def RetBool (w : World) (b : Bool) (e : Ending) (w' : World) : Prop := e = .returned (.bool b) ∧ TurnIn 0 0 w w'
def RetInt (w : World) (n : Int) (e : Ending) (w' : World) : Prop := e = .returned (.int .i64 n) ∧ TurnIn 0 0 w w'
/-- a mark: the number after it, and the marked bytes; only blocks from lo to hi are touched -/
def RetMarkB (E : TypeId) (w : World) (lo hi : Nat) (v : Value) (k n : Nat) (e : Ending) (w' : World) : Prop :=
  e = .returned (.int .i64 ((k + n : Nat) : Int)) ∧ OwnBytes E w' lo hi v (marks k n) ∧ TurnIn lo hi w w'
def RetByte (w : World) (x : UInt8) (e : Ending) (w' : World) : Prop := e = .returned (.int .u8 (x.toNat : Int)) ∧ TurnIn 0 0 w w'
def RetByteOk (w : World) (x : UInt8) (ok : Bool) (e : Ending) (w' : World) : Prop := e = .returned (.tuple #[.int .u8 (x.toNat : Int), .bool ok]) ∧ TurnIn 0 0 w w'
end G294

/- Steps of memory, one behind the other; slices of ints. -/
namespace G294
open Go Go.RowKit
theorem turn_trans {a b lo hi : Nat} {w w1 w2 : World} (h : TurnIn lo hi w w1) (k : TurnIn a b w1 w2) (hd : (lo ≤ a ∧ b ≤ hi) ∨ w.heap.size ≤ a ∨ b = 0) : TurnIn lo hi w w2 :=
  ⟨k.os.trans h.os, k.tape.trans h.tape, k.output.trans h.output, Nat.le_trans h.size k.size, fun i hi' hr => by
    have := h.size
    exact (k.block i (by omega) (by omega)).trans (h.block i hi' hr)⟩
theorem turn_alloc (w : World) (o : Obj) : TurnIn 0 0 w (w.alloc o) := TurnIn.of_below ((Below.refl _ _).alloc (Nat.le_refl _) o)
/-- ints as the cells of memory -/
def ints (l : List Int) : List Value := l.map fun n => .int .i64 n
@[simp] theorem ints_length (l : List Int) : (ints l).length = l.length := by simp [ints]
theorem ints_append (l m : List Int) : ints (l ++ m) = ints l ++ ints m := by simp [ints]
theorem ints_get (l : List Int) (i : Nat) (h : i < l.length) : (ints l)[i]? = some (.int .i64 l[i]) := by simp [ints, h]
/-- a row of ints of the call's own, its block from lo to hi -/
def OwnInts (E : TypeId) (w : World) (lo hi : Nat) (v : Value) (l : List Int) : Prop := w.ownsRow lo E 1 v l.length (ints l) ∧ hi ≤ w.heap.size ∧ ∀ g, v.ownBlock = some g → g < hi
section
variable {w w' : World} {lo hi a b : Nat} {v : Value} {l : List Int} {E : TypeId}
theorem OwnInts.keep (h : OwnInts E w lo hi v l) (t : TurnIn a b w w') (d : hi ≤ a ∨ b ≤ lo) : OwnInts E w' lo hi v l := by
  obtain ⟨h1, h2, h3⟩ := h
  have hs := t.size
  refine ⟨⟨h1.1, ?_⟩, by omega, h3⟩
  rcases h1.2 with hn | ⟨g, cap, cur, rfl, hbg, hg, rest⟩
  · exact .inl hn
  · refine .inr ⟨g, cap, cur, rfl, hbg, ?_, rest⟩
    have := h3 g rfl
    rw [t.block g (Array.getElem?_eq_some_iff.1 hg).1 (by omega)]
    exact hg
theorem OwnInts.seen (h : OwnInts E w lo hi v l) : Seen w v (ints l) := Seen.of_own h.1
theorem OwnInts.nil (E : TypeId) (w : World) (lo : Nat) : OwnInts E w lo w.heap.size (.slice none 0 0) [] := ⟨World.ownsRow_nil _ _ _ _, Nat.le_refl _, fun g h => by simp [Value.ownBlock] at h⟩
theorem OwnInts.of_made (h : w'.ownsRow w.heap.size E 1 v l.length (ints l)) : OwnInts E w' w.heap.size w'.heap.size v l := ⟨h, Nat.le_refl _, fun g hg => (h.lt g hg).2⟩
end
def RetInts (E : TypeId) (w : World) (l : List Int) (e : Ending) (w' : World) : Prop := ∃ v, e = .returned v ∧ OwnInts E w' w.heap.size w'.heap.size v l ∧ TurnIn 0 0 w w'
def RetIntsOk (E : TypeId) (w : World) (l : List Int) (ok : Bool) (e : Ending) (w' : World) : Prop := ∃ v, e = .returned (.tuple #[v, .bool ok]) ∧ OwnInts E w' w.heap.size w'.heap.size v l ∧ TurnIn 0 0 w w'
/-- the ints k, k + 1, .. that a mark writes -/
def marksI (k n : Nat) : List Int := (List.range n).map fun i => ((k + i : Nat) : Int)
@[simp] theorem marksI_length (k n : Nat) : (marksI k n).length = n := by simp [marksI]
theorem marksI_get (k n i : Nat) (h : i < n) : (ints (marksI k n))[i]? = some (.int .i64 ((k + i : Nat) : Int)) := by simp [ints, marksI, h]
def RetMarkI (E : TypeId) (w : World) (lo hi : Nat) (v : Value) (k n : Nat) (e : Ending) (w' : World) : Prop :=
  e = .returned (.int .i64 ((k + n : Nat) : Int)) ∧ OwnInts E w' lo hi v (marksI k n) ∧ TurnIn lo hi w w'
end G294

/- Contracts of the model's cursor: what it draws is some number; only its own block is written (without bytes). -/
namespace Go.Proofs.Ytdbgkpmdimapdaa
open Go.RowKit G294

/-- the cursor at block g: its code lies below g, it has moved at most n times -/
def CurAt (w : World) (g : Nat) (cv : Value) (n : Nat) : Prop :=
  ∃ (at_ : Nat) (seed : Int) (l : List UInt8) (A : Option Addr) (c : Nat), w.heap[g]? = some (.cells #[cv, .int .i64 at_, .int .u64 seed] 67 (0, 0)) ∧ at_ ≤ n ∧
    cv = .slice A l.length c ∧ l.length ≤ c ∧ c ≤ maxLen ∧ (0 < l.length → ∃ b off, A = some ⟨b, off, none⟩ ∧ b < g ∧ ∀ i u, (bys l)[i]? = some u → w.cell? ⟨b, off + i, none⟩ = some u)

/-- a number in a range is drawn -/
def Draws (w : World) (g : Nat) (cv : Value) (n : Nat) (lo hi : Int) (e : Ending) (w' : World) : Prop := ∃ r : Int, e = .returned (.int .i64 r) ∧ lo ≤ r ∧ r ≤ hi ∧ CurAt w' g cv n ∧ TurnIn g (g + 1) w w'

theorem draws_end {w : World} {g n at_ c : Nat} {seed s r : Int} {l : List UInt8} {A : Option Addr} (q q' : Nat)
    (hg : w.heap[g]? = some (.cells #[.slice A l.length c, .int .i64 at_, .int .u64 seed] 67 (0, 0))) (hat : at_ ≤ n) (hlc : l.length ≤ c) (hcm : c ≤ maxLen)
    (hx : 0 < l.length → ∃ b off, A = some ⟨b, off, none⟩ ∧ b < g ∧ ∀ i u, (bys l)[i]? = some u → w.cell? ⟨b, off + i, none⟩ = some u) (h0 : 0 ≤ r) (h1 : r ≤ 255) :
    Draws w g (.slice A l.length c) (n + 1) 0 255 (.returned (.int .i64 r)) ((((w.drewN q).setCell ⟨g, 1, none⟩ (.int .i64 ((at_ : Int) + 1))).setCell ⟨g, 2, none⟩ (.int .u64 s)).drewN q') := by
  have e1 : ((((w.drewN q).setCell ⟨g, 1, none⟩ (.int .i64 ((at_ : Int) + 1))).setCell ⟨g, 2, none⟩ (.int .u64 s)).drewN q').heap[g]? = some (.cells #[.slice A l.length c, .int .i64 ((at_ + 1 : Nat) : Int), .int .u64 s] 67 (0, 0)) := by
    have h2 : (w.drewN q).heap[g]? = some (.cells #[.slice A l.length c, .int .i64 at_, .int .u64 seed] 67 (0, 0)) := hg
    have h3 := heap_setCell_same (w.drewN q) g 1 _ _ (.int .i64 ((at_ : Int) + 1)) h2
    have h4 := heap_setCell_same _ g 2 _ _ (.int .u64 s) h3
    exact h4.trans (by simp)
  have hblk : ∀ k, k ≠ g → ((((w.drewN q).setCell ⟨g, 1, none⟩ (.int .i64 ((at_ : Int) + 1))).setCell ⟨g, 2, none⟩ (.int .u64 s)).drewN q').heap[k]? = w.heap[k]? := fun k hk => by
    have h3 := heap_setCell_other (w.drewN q) ⟨g, 1, none⟩ k (.int .i64 ((at_ : Int) + 1)) hk
    have h4 := heap_setCell_other ((w.drewN q).setCell ⟨g, 1, none⟩ (.int .i64 ((at_ : Int) + 1))) ⟨g, 2, none⟩ k (.int .u64 s) hk
    exact h4.trans h3
  refine ⟨r, rfl, h0, h1, ⟨at_ + 1, s, l, A, c, e1, by omega, rfl, hlc, hcm, fun hp => ?_⟩, ⟨rfl, rfl, rfl, ?_, fun k hk hd => hblk k (by omega)⟩⟩
  · obtain ⟨b, off, rfl, hb, hc⟩ := hx hp
    exact ⟨b, off, rfl, hb, fun i u hu => (World.cell?_of_block (a := ⟨b, off + i, none⟩) (hblk b (by omega))).trans (hc i u hu)⟩
  · simp [World.setCell, World.drewN]
theorem wrap64_u8 (x : UInt8) : wrap64 (x.toNat : Int) = (x.toNat : Int) := by
  have := x.toNat_lt
  unfold wrap64; omega
theorem and255 (x : Int) : 0 ≤ wrap64 (bits BinOp.and IntKind.u64 x 255) ∧ wrap64 (bits BinOp.and IntKind.u64 x 255) ≤ 255 := by
  have h : 0 ≤ bits BinOp.and IntKind.u64 x 255 ∧ bits BinOp.and IntKind.u64 x 255 ≤ 255 := by
    show 0 ≤ IntKind.u64.wrap ((BitVec.ofInt 64 x &&& BitVec.ofInt 64 255).toNat : Int) ∧ IntKind.u64.wrap ((BitVec.ofInt 64 x &&& BitVec.ofInt 64 255).toNat : Int) ≤ 255
    have e : (BitVec.ofInt 64 255).toNat = 255 := by decide
    have hle : (BitVec.ofInt 64 x &&& BitVec.ofInt 64 255).toNat ≤ 255 := by
      rw [BitVec.toNat_and, e]; exact Nat.and_le_right
    generalize (BitVec.ofInt 64 x &&& BitVec.ofInt 64 255).toNat = y at *
    have : IntKind.u64.wrap (y : Int) = y := by simp [IntKind.wrap, IntKind.bits, IntKind.signed]; omega
    omega
  generalize bits BinOp.and IntKind.u64 x 255 = y at *
  unfold wrap64; omega

set_option maxHeartbeats 1000000 in
theorem next_any (g : Nat) (cv : Value) (n : Nat) (w : World) (hc : CurAt w g cv n) (hn : n ≤ 1000000000000) :
    Calls Try.prog 93 #[.pointer (some ⟨g, 0, none⟩)] w (Draws w g cv (n + 1) 0 255) := by
  obtain ⟨at_, seed, l, A, c, hg, hat, rfl, hlc, hcm, hx⟩ := hc
  unfold maxLen at hcm
  have hc0 : w.cell? ⟨g, 0, none⟩ = some (.slice A l.length c) := by rw [cell_of_row w g 0 _ _ _ hg]; rfl
  have hc1 : w.cell? ⟨g, 1, none⟩ = some (.int .i64 at_) := by rw [cell_of_row w g 1 _ _ _ hg]; rfl
  have hc2 : w.cell? ⟨g, 2, none⟩ = some (.int .u64 seed) := by rw [cell_of_row w g 2 _ _ _ hg]; rfl
  have hf1 : w.frozen? ⟨g, 1, none⟩ = false := frozen_of_row w g 1 _ _ hg
  have hf2 : w.frozen? ⟨g, 2, none⟩ = false := frozen_of_row w g 2 _ _ hg
  have HG := Lib.hid hg
  clear hg
  by_cases hlt : at_ < l.length
  · obtain ⟨b, off, rfl, hbl, hcell⟩ := hx (by omega)
    have hcx := hcell at_ _ (bys_get l at_ hlt)
    have hd : decide ((at_ : Int) < (l.length : Int)) = true := by simp; omega
    have hli : (at_ : Int) < (l.length : Int) := by omega
    have HX := Lib.hid hcell
    clear hcell hx
    go_enter Try.func93, Try.ntmps93
    go_wp2_with fail
    go_quiet (fail)
    go_wp2_with fail
    go_quiet (fail)
    go_wp2_with fail
    go_quiet (fail)
    go_wp2_with fail
    go_ret
    have hu := l[at_].toNat_lt
    exact draws_end _ _ HG.out hat hlc hcm (fun _ => ⟨b, off, rfl, hbl, HX.out⟩) (by rw [wrap64_u8]; omega) (by rw [wrap64_u8]; omega)
  · have HX := Lib.hid hx
    clear hx
    have hd : decide ((at_ : Int) < (l.length : Int)) = false := by simp; omega
    go_enter Try.func93, Try.ntmps93
    go_wp2_with fail
    go_quiet (fail)
    go_wp2_with fail
    go_quiet (fail)
    go_wp2_with fail
    go_ret
    exact draws_end _ _ HG.out hat hlc hcm HX.out (and255 _).1 (and255 _).2

theorem CurAt.more {w : World} {g : Nat} {cv : Value} {n m : Nat} (h : CurAt w g cv n) (hm : n ≤ m) : CurAt w g cv m := by
  obtain ⟨at_, seed, l, A, c, h1, h2, h3⟩ := h
  exact ⟨at_, seed, l, A, c, h1, by omega, h3⟩
theorem CurAt.lt {w : World} {g : Nat} {cv : Value} {n : Nat} (h : CurAt w g cv n) : g < w.heap.size := by
  obtain ⟨at_, seed, l, A, c, h1, _⟩ := h
  exact (Array.getElem?_eq_some_iff.1 h1).1
theorem CurAt.keep {w w' : World} {g : Nat} {cv : Value} {n a b : Nat} (h : CurAt w g cv n) (t : TurnIn a b w w') (hd : g < a ∨ b ≤ 0) : CurAt w' g cv n := by
  have hl := h.lt
  obtain ⟨at_, seed, l, A, c, h1, h2, h3, h4, h5, h6⟩ := h
  refine ⟨at_, seed, l, A, c, (t.block g hl (by omega)).trans h1, h2, h3, h4, h5, fun hp => ?_⟩
  obtain ⟨b', off, rfl, hb, hc⟩ := h6 hp
  exact ⟨b', off, rfl, hb, fun i u hu => (World.cell?_of_block (a := ⟨b', off + i, none⟩) (t.block b' (by omega) (by omega))).trans (hc i u hu)⟩

/-- what pick may answer at most -/
def pickHi (n : Int) : Int := if n ≤ 1 then 0 else n - 1

set_option maxHeartbeats 1000000 in
theorem pick_any (g : Nat) (cv : Value) (m : Nat) (n : Int) (w : World) (hc : CurAt w g cv m) (hm : m ≤ 100000000000) :
    Calls Try.prog 76 #[.pointer (some ⟨g, 0, none⟩), .int .i64 n] w (Draws w g cv (m + 2) 0 (pickHi n)) := by
  by_cases h1 : n ≤ 1
  · have HP : Hid (pickHi n = 0) := if_pos h1
    go_enter Try.func76, Try.ntmps76
    go_wp2_with fail
    go_ret
    exact ⟨0, rfl, by omega, by rw [HP.out]; omega, hc.more (by omega), ⟨rfl, rfl, rfl, Nat.le_refl _, fun _ _ _ => rfl⟩⟩
  · have HP : Hid (pickHi n = n - 1) := if_neg h1
    by_cases h2 : 200 < n
    · go_enter Try.func76, Try.ntmps76
      go_wp2_with fail
      refine (next_any g cv m _ hc (by omega)).mono ?_
      rintro e w1 ⟨x, rfl, x0, x1, hc1, k1⟩
      go_wp2_with fail
      refine (next_any g cv (m + 1) _ hc1 (by omega)).mono ?_
      rintro e w2 ⟨y, rfl, y0, y1, hc2, k2⟩
      have hn0 : (n == 0) = false := by simp; omega
      have HR := Lib.hid (Int.emod_nonneg (x * 256 + y) (show n ≠ 0 by omega))
      have HL := Lib.hid (Int.emod_lt_of_pos (x * 256 + y) (show 0 < n by omega))
      go_wp2_with fail
      go_ret
      refine ⟨(x * 256 + y) % n, rfl, HR.out, by rw [HP.out]; have := HL.out; omega, hc2, turn_trans k1 k2 (by omega)⟩
    · go_enter Try.func76, Try.ntmps76
      go_wp2_with fail
      refine (next_any g cv m _ hc (by omega)).mono ?_
      rintro e w1 ⟨x, rfl, x0, x1, hc1, k1⟩
      have hn0 : (n == 0) = false := by simp; omega
      have HR := Lib.hid (Int.emod_nonneg x (show n ≠ 0 by omega))
      have HL := Lib.hid (Int.emod_lt_of_pos x (show 0 < n by omega))
      go_wp2_with fail
      go_ret
      exact ⟨x % n, rfl, HR.out, by rw [HP.out]; have := HL.out; omega, hc1.more (by omega), k1⟩

/-- a bool is drawn -/
def DrawsB (w : World) (g : Nat) (cv : Value) (n : Nat) (e : Ending) (w' : World) : Prop := ∃ b : Bool, e = .returned (.bool b) ∧ CurAt w' g cv n ∧ TurnIn g (g + 1) w w'

set_option maxHeartbeats 400000 in
theorem one_any (g : Nat) (cv : Value) (m : Nat) (n : Int) (w : World) (hc : CurAt w g cv m) (hm : m ≤ 100000000000) :
    Calls Try.prog 77 #[.pointer (some ⟨g, 0, none⟩), .int .i64 n] w (DrawsB w g cv (m + 2)) := by
  go_enter Try.func77, Try.ntmps77
  go_wp2_with fail
  refine (pick_any g cv m n _ hc hm).mono ?_
  rintro e w1 ⟨x, rfl, x0, x1, hc1, k1⟩
  go_wp2_with fail
  go_ret
  exact ⟨_, rfl, hc1, k1⟩

/-- one of some numbers is drawn -/
def DrawsOf (w : World) (g : Nat) (cv : Value) (n : Nat) (l : List Int) (e : Ending) (w' : World) : Prop := ∃ r : Int, e = .returned (.int .i64 r) ∧ r ∈ l ∧ CurAt w' g cv n ∧ TurnIn g (g + 1) w w'

set_option maxHeartbeats 400000 in
theorem among_any (g : Nat) (cv : Value) (m : Nat) (b c : Nat) (l : List Int) (w : World) (hc : CurAt w g cv m) (hm : m ≤ 100000000000) (hp : 0 < l.length) (hl : l.length ≤ 1000) (hlc : l.length ≤ c) (hc' : c ≤ 1000) (hbg : b ≠ g) (hbl : b < w.heap.size)
    (hcell : ∀ i u, (ints l)[i]? = some u → w.cell? ⟨b, i, none⟩ = some u) :
    Calls Try.prog 97 #[.pointer (some ⟨g, 0, none⟩), .slice (some ⟨b, 0, none⟩) l.length c] w (DrawsOf w g cv (m + 2) l) := by
  have HC := Lib.hid hcell
  clear hcell
  generalize hnn : l.length = n at *
  have HN := Lib.hid hnn
  clear hnn
  go_enter Try.func97, Try.ntmps97
  go_wp2_with fail
  refine (pick_any g cv m n _ hc hm).mono ?_
  rintro e w1 ⟨x, rfl, x0, x1, hc1, k1⟩
  have hxn : x < n := by
    unfold pickHi at x1
    split at x1 <;> omega
  clear x1
  obtain ⟨i, rfl⟩ := Int.eq_ofNat_of_zero_le x0
  have hi : i < l.length := by rw [HN.out]; omega
  have hcx : w1.cell? ⟨b, i, none⟩ = some (.int .i64 l[i]) :=
    (World.cell?_of_block (a := ⟨b, i, none⟩) (k1.block b hbl (by omega))).trans (HC.out i _ (by simp [ints, hi]))
  go_wp2_with fail
  go_ret
  exact ⟨l[i], rfl, List.getElem_mem hi, hc1, k1⟩

/-- a new cursor -/
theorem cur_new {w : World} {v : Value} {l : List UInt8} (hv : Seen w v (bys l)) : CurAt (w.alloc (.cells #[v, .int .i64 0, .int .u64 0] 67)) w.heap.size v 0 := by
  obtain ⟨A, c, rfl, hlc, hcm, hx⟩ := hv
  rw [bys_length] at hlc hx ⊢
  refine ⟨0, 0, l, A, c, heap_alloc_new w _, Nat.le_refl _, rfl, hlc, hcm, fun hp => ?_⟩
  obtain ⟨b, off, rfl, hb, hc⟩ := hx hp
  exact ⟨b, off, rfl, hb, fun i u hu => (World.cell?_alloc_lt w _ ⟨b, off + i, none⟩ hb).trans (hc i u hu)⟩

theorem turn_own {B : Nat} {w w' : World} {e : TypeId} {size n : Nat} {v : Value} {xs : List Value} (hown : w.ownsRow B e size v n xs) (hg : w.grownBy w' v.ownBlock) : TurnIn B w.heap.size w w' :=
  TurnIn.of_grown hg fun g h => hown.lt g h

end Go.Proofs.Ytdbgkpmdimapdaa

/- Contracts of the laws' own helpers: sameBytes, numberOf. -/
namespace G294
open Go Go.RowKit
/-- bytes as a string's bytes -/
def str (l : List UInt8) : ByteArray := ⟨l.toArray⟩
theorem run_string_seen {P : Program} {w : World} {v : Value} {l : List UInt8} (src e dst : TypeId) (hs : P.underlying src = some (.slice e)) (he : P.underlying e = some (.int .u8)) (hd : P.underlying dst = some .string)
    (hv : Seen w v (bys l)) : (convert src dst v).run P w = .ok (.string (str l)) w := by
  obtain ⟨A, c, rfl, hlc, hcm, hx⟩ := hv
  rw [bys_length] at hx ⊢
  cases hl : l with
  | nil =>
    simp only [List.length_nil]
    cases A with
    | none => exact run_convert_bytes_nil w src e hs he 0 c dst hd
    | some a =>
      rw [run_convert_bytes_string w src dst e _ 0 c hs he hd, run_bytesToString w a 0 c [] (by simp [loadCells, loadCellsFrom])]
      rfl
  | cons x r =>
    rw [← hl]
    obtain ⟨b, off, rfl, hb, hc⟩ := hx (by rw [hl]; simp)
    have h := run_convert_bytes_arg (P := P) w src e hs he b off l.length c (l.map fun x => (x.toNat : Int)) (by simp) (fun i hi => by
      rw [hc i _ (bys_get l i hi)]; simp [List.getD, hi]) dst hd
    rw [h]
    congr 2
    simp [strOfNums, str]
    apply List.ext_getElem
    · simp
    · intro i h1 h2
      simp
theorem str_toList (l : List UInt8) : (str l).toList = l := ByteArray.toList_mk l
end G294
namespace Go.Proofs.Ytdbgkpmdimapdaa
open Go.RowKit G294

set_option maxHeartbeats 400000 in
theorem sameBytes_any (v u : Value) (l m : List UInt8) (w : World) (hv : Seen w v (bys l)) (hu : Seen w u (bys m)) :
    Calls Try.prog 31 #[v, u] w fun e w' => e = .returned (.bool (l == m)) ∧ w = w' := by
  have r1 := run_string_seen (P := Try.prog) 22 5 9 Try.underlying22 Try.underlying5 Try.underlying9 hv
  have r2 := run_string_seen (P := Try.prog) 22 5 9 Try.underlying22 Try.underlying5 Try.underlying9 hu
  obtain ⟨A, c, rfl, _⟩ := hv
  obtain ⟨A', c', rfl, _⟩ := hu
  rw [bys_length] at r1 r2
  simp only [bys_length]
  go_enter Try.func31, Try.ntmps31
  go_wp2_with fail
  go_ret
  exact ⟨by simp [str_toList], rfl⟩

set_option maxHeartbeats 400000 in
theorem numberOf_any (v : Value) (l : List UInt8) (w : World) (hv : Seen w v (bys l)) :
    Calls Try.prog 27 #[v] w fun e w' => ∃ n : Nat, n < 1000003 ∧ e = .returned (.int .i64 n) ∧ w = w' := by
  obtain ⟨A, c, rfl, hlc, hcm, hx⟩ := hv
  rw [bys_length] at hlc hx
  simp only [bys_length]
  unfold maxLen at hcm
  generalize hnn : l.length = n at *
  have HN := Lib.hid hnn
  clear hnn
  go_enter Try.func27, Try.ntmps27
  go_wp2_with fail
  go_loop [3, 8] (fun o i => ∃ k q : Nat, k ≤ n ∧ q < 1000003 ∧ i = .int .i64 k ∧ o = .int .i64 q) (fun _ i => n - (intOf i).toNat)
  case atStart => exact ⟨0, 0, Nat.zero_le _, by omega, rfl, rfl⟩
  case round =>
    obtain ⟨k, q, hk, hq, rfl, rfl⟩ := hrel
    by_cases hlt : k < n
    · obtain ⟨b, off, rfl, hbl, hcell⟩ := hx (by omega)
      have hkl : k < l.length := by rw [HN.out]; exact hlt
      have hcx := hcell k _ (bys_get l k hkl)
      have hub := l[k].toNat_lt
      generalize l[k].toNat = x at *
      clear hcell hx
      have hki : (k : Int) < (n : Int) := by omega
      have hxi : (x : Int) < 256 := by omega
      go_wp2_with fail
      go_round
      case rel => exact ⟨k + 1, (31 * q + x) % 1000003, by omega, by omega, by go_num, by go_num⟩
      case measure => simp [intOf]; omega
    · obtain rfl : k = n := by omega
      have hki : ¬ (k : Int) < (k : Int) := by omega
      go_wp2_with fail
      go_ret
      exact ⟨q, hq, rfl, rfl⟩

end Go.Proofs.Ytdbgkpmdimapdaa
