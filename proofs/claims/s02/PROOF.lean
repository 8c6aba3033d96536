import PyProof.Rows.All
import Wide.All
import OpenK.AllK
import Wide.FinOn
import KE.OsGo
import KE.OsEnd
import KE.OsMore
import KE.KSortKeySt
import KE.KSortRegAny
import PyProof.ListRange
import PyProof.Rows.SortShell
import PyProof.Rows.GenSrcRange
import PyProof.Rows.NewsSeq
import PySem.Challenge.RW_lanesort_s02_lv_rank
namespace My
open Sw48

/-- by what g tells, then by the place; not strictly -/
def W (g : Int → Int) (a b : Int) : Prop := g a < g b ∨ (g a = g b ∧ a ≤ b)

theorem w_of {g : Int → Int} {src l : List Int} (ho : l.Pairwise (fun x y => g x ≤ g y)) (hst : ∀ z, l.filter (fun x => g x == z) = src.filter (fun x => g x == z)) (hs : src.Pairwise (· ≤ ·)) : l.Pairwise (W g) := by
  rw [List.pairwise_iff_forall_sublist] at *
  intro a b hab
  have h1 : g a ≤ g b := ho hab
  by_cases e : g a = g b
  · have h2 : ([a, b].filter (fun x => g x == g a)).Sublist (l.filter (fun x => g x == g a)) := hab.filter _
    have h3 : [a, b].filter (fun x => g x == g a) = [a, b] := by simp [e]
    rw [h3, hst] at h2
    exact .inr ⟨e, hs (h2.trans List.filter_sublist)⟩
  · exact .inl (by omega)

theorem same_of {g : Int → Int} {l r : List Int} (h1 : l.Pairwise (W g)) (h2 : r.Pairwise (W g)) (hp : l.Perm r) : l = r := by
  refine List.Perm.eq_of_pairwise ?_ h1 h2 hp
  intro a b _ _ u v
  unfold W at u v
  omega

/-! the specification's side -/
theorem cell_vec (f : Nat → Nat) (i : Nat) (hi : i < 16) : (vec f).getD i 0 = f i % 2 ^ 32 := by
  unfold vec
  rw [List.getD_eq_getElem?_getD, List.getElem?_map, List.getElem?_range hi]
  rfl

theorem key_u32 (x : Nat) : Sw48.key 2 x = (x : Int) := by
  unfold Sw48.key value
  rw [if_neg (by decide), if_neg (by intro h; exact absurd h.1 (by decide))]

theorem lane_of {xs : List Int} (hlo : ∀ x ∈ xs, 0 ≤ x ∧ x ≤ 4294967295) (i : Nat) : ((lane (Sw48Neutral.nats xs) i : Nat) : Int) = xs.getD i 0 := by
  unfold lane Sw48Neutral.nats
  rw [List.getD_eq_getElem?_getD, List.getD_eq_getElem?_getD, List.getElem?_map]
  cases h : xs[i]? with
  | none => rfl
  | some x =>
    have hx := hlo x (List.mem_of_getElem? h)
    simp only [Option.map_some, Option.getD_some]
    omega

theorem lane_lt (x : Vec) (i : Nat) : lane x i < 2 ^ 32 := Nat.mod_lt _ (by decide)

theorem key_words {xs : List Int} (hlo : ∀ x ∈ xs, 0 ≤ x ∧ x ≤ 4294967295) (i : Nat) (hi : i < 16) : (words (Sw48Neutral.nats xs)).key i = xs.getD i 0 := by
  show Sw48.key 2 ((vec (lane (Sw48Neutral.nats xs))).getD i 0) = _
  rw [cell_vec _ i hi, key_u32, Nat.mod_eq_of_lt (lane_lt _ _), lane_of hlo]

theorem before_one (c : Col) (i j : Nat) : before [(false, c)] i j = if c.key i = c.key j then decide (i < j) else decide (c.key i < c.key j) := by
  simp [before]

def le1 (c : Col) (i j : Nat) : Bool := !before [(false, c)] j i
theorem le1_iff (c : Col) (i j : Nat) : le1 c i j = true ↔ c.key i < c.key j ∨ (c.key i = c.key j ∧ i ≤ j) := by
  unfold le1
  rw [before_one]
  by_cases e : c.key j = c.key i
  · rw [if_pos e]; simp; omega
  · rw [if_neg e]; simp; omega

theorem order_pairwise (c : Col) : (order c).Pairwise (fun i j => c.key i < c.key j ∨ (c.key i = c.key j ∧ i ≤ j)) := by
  have h := List.pairwise_mergeSort (le := le1 c) (fun a b d h1 h2 => by rw [le1_iff] at *; omega) (fun a b => by
    have := le1_iff c a b
    have := le1_iff c b a
    cases h1 : le1 c a b <;> cases h2 : le1 c b a <;> simp_all <;> omega) (List.range c.rows.length)
  exact h.imp fun {a b} h => (le1_iff c a b).mp h

theorem order_perm (c : Col) : (order c).Perm (List.range c.rows.length) := List.mergeSort_perm _ _

theorem words_len (x : Vec) : (words x).rows.length = 16 := by simp [words, vec]

theorem lv_order_eq (xs : List Int) : PySw48.lv_order xs = Sw48Neutral.ints (order (words (Sw48Neutral.nats xs))) := rfl

theorem is_order {xs l : List Int} {g : Int → Int} (hlo : ∀ x ∈ xs, 0 ≤ x ∧ x ≤ 4294967295) (hg : ∀ i : Nat, i < 16 → g (i : Int) = xs.getD i 0)
    (hp : l.Perm ((List.range 16).map fun (i : Nat) => (i : Int))) (hw : l.Pairwise (W g)) : l = PySw48.lv_order xs := by
  rw [lv_order_eq]
  refine same_of hw ?_ (hp.trans ?_)
  · unfold Sw48Neutral.ints
    rw [List.pairwise_map]
    refine (order_pairwise _).imp_of_mem fun {i j} hi hj h => ?_
    have hi' := (order_perm _).mem_iff.mp hi
    have hj' := (order_perm _).mem_iff.mp hj
    rw [words_len, List.mem_range] at hi' hj'
    rw [key_words hlo i hi', key_words hlo j hj'] at h
    unfold W
    rw [hg i hi', hg j hj']
    omega
  · have h := (order_perm (words (Sw48Neutral.nats xs))).map (fun (i : Nat) => (i : Int))
    rw [words_len] at h
    exact h.symm
end My

open PySem PyProof.Rows
set_option Elab.async false
set_option maxRecDepth 100000
set_option maxHeartbeats 4000000
namespace My
theorem rangeInts_up (k : Nat) : (rangeInts 0 1 k).Pairwise (· ≤ ·) := by
  unfold rangeInts
  rw [List.pairwise_map]
  exact List.pairwise_lt_range.imp fun {a b} h => by omega

theorem rangeInts_mem {k : Nat} {i : Int} (h : i ∈ rangeInts 0 1 k) : 0 ≤ i ∧ i < k := by
  unfold rangeInts at h
  obtain ⟨j, hj, rfl⟩ := List.mem_map.mp h
  have := List.mem_range.mp hj
  omega

section
variable {prog : Program} {w : World} {A : Around} {E : Value → Shared → Prop} {s : Shared} {h0 : Heap} {L : Addr} {m : Str → Option Value} {news : List (Addr × Obj)}

abbrev rangeObj (n : Int) (t u v : Tok) : Obj := { cls := .type "range", dict := none, data := .fields #[.int 0 t, .int n u, .int 1 v], slots := #[] }

theorem rangeNews {Q : Value → Shared → Prop} {n : Int} {t : Tok} (F : Fr h0 L s.heap m) (N : News h0 L s.heap news)
    (h : ∀ R t' u' v' h' tk, Fr h0 L h' m → News h0 L h' ((R, rangeObj n t' u' v') :: news) → (∀ q ∈ news, q.1 < R) → Q (.ref R) { s with heap := h', toks := tk }) :
    wpAny (model prog w) A (call (.type "range") [.int n t]) Q E s := by
  refine range1_rows F N fun h' tk t1 u1 v1 hr F' N' _ => ?_
  have hL : L < s.heap.objs.size := F.ns.lt
  refine h s.heap.objs.size t1 u1 v1 h' tk F' (fun p hp => ?_) fun q hq => Heap.lt_size (N q hq).1
  rcases List.mem_cons.mp hp with rfl | hp
  · exact ⟨hr, Nat.ne_of_gt hL, Heap.get?_none_of_le (Nat.le_trans F.above (Nat.le_of_lt hL))⟩
  · exact N' p hp

theorem itemsOf_ints : ∀ {n : Nat} {acc : Array Value}, ItemsOf (fun i v => ∃ t, v = .int (0 + (i : Int) * 1) t) acc n → IntsAre acc.toList (rangeInts 0 1 n) := by
  intro n acc h
  have e : acc.toList.map numOf = rangeInts 0 1 n := by
    refine List.ext_getElem? fun j => ?_
    rw [List.getElem?_map]
    by_cases hj : j < n
    · have hj' : j < acc.size := by rw [h.1]; exact hj
      have hv : acc[j]? = some acc[j] := Array.getElem?_eq_getElem hj'
      obtain ⟨t, ht⟩ := h.2 j _ hv
      have hl : acc.toList[j]? = some acc[j] := by simpa using hv
      rw [hl, rangeInts_get hj, ht]
      rfl
    · rw [List.getElem?_eq_none (by rw [Array.length_toList, h.1]; omega), List.getElem?_eq_none (by rw [rangeInts_length]; omega)]
      rfl
  rw [← e]
  refine intsAre_map _ fun x hx => ?_
  obtain ⟨j, hj⟩ := List.mem_iff_getElem?.mp hx
  obtain ⟨t, ht⟩ := h.2 j x (by simpa using hj)
  exact ⟨_, t, ht⟩

theorem collectRange {r : Addr} {n : Int} {t u v : Tok} {k : Nat} {Q : List Value → Shared → Prop} (hh : A.handled = none) (hr : IsRange s.heap r 0 n 1 t u v) (hk : n = (k : Int)) (hb : k ≤ 2 ^ 24)
    (h : ∀ h' tk vs, (∀ b o, s.heap.get? b = some o → h'.get? b = some o) → s.heap.objs.size ≤ h'.objs.size → IntsAre vs (rangeInts 0 1 k) → Q vs { s with heap := h', toks := tk }) :
    wpAny (model prog w) A (collect (.ref r)) Q E s := by
  subst hk
  have hsm : Builtin.Range.small 0 (k : Int) 1 = true := small_one (by omega) (by omega) (by omega) (by omega)
  have hn : Builtin.Range.rangeSize 0 (k : Int) 1 = (k : Int) := by rw [rangeSize_one]; split <;> omega
  unfold collect
  refine wpAny_bind <| wpAny_runValue <| codeAny_builtin entry_proto_collect' ?_
  show wpAny _ _ (newList [] >>= fun l => again (.builtin "list.__iadd__" ⟨[l, .ref r], []⟩)) _ _ s
  refine wpAny_bind <| wpAny_newList (wpAny_pure ⟨Code.quiet_builtin _ (by decide +kernel), ?_⟩)
  refine codeAny_builtin entry_list_iadd' ?_
  have hS : (s.heap.push (seqObj "list" #[] 0)).get? s.heap.objs.size = some (seqObj "list" #[] 0) := Heap.get?_push_size _ rfl
  refine wpAny_extend_range (s := { s with heap := s.heap.push (seqObj "list" #[] 0) }) (A := A) (R := fun r s' => match r with
    | .ok (.ret v) => wpAny (model prog w) A (match v with
      | .ref a => do
        let o ← load a
        match o.data with
        | .seq xs _ => pure xs.toList
        | _ => unsupported "internal:collect"
      | _ => unsupported "internal:collect") Q E s'
    | .ok _ => False
    | .error e => E e s') hh (Heap.get?_push_of_some _ hr) hsm hn hb s.heap.objs.size (.ref s.heap.objs.size) 0 hS fun h' tk acc c hkeep hS' hacc => ?_
  refine wpAny_bind (wpAny_load hS' ?_)
  refine wpAny_pure (h h' tk acc.toList (fun b o e => hkeep b o (Nat.ne_of_lt (Heap.lt_size e)) (Heap.get?_push_of_some _ e)) (Nat.le_of_lt (Heap.lt_size hS')) (itemsOf_ints hacc))

end
end My

open PySem PySem.W PyProof.Rows
set_option Elab.async false
set_option maxRecDepth 100000
set_option maxHeartbeats 4000000

namespace My
/-- the places below k, in g's order -/
structure Placed (g : Int → Int) (k : Nat) (l : List Int) : Prop where
  perm : l.Perm (rangeInts 0 1 k)
  rise : l.Pairwise (W g)

/-- what a stable sort of ints' places by keys gives back, read as ints -/
theorem placed_of {g : Int → Int} {k : Nat} {vs out : List Value} (hv : IntsAre vs (rangeInts 0 1 k)) (ko : KskOutSt false ((rangeInts 0 1 k).map g) vs out) :
    IntsAre out (out.map numOf) ∧ (out.map numOf).length = k ∧ Placed g k (out.map numOf) := by
  obtain ⟨ps, hp, rfl, hs, hst⟩ := ko
  have hzip : ∀ {l : List Value} {ns : List Int}, IntsAre l ns → ∀ p ∈ (ns.map g).zip l, (∃ i t, p.2 = Value.int i t) ∧ p.1 = g (numOf p.2) := by
    intro l ns h
    induction h with
    | nil => intro p hp; simp at hp
    | cons i t _ ih =>
      intro p hp
      rw [List.map_cons, List.zip_cons_cons] at hp
      rcases List.mem_cons.mp hp with rfl | hp
      · exact ⟨⟨i, t, rfl⟩, rfl⟩
      · exact ih p hp
  have hall : ∀ p ∈ ps, (∃ i t, p.2 = Value.int i t) ∧ p.1 = g (numOf p.2) := fun p h => hzip hv p (hp.mem_iff.mp h)
  have hsnd : ((((rangeInts 0 1 k).map g).zip vs).map Prod.snd).map numOf = rangeInts 0 1 k := by
    rw [List.map_snd_zip (by rw [List.length_map, hv.length]; exact Nat.le_refl _), hv.nums]
  have hperm : ((ps.map Prod.snd).map numOf).Perm (rangeInts 0 1 k) := by
    have h1 := (hp.map Prod.snd).map numOf
    rw [hsnd] at h1
    exact h1
  refine ⟨intsAre_map _ fun x hx => ?_, by rw [hperm.length_eq, rangeInts_length], hperm, ?_⟩
  · obtain ⟨p, hp', rfl⟩ := List.mem_map.mp hx
    exact (hall p hp').1
  · refine w_of (src := rangeInts 0 1 k) ?_ (fun z => ?_) (rangeInts_up k)
    · rw [List.pairwise_map, List.pairwise_map]
      refine hs.imp_of_mem fun {p q} hp' hq' hr => ?_
      rw [← (hall p hp').2, ← (hall q hq').2]
      simpa using hr
    · have e1 : ∀ l : List (Int × Value), (∀ p ∈ l, p.1 = g (numOf p.2)) → ((l.map Prod.snd).map numOf).filter (fun x => g x == z) = ((l.filter (fun p => p.1 == z)).map Prod.snd).map numOf := by
        intro l hl
        induction l with
        | nil => rfl
        | cons p l ih =>
          have hp' := hl p (.head _)
          have ih' := ih fun q hq => hl q (.tail _ hq)
          simp only [List.map_cons, List.filter_cons, ← hp']
          split
          · rw [List.map_cons, List.map_cons, ih']
          · exact ih'
      rw [e1 ps fun p h => (hall p h).2, hst z, ← e1 _ fun p h => (hzip hv p h).2, hsnd]

section
variable {prog : Program} {w : World} {A : Around} {E : Value → Shared → Prop} {s : Shared} {h0 : Heap} {L : Addr} {m : Str → Option Value} {news : List (Addr × Obj)}

theorem sortedRange {f : Value} {kw : List (Str × Value)} {R : Addr} {n : Int} {t u v : Tok} {k : Nat} {Q : Value → Shared → Prop} (g : Int → Int)
    (hh : A.handled = none) (F : Fr h0 L s.heap m) (N : News h0 L s.heap news) (hR : (R, rangeObj n t u v) ∈ news) (hk : n = (k : Int)) (hb : k ≤ 2 ^ 20)
    (ha1 : argsOk "sorted" ⟨[.ref R], kw⟩) (ha2 : ∀ x, argsOk "list.sort" ⟨[.ref x], kw⟩) (ht : ∀ x, Builtin.«list.sort» ⟨[.ref x], kw⟩ = ksk_tree x f false)
    (turn : ∀ (i : Int) (t : Tok) (h : Heap) (tk : Nat) (own : List (Addr × Obj)), 0 ≤ i → i < n → Fr h0 L h m → News h0 L h (news ++ own) →
      wpAny (model prog w) A.in1.in1 (call f [.int i t]) (KskEnd h0 L m (news ++ own) (g i) { s with heap := h, toks := tk }) (fun _ _ => False) { s with heap := h, toks := tk })
    (done : ∀ D vs' ns' c h' tk, Fr h0 L h' m → News h0 L h' ((D, PySem.W.listOf (List.toArray vs') c) :: news) → (∀ q ∈ news, q.1 < D) → IntsAre vs' ns' → ns'.length = k → Placed g k ns' → Q (.ref D) { s with heap := h', toks := tk }) :
    wpAny (model prog w) A (call (.builtin "sorted") [.ref R] kw) Q E s := by
  refine call_function_entry_kw kind_sorted plain_sorted entry_sorted ha1 ?_
  unfold Builtin.«sorted»
  refine wpAny_bind (m := checkCount "sorted" 1 1 _) <| wpAny_pure ?_
  refine wpAny_bind <| collectRange (A := A.in1) hh (N _ hR).1 hk (by omega) fun h1 tk1 vs hkeep hsz hv => ?_
  have hvl : vs.length = k := by rw [hv.length, rangeInts_length]
  refine wpAny_bind <| wpAny_newList ?_ (by rw [sizeLine_eq]; omega)
  have keep : ∀ b o, s.heap.get? b = some o → (h1.push (seqObj "list" vs.toArray 0)).get? b = some o := fun b o e => Heap.get?_push_of_some _ (hkeep b o e)
  have hnew : (h1.push (seqObj "list" vs.toArray 0)).get? h1.objs.size = some (seqObj "list" vs.toArray 0) := Heap.get?_push_size _ rfl
  have hL : L < h1.objs.size := Nat.lt_of_lt_of_le F.ns.lt hsz
  refine wpAny_bind <| wpAny_holding <| wpAny_call_entry_kw slot_list_sort ⟨_, hnew, rfl⟩ entry_list_sort ?body (ha2 _)
  case body =>
    have ht' := ht h1.objs.size
    show wpAny (model prog w) A.in1.in1 (Builtin.«list.sort» ⟨[.ref h1.objs.size], kw⟩) _ _ { s with heap := h1.push (seqObj "list" vs.toArray 0), toks := tk1 }
    rw [ht']
    refine ksk_sortSt (s := { s with heap := h1.push (seqObj "list" vs.toArray 0), toks := tk1 }) (kz := (rangeInts 0 1 k).map g) (F.kept keep) (N.grown keep) hnew (Nat.ne_of_gt hL)
      (Heap.get?_none_of_le (Nat.le_trans F.above (Nat.le_of_lt hL))) (fun p hp => Nat.ne_of_lt (Nat.lt_of_lt_of_le (Heap.lt_size (N p hp).1) hsz)) (by rw [List.length_map, rangeInts_length, hvl]) (by rw [sizeLine_eq]; omega)
      (fun i x y hx hy h tk own F' N' => ?_) fun h' tk out c F' N' ko => ⟨_, rfl, ?_⟩
    · rw [List.getElem?_map] at hy
      cases q : (rangeInts 0 1 k)[i]? with
      | none => rw [q] at hy; simp at hy
      | some z =>
        rw [q] at hy
        have hy' : some (g z) = some y := hy
        cases hy'
        obtain ⟨t', ht2⟩ := hv.get i z q
        rw [ht2] at hx
        cases hx
        have hz := rangeInts_mem (List.mem_of_getElem? q)
        exact turn z t' h tk own hz.1 (by omega) F' N'
    · obtain ⟨hI, hl, hP⟩ := placed_of hv ko
      refine wpAny_pure ⟨_, rfl, ?_⟩
      exact done _ out.toList _ c h' tk F' (by simpa using N') (fun q hq => Nat.lt_of_lt_of_le (Heap.lt_size (N q hq).1) hsz) hI hl hP
end
end My

open PySem PySem.W PyProof.Rows
set_option Elab.async false
set_option maxRecDepth 100000
set_option maxHeartbeats 4000000
namespace My
/-- two names turn, the others stay -/
abbrev turned (x y : Str) (u m : Str → Option Value) : Str → Option Value := fun z => if z = x then u z else if z = y then u z else m z

/-- a turn's end: the one list that the loop fills holds what it must -/
def EnumEnd (h0 : Heap) (L I : Addr) (o1 o2 : Obj) (x y : Str) (m : Str → Option Value) (g : Obj → List (Addr × Obj)) (want : List Int) (s : Shared) (s3 : Shared) : Prop :=
  ∃ h' tk u r c, s3 = { s with heap := h', toks := tk } ∧ Fr h0 L h' (turned x y u m) ∧ News h0 L h' ((I + 1, o1) :: (I, o2) :: g (listOf (List.toArray r) c)) ∧ IntsAre r want

theorem EnumEnd.intro {h0 : Heap} {L I : Addr} {o1 o2 : Obj} {x y : Str} {m m' : Str → Option Value} {g : Obj → List (Addr × Obj)} {want ns : List Int} {s : Shared} {h' : Heap} {tk : Nat} {r : List Value} {c : Nat}
    (F : Fr h0 L h' m') (N : News h0 L h' ((I + 1, o1) :: (I, o2) :: g (listOf (List.toArray r) c))) (hi : IntsAre r ns) (e : ns = want) (hm : ∀ z, z ≠ x → z ≠ y → m' z = m z) :
    EnumEnd h0 L I o1 o2 x y m g want s { s with heap := h', toks := tk } := by
  subst e
  refine ⟨h', tk, m', r, c, rfl, ?_, N, hi⟩
  have e2 : turned x y m' m = m' := by
    funext z
    unfold turned
    by_cases h1 : z = x
    · rw [if_pos h1]
    · by_cases h2 : z = y
      · rw [if_neg h1, if_pos h2]
      · rw [if_neg h1, if_neg h2]
        exact (hm z h1 h2).symm
  rw [e2]
  exact F

section
variable {prog : Program} {w : World} {A : Around} {E : Value → Shared → Prop} {s : Shared} {h0 : Heap} {env : Env} {body : List Stmt} {Q : Flow → Shared → Prop}

theorem rest_enum {elts : List PySem.Expr} {k : Nat} {pos : Pos} {I l : Addr} {lo : Obj} {m0 : Str → Option Value} {x y : Str} {g : Obj → List (Addr × Obj)} {rs : Nat → List Int} {ns : List Int}
    (hk : ∀ o, (l, lo) ∈ g o) (hI : ∀ o, ∀ p ∈ g o, p.1 < I)
    (turn : ∀ (i : Nat) (p : Int) (u : Str → Option Value) (r : List Value) (c : Nat) (T : Addr) (t t' : Tok) (h : Heap) (tk : Nat) (o1 o2 : Obj), ns[i]? = some p → IntsAre r (rs i) → o1.cls = .type "enumerate" → o2.cls = .type "list_iterator" →
      IsTup h T #[.int (i : Int) t, .int p t'] → Fr h0 env.locals h (turned x y u m0) → News h0 env.locals h ((I + 1, o1) :: (I, o2) :: g (listOf (List.toArray r) c)) →
      wpAny (model prog w) A (assign (.Tuple elts k pos) env (.ref T)) (fun _ s2 => wpAny (model prog w) A (execs body env) (fun f s3 => f = .next ∧ EnumEnd h0 env.locals I o1 o2 x y m0 g (rs (i + 1)) { s with heap := h, toks := tk } s3) E s2) E { s with heap := h, toks := tk })
    (done : ∀ u r c h tk, IntsAre r (rs ns.length) → Fr h0 env.locals h (turned x y u m0) → News h0 env.locals h (g (listOf (List.toArray r) c)) → Q .next { s with heap := h, toks := tk }) :
    ∀ (d : Nat) (vs : List Value) (i : Nat) (u : Str → Option Value) (r : List Value) (c : Nat), IntsAre vs (ns.drop i) → ns.length = i + d → IntsAre r (rs i) →
      ItemsRest prog w A E h0 env (.Tuple elts k pos) body Q s [(I + 1, "enumerate"), (I, "list_iterator")] [(l, lo)] (enumItems i vs) (turned x y u m0) (g (listOf (List.toArray r) c))
  | 0, vs, i, u, r, c, hv, hd, hr => by
    have e : ns.drop i = [] := List.drop_eq_nil_of_le (by omega)
    rw [e] at hv
    cases hv
    exact ItemsRest.zero fun h tk F N => done u r c h tk (by rw [hd]; exact hr) F N
  | d + 1, vs, i, u, r, c, hv, hd, hr => by
    have hlt : i < ns.length := by omega
    rw [List.drop_eq_getElem_cons hlt] at hv
    cases hv with
    | cons p t' hv =>
      refine ItemsRest.pair fun T t h tk hT F => ?_
      refine AllObj.cons fun o1 c1 => AllObj.cons fun o2 c2 => AllObj.nil fun N => ?_
      have N' : News h0 env.locals h ((I + 1, o1) :: (I, o2) :: g (listOf (List.toArray r) c)) := N
      refine wpAny_mono (turn i ns[i] u r c T t t' h tk o1 o2 (List.getElem?_eq_getElem hlt) hr c1 c2 hT F N') (fun _ s2 h2 => wpAny_mono h2 (fun f s3 h3 => ?_) fun _ _ e => e) fun _ _ e => e
      obtain ⟨rfl, h', tk', u', r', c', rfl, F', N2, hr'⟩ := h3
      refine ⟨h', tk', turned x y u' m0, g (listOf (List.toArray r') c'), rfl, F', N2, fun p hp q hq => ?_, ⟨hk _, trivial⟩, ?_⟩
      · have h1 := hI _ p hp
        have hq' : q = (I + 1, o1) ∨ q = (I, o2) := by simpa using hq
        rcases hq' with rfl | rfl
        · exact Nat.ne_of_lt (Nat.lt_succ_of_lt h1)
        · exact Nat.ne_of_lt h1
      · exact rest_enum hk hI turn done d _ (i + 1) u' r' c' hv (by omega) hr'

theorem for_enum {elts : List PySem.Expr} {k : Nat} {pos : Pos} {l : Addr} {lo : Obj} {vs : List Value} {ns : List Int} {n : Nat} {m0 : Str → Option Value} {x y : Str} {g : Obj → List (Addr × Obj)} {rs : Nat → List Int} {r0 : List Value} {c0 : Nat}
    (hh : A.handled = none) (F : Fr h0 env.locals s.heap m0) (N : News h0 env.locals s.heap (g (listOf (List.toArray r0) c0))) (hk : ∀ o, (l, lo) ∈ g o) (hc : lo.cls = .type "list") (hd : lo.data = .seq vs.toArray n) (hi : IntsAre vs ns)
    (hg : ∀ o o', (g o).map (·.1) = (g o').map (·.1)) (hr : IntsAre r0 (rs 0))
    (turn : ∀ (I : Addr) (i : Nat) (p : Int) (u : Str → Option Value) (r : List Value) (c : Nat) (T : Addr) (t t' : Tok) (h : Heap) (tk : Nat) (o1 o2 : Obj), (∀ q ∈ g (listOf (List.toArray r0) c0), q.1 < I) → ns[i]? = some p → IntsAre r (rs i) → o1.cls = .type "enumerate" → o2.cls = .type "list_iterator" →
      IsTup h T #[.int (i : Int) t, .int p t'] → Fr h0 env.locals h (turned x y u m0) → News h0 env.locals h ((I + 1, o1) :: (I, o2) :: g (listOf (List.toArray r) c)) →
      wpAny (model prog w) A (assign (.Tuple elts k pos) env (.ref T)) (fun _ s2 => wpAny (model prog w) A (execs body env) (fun f s3 => f = .next ∧ EnumEnd h0 env.locals I o1 o2 x y m0 g (rs (i + 1)) { s with heap := h, toks := tk } s3) E s2) E { s with heap := h, toks := tk })
    (done : ∀ u r c h tk, IntsAre r (rs ns.length) → Fr h0 env.locals h (turned x y u m0) → News h0 env.locals h (g (listOf (List.toArray r) c)) → Q .next { s with heap := h, toks := tk }) :
    wpAny (model prog w) A (call (.type "enumerate") [.ref l]) (fun xv s1 => wpAny (model prog w) A (pyIter xv) (fun it s2 => TurnsAt prog w A h0 env (.Tuple elts k pos) body Q E it s2) E s1) E s := by
  refine ktu_enum (vs := vs) (xs := enumItems 0 vs) (lo := lo) hh F N (hk _) hc hd rfl fun I hI => ?_
  have e : turned x y m0 m0 = m0 := by
    funext z
    unfold turned
    split
    · rfl
    · split <;> rfl
  have hI' : ∀ o, ∀ p ∈ g o, p.1 < I := fun o p hp => by
    have h1 : p.1 ∈ (g (listOf (List.toArray r0) c0)).map (·.1) := by rw [hg _ o]; exact List.mem_map_of_mem hp
    obtain ⟨q, hq, hqe⟩ := List.mem_map.mp h1
    have := hI q hq
    rw [← hqe]
    exact this
  have h1 := rest_enum (prog := prog) (w := w) (A := A) (E := E) (s := s) (h0 := h0) (env := env) (body := body) (Q := Q) (elts := elts) (k := k) (pos := pos) (I := I) (l := l) (lo := lo) (m0 := m0) (x := x) (y := y) (g := g) (rs := rs) (ns := ns) hk hI'
    (fun i p u r c T t t' h tk o1 o2 => turn I i p u r c T t t' h tk o1 o2 hI) done ns.length vs 0 m0 r0 c0 (by rw [List.drop_zero]; exact hi) (by omega) hr
  rw [e] at h1
  exact h1
end
end My

namespace My
open Sw48

def setAll : List Nat → Nat → List Int → List Int
  | [], _, r => r
  | p :: o, k, r => setAll o (k + 1) (r.set p (k : Int))

theorem setAll_len : ∀ (o : List Nat) (k : Nat) (r : List Int), (setAll o k r).length = r.length
  | [], _, _ => rfl
  | p :: o, k, r => by unfold setAll; rw [setAll_len o, List.length_set]

theorem setAll_get : ∀ (o : List Nat) (k : Nat) (r : List Int) (i : Nat), o.Nodup → i < r.length →
    (setAll o k r)[i]? = if i ∈ o then some ((k + o.idxOf i : Nat) : Int) else r[i]?
  | [], k, r, i, _, _ => by simp [setAll]
  | p :: o, k, r, i, hn, hi => by
    have h0 := List.nodup_cons.mp hn
    unfold setAll
    rw [setAll_get o (k + 1) _ i h0.2 (by rw [List.length_set]; exact hi)]
    by_cases e : p = i
    · subst e
      rw [if_neg h0.1, if_pos (List.mem_cons_self), List.idxOf_cons_self, List.getElem?_set_self hi]
      rfl
    · have h1 : ¬ i = p := fun h => e h.symm
      rw [List.getElem?_set_ne e]
      by_cases m : i ∈ o
      · rw [if_pos m, if_pos (List.mem_cons_of_mem _ m), List.idxOf_cons, show (p == i) = false by simpa using e, cond_false]
        congr 2
        omega
      · rw [if_neg m, if_neg (by simp [m, h1])]

theorem range_nodup (n : Nat) : (List.range n).Nodup := List.nodup_range

theorem lv_rank_eq (xs : List Int) : PySw48.lv_rank xs = Sw48Neutral.ints (vec fun (i : Nat) => (order (words (Sw48Neutral.nats xs))).idxOf i) := rfl

theorem is_rank {xs l : List Int} (hl : l = PySw48.lv_order xs) : setAll (l.map Int.toNat) 0 (List.replicate 16 0) = PySw48.lv_rank xs := by
  rw [lv_order_eq] at hl
  have hl2 : l.map Int.toNat = order (words (Sw48Neutral.nats xs)) := by
    rw [hl]
    unfold Sw48Neutral.ints
    rw [List.map_map]
    exact List.map_id'' (fun x => by simp) _
  rw [hl2, lv_rank_eq]
  have hp := order_perm (words (Sw48Neutral.nats xs))
  rw [words_len] at hp
  generalize order (words (Sw48Neutral.nats xs)) = o at hp ⊢
  have hn : o.Nodup := hp.nodup_iff.mpr (range_nodup 16)
  have hlen : o.length = 16 := by rw [hp.length_eq, List.length_range]
  refine List.ext_getElem? fun i => ?_
  by_cases hi : i < 16
  · rw [setAll_get o 0 _ i hn (by simpa using hi), if_pos (hp.mem_iff.mpr (List.mem_range.mpr hi))]
    unfold Sw48Neutral.ints vec
    rw [List.getElem?_map, List.getElem?_map, List.getElem?_range hi]
    have : o.idxOf i ≤ 16 := hlen ▸ List.idxOf_le_length
    simp only [Option.map_some]
    congr 2
    omega
  · rw [List.getElem?_eq_none (by rw [setAll_len]; simp; omega), List.getElem?_eq_none (by simp [Sw48Neutral.ints, vec]; omega)]
end My

open PySem PySem.W PyProof.Rows
set_option Elab.async false
set_option maxRecDepth 100000
set_option maxHeartbeats 4000000
namespace My
theorem setAll_snoc : ∀ (l : List Nat) (p k : Nat) (r : List Int), setAll (l ++ [p]) k r = (setAll l k r).set p ((k + l.length : Nat) : Int)
  | [], p, k, r => rfl
  | q :: l, p, k, r => by
    show setAll (l ++ [p]) (k + 1) (r.set q (k : Int)) = (setAll l (k + 1) (r.set q (k : Int))).set p _
    rw [setAll_snoc l p (k + 1)]
    congr 2
    rw [List.length_cons]
    omega

theorem flat_zero (k : Nat) : (List.replicate ((k : Int)).toNat [(0 : Int)]).flatten = List.replicate k 0 := by
  rw [Int.toNat_natCast]
  induction k with
  | zero => rfl
  | succ k ih => rw [List.replicate_succ, List.flatten_cons, ih, List.replicate_succ]; rfl

section
variable {prog : Program} {w : World} {A : Around} {E : Value → Shared → Prop} {s : Shared} {h0 : Heap} {env : Env} {body : List Stmt} {Q : Flow → Shared → Prop}

theorem for_rank {nm : Str} {elts : List PySem.Expr} {kk : Nat} {pos : Pos} {l D : Addr} {lo : Obj} {vs : List Value} {ns q0 : List Int} {n k : Nat} {gg : Int → Int} {m0 : Str → Option Value} (x y : Str) {news : List (Addr × Obj)} {g : Obj → List (Addr × Obj)} {r0 : List Value} {c0 : Nat}
    (P : Placed gg k ns) (hh : A.handled = none) (F : Fr h0 env.locals s.heap m0) (N : News h0 env.locals s.heap news) (_hD : m0 nm = some (.ref D)) (U : UpdF D (listOf (List.toArray r0) c0) news g) (hm : (l, lo) ∈ news) (hl : l ≠ D) (hc : lo.cls = .type "list") (hd : lo.data = .seq vs.toArray n) (hi : IntsAre vs ns)
    (hr : IntsAre r0 q0) (hq : q0 = List.replicate k 0)
    (turn : ∀ (I : Addr) (i : Nat) (p : Int) (u : Str → Option Value) (r : List Value) (q : List Int) (c : Nat) (T : Addr) (t t' : Tok) (h : Heap) (tk : Nat) (o1 o2 : Obj), (∀ z ∈ news, z.1 < I) → 0 ≤ p → p < (q.length : Int) → q.length ≤ k → IntsAre r q → o1.cls = .type "enumerate" → o2.cls = .type "list_iterator" →
      IsTup h T #[.int (i : Int) t, .int p t'] → Fr h0 env.locals h (turned x y u m0) → News h0 env.locals h ((I + 1, o1) :: (I, o2) :: g (listOf (List.toArray r) c)) →
      wpAny (model prog w) A (assign (.Tuple elts kk pos) env (.ref T)) (fun _ s2 => wpAny (model prog w) A (execs body env) (fun f s3 => f = .next ∧ EnumEnd h0 env.locals I o1 o2 x y m0 g (q.set p.toNat (i : Int)) { s with heap := h, toks := tk } s3) E s2) E { s with heap := h, toks := tk })
    (done : ∀ u r c h tk, IntsAre r (setAll (ns.map Int.toNat) 0 (List.replicate k 0)) → Fr h0 env.locals h (turned x y u m0) → News h0 env.locals h (g (listOf (List.toArray r) c)) → Q .next { s with heap := h, toks := tk }) :
    wpAny (model prog w) A (call (.type "enumerate") [.ref l]) (fun xv s1 => wpAny (model prog w) A (pyIter xv) (fun it s2 => TurnsAt prog w A h0 env (.Tuple elts kk pos) body Q E it s2) E s1) E s := by
  obtain ⟨pre, post, e, hg, hpre, hpost⟩ := U.split
  subst hq
  have eg : news = g (listOf (List.toArray r0) c0) := by rw [hg]; exact e
  have hlen : ∀ i, (setAll ((ns.take i).map Int.toNat) 0 (List.replicate k 0)).length = k := fun i => by rw [setAll_len, List.length_replicate]
  refine for_enum (x := x) (y := y) (g := g) (rs := fun i => setAll ((ns.take i).map Int.toNat) 0 (List.replicate k 0)) (r0 := r0) (c0 := c0) hh F (eg ▸ N) (lo := lo) (fun o => ?_) hc hd hi (fun o o' => ?_) hr ?_ ?_
  · rw [hg]
    rw [e] at hm
    rcases List.mem_append.mp hm with h | h
    · exact List.mem_append_left _ h
    · rcases List.mem_cons.mp h with h | h
      · exact absurd (congrArg Prod.fst h) hl
      · exact List.mem_append_right _ (.tail _ h)
  · rw [hg, hg]
    simp
  · intro I i p u r c T t t' h tk o1 o2 hI hp hr' c1 c2 hT F' N'
    have hmem := rangeInts_mem (P.perm.mem_iff.mp (List.mem_of_getElem? hp))
    have hset : setAll ((ns.take (i + 1)).map Int.toNat) 0 (List.replicate k 0) = (setAll ((ns.take i).map Int.toNat) 0 (List.replicate k 0)).set p.toNat (i : Int) := by
      have hil : i < ns.length := (List.getElem?_eq_some_iff.mp hp).1
      rw [List.take_add_one, hp, Option.toList_some, List.map_append]
      show setAll (_ ++ [p.toNat]) 0 _ = _
      rw [setAll_snoc, List.length_map, List.length_take, Nat.zero_add, Nat.min_eq_left (Nat.le_of_lt hil)]
    have h1 := turn I i p u r _ c T t t' h tk o1 o2 (fun z hz => hI z (eg ▸ hz)) hmem.1 (by rw [hlen]; exact hmem.2) (by rw [hlen]; exact Nat.le_refl _) hr' c1 c2 hT F' N'
    simp only [hset]
    exact h1
  · intro u r c h tk hr' F' N'
    simp only [List.take_length] at hr'
    exact done u r c h tk hr' F' N'
end
end My

open PySem PySem.W PyProof.Rows
set_option Elab.async false

local macro_rules
  | `(tactic| k_behindS $G $ho $hd $hcd $hD $hmg $hpre $hlay $hrd $hwl $hlo $cd) => `(tactic| (
    kn_any $hmg; have X := (Ground.X $G).1; have V := (Ground.X $G).2; refine Ground.open $G ?_; intro T B D TE TW; (try (refine guard_noD D (by decide +kernel) ?_; clear D)); kn_lay T $hmg $ho $hd $cd; clear $hmg; wrow_argsS $hpre $hlay $hrd $hwl $hlo;
    all_goals ((first | refine callC_kw (enter_call ?_) | refine enter_call ?_); w_top on; kn_posts; w_call any $ho $hd $hcd $hD T F; clear $hd; kn_ghosts F T; k_drop; skip)))
local macro_rules | `(tactic| walk_at "call type:range") => `(tactic| (k_here; (with_reducible show wpAny _ _ (call (Value.type _) [Value.int _ _]) _ _ _); (with_unfolding_all refine' My.rangeNews ?k1 ?k2 ?_; (case k1 => k_asm); (case k2 => k_asm); k_whole); intro R' t1' u1' v1' h' tk' F' N' l1; (try k_lt l1)))
local macro_rules | `(tactic| walk_at "call builtin:sorted") => `(tactic| (k_here; ksk_kw; ksk_show; (with_unfolding_all refine' My.sortedRange _ ?hh ?k1 ?k2 ?k3 ?kk ?k5 ?a1 ?a2 ?a3 (fun n' t' h' tk' own' b1' b2' F' N' => ?_) (fun D' v' n' c' h' tk' F' N' l1 i' e' p' => ?_); (case hh => rfl); (case k1 => k_asm); (case k2 => k_asm); (case k3 => k_mem); (case kk => exact rfl); (case k5 => ((have hb9 := len_ints_list (by lay_of)); omega)); (case a1 => ksk_a1); (case a2 => (intro x'; ksk_a2)); (case a3 => (intro x'; ksk_a3))); (all_goals (try simp only [List.nil_append, List.cons_append, List.append_nil] at N')); (all_goals (try k_lt l1)); ksk_order))
local macro_rules | `(tactic| walk_at "exec For Tuple Call cons nil") => `(tactic| (k_here; (rename Fr _ _ _ _ => lF'); (with_unfolding_all refine' For_turns lF' ?_; k_whole)))
namespace My
theorem ints_rep (n : Nat) (t : Tok) : IntsAre (List.replicate n [Value.int 0 t]).flatten (List.replicate n 0) := by
  induction n with
  | zero => exact .nil
  | succ n ih => exact .cons 0 t ih
theorem rep_nat (k : Nat) : List.replicate ((k : Int)).toNat (0 : Int) = List.replicate k 0 := by rw [Int.toNat_natCast]
end My
local macro_rules | `(tactic| walk_at "call type:enumerate") => `(tactic| (k_here; (with_reducible show wpAny _ _ (call (Value.type _) [Value.ref _]) (fun xv s₁ => wpAny _ _ (pyIter xv) (fun it s₂ => TurnsAt _ _ _ _ _ _ _ _ _ it s₂) _ s₁) _ _); (with_unfolding_all refine' My.for_rank (nm := "ranks") "rank" "place" ?zzP ?zzhh ?zzk1 ?zzk2 ?zzhD ?zzU ?zzhm ?zzhl ?zzhc ?zzhd ?zzhi ?zzhr ?zzhq ?zzturn ?zzdone; (case zzhh => rfl); (case zzk1 => k_asm); (case zzk2 => k_asm); (case zzhD => rfl); (case zzP => with_reducible assumption); (case zzhm => k_mem); (case zzhc => rfl); (case zzhd => rfl); (case zzhi => with_reducible assumption); (case zzU => k_updF); (case zzhl => k_ne); (case zzhr => exact My.ints_rep _ _); (case zzhq => exact My.rep_nat _)); (case' zzturn => (intro I' i' p' u' r' q' c' T' t1' t2' h' tk' o1' o2' l1 b1' b2' b3' i1' c1' c2' hT' F' N'; (try dsimp only at N'); (try k_lt l1))); (case' zzdone => (intro u' r' c' h' tk' i1' F' N'; (try dsimp only at N')))))
local macro_rules | `(tactic| walk_at "And") => `(tactic| (refine And.intro rfl ?_))
local macro_rules | `(tactic| walk_at "EnumEnd") => `(tactic| (refine' My.EnumEnd.intro ?yF ?yN ?yI ?ye ?ym; (case yF => k_asm); (case yN => k_asm); (case yI => with_reducible assumption); (case ye => rfl); (case ym => (intro z' h1' h2'; simp [h1', h2', My.turned]))))
namespace My
theorem rangeInts_eq (k : Nat) : rangeInts 0 1 k = (List.range k).map fun (i : Nat) => (i : Int) := by
  unfold rangeInts
  exact List.map_congr_left fun i _ => by omega
theorem rank_done {xs l : List Int} (p : Placed (fun n => xs.getD n.toNat 0) xs.length l) (least : 16 ≤ xs.length) (most : xs.length ≤ 16) (items : ∀ x ∈ xs, 0 ≤ x ∧ x ≤ 4294967295) : setAll (l.map Int.toNat) 0 (List.replicate xs.length 0) = PySw48.lv_rank xs := by
  have e : xs.length = 16 := by omega
  have hp := p.perm
  rw [e, rangeInts_eq] at hp
  rw [e]
  exact is_rank (is_order items (fun i _ => rfl) hp p.rise)
end My

set_option maxRecDepth 100000 in
set_option maxHeartbeats 8000000 in
theorem PySem.Challenge.cw_lanesort_s02_lv_rank_holds : PySem.Challenge.rw_lanesort_s02_lv_rank.Holds := by
  open_ks_part with [.list [.int 0, .int 0, .int 0, .int 0, .int 0, .int 0, .int 0, .int 0, .int 0, .int 0, .int 0, .int 0, .int 0, .int 0, .int 0, .int 0]]
  os_ints
  refine same_iff.mpr ?_
  rw [os_ofPys_ints]
  refine congrArg (fun l => WData.list (List.map WData.int l)) ?_
  exact My.rank_done (by assumption) (by assumption) (by assumption) (by assumption)
#print axioms PySem.Challenge.cw_lanesort_s02_lv_rank_holds
