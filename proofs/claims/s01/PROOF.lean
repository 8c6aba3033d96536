import PyProof.Rows.All
import Wide.All
import OpenK.AllK
import Wide.FinOn
import KE.OsGo
import KE.OsEnd
import KE.OsMore
import KE.KSortKeySt
import KE.KSortRegAny
import PyProof.ListRange
import PyProof.Rows.SortShell
import PyProof.Rows.GenSrcRange
import PyProof.Rows.NewsSeq
import PySem.Challenge.RW_lanesort_s01_lv_order
namespace My
open Sw48

/-- by what g tells, then by the place; not strictly -/
def W (g : Int → Int) (a b : Int) : Prop := g a < g b ∨ (g a = g b ∧ a ≤ b)

theorem w_of {g : Int → Int} {src l : List Int} (ho : l.Pairwise (fun x y => g x ≤ g y)) (hst : ∀ z, l.filter (fun x => g x == z) = src.filter (fun x => g x == z)) (hs : src.Pairwise (· ≤ ·)) : l.Pairwise (W g) := by
  rw [List.pairwise_iff_forall_sublist] at *
  intro a b hab
  have h1 : g a ≤ g b := ho hab
  by_cases e : g a = g b
  · have h2 : ([a, b].filter (fun x => g x == g a)).Sublist (l.filter (fun x => g x == g a)) := hab.filter _
    have h3 : [a, b].filter (fun x => g x == g a) = [a, b] := by simp [e]
    rw [h3, hst] at h2
    exact .inr ⟨e, hs (h2.trans List.filter_sublist)⟩
  · exact .inl (by omega)

theorem same_of {g : Int → Int} {l r : List Int} (h1 : l.Pairwise (W g)) (h2 : r.Pairwise (W g)) (hp : l.Perm r) : l = r := by
  refine List.Perm.eq_of_pairwise ?_ h1 h2 hp
  intro a b _ _ u v
  unfold W at u v
  omega

/-! the specification's side -/
theorem cell_vec (f : Nat → Nat) (i : Nat) (hi : i < 16) : (vec f).getD i 0 = f i % 2 ^ 32 := by
  unfold vec
  rw [List.getD_eq_getElem?_getD, List.getElem?_map, List.getElem?_range hi]
  rfl

theorem key_u32 (x : Nat) : Sw48.key 2 x = (x : Int) := by
  unfold Sw48.key value
  rw [if_neg (by decide), if_neg (by intro h; exact absurd h.1 (by decide))]

theorem lane_of {xs : List Int} (hlo : ∀ x ∈ xs, 0 ≤ x ∧ x ≤ 4294967295) (i : Nat) : ((lane (Sw48Neutral.nats xs) i : Nat) : Int) = xs.getD i 0 := by
  unfold lane Sw48Neutral.nats
  rw [List.getD_eq_getElem?_getD, List.getD_eq_getElem?_getD, List.getElem?_map]
  cases h : xs[i]? with
  | none => rfl
  | some x =>
    have hx := hlo x (List.mem_of_getElem? h)
    simp only [Option.map_some, Option.getD_some]
    omega

theorem lane_lt (x : Vec) (i : Nat) : lane x i < 2 ^ 32 := Nat.mod_lt _ (by decide)

theorem key_words {xs : List Int} (hlo : ∀ x ∈ xs, 0 ≤ x ∧ x ≤ 4294967295) (i : Nat) (hi : i < 16) : (words (Sw48Neutral.nats xs)).key i = xs.getD i 0 := by
  show Sw48.key 2 ((vec (lane (Sw48Neutral.nats xs))).getD i 0) = _
  rw [cell_vec _ i hi, key_u32, Nat.mod_eq_of_lt (lane_lt _ _), lane_of hlo]

theorem before_one (c : Col) (i j : Nat) : before [(false, c)] i j = if c.key i = c.key j then decide (i < j) else decide (c.key i < c.key j) := by
  simp [before]

def le1 (c : Col) (i j : Nat) : Bool := !before [(false, c)] j i
theorem le1_iff (c : Col) (i j : Nat) : le1 c i j = true ↔ c.key i < c.key j ∨ (c.key i = c.key j ∧ i ≤ j) := by
  unfold le1
  rw [before_one]
  by_cases e : c.key j = c.key i
  · rw [if_pos e]; simp; omega
  · rw [if_neg e]; simp; omega

theorem order_pairwise (c : Col) : (order c).Pairwise (fun i j => c.key i < c.key j ∨ (c.key i = c.key j ∧ i ≤ j)) := by
  have h := List.pairwise_mergeSort (le := le1 c) (fun a b d h1 h2 => by rw [le1_iff] at *; omega) (fun a b => by
    have := le1_iff c a b
    have := le1_iff c b a
    cases h1 : le1 c a b <;> cases h2 : le1 c b a <;> simp_all <;> omega) (List.range c.rows.length)
  exact h.imp fun {a b} h => (le1_iff c a b).mp h

theorem order_perm (c : Col) : (order c).Perm (List.range c.rows.length) := List.mergeSort_perm _ _

theorem words_len (x : Vec) : (words x).rows.length = 16 := by simp [words, vec]

theorem lv_order_eq (xs : List Int) : PySw48.lv_order xs = Sw48Neutral.ints (order (words (Sw48Neutral.nats xs))) := rfl

theorem is_order {xs l : List Int} {g : Int → Int} (hlo : ∀ x ∈ xs, 0 ≤ x ∧ x ≤ 4294967295) (hg : ∀ i : Nat, i < 16 → g (i : Int) = xs.getD i 0)
    (hp : l.Perm ((List.range 16).map fun (i : Nat) => (i : Int))) (hw : l.Pairwise (W g)) : l = PySw48.lv_order xs := by
  rw [lv_order_eq]
  refine same_of hw ?_ (hp.trans ?_)
  · unfold Sw48Neutral.ints
    rw [List.pairwise_map]
    refine (order_pairwise _).imp_of_mem fun {i j} hi hj h => ?_
    have hi' := (order_perm _).mem_iff.mp hi
    have hj' := (order_perm _).mem_iff.mp hj
    rw [words_len, List.mem_range] at hi' hj'
    rw [key_words hlo i hi', key_words hlo j hj'] at h
    unfold W
    rw [hg i hi', hg j hj']
    omega
  · have h := (order_perm (words (Sw48Neutral.nats xs))).map (fun (i : Nat) => (i : Int))
    rw [words_len] at h
    exact h.symm
end My

open PySem PyProof.Rows
set_option Elab.async false
set_option maxRecDepth 100000
set_option maxHeartbeats 4000000
namespace My
theorem rangeInts_up (k : Nat) : (rangeInts 0 1 k).Pairwise (· ≤ ·) := by
  unfold rangeInts
  rw [List.pairwise_map]
  exact List.pairwise_lt_range.imp fun {a b} h => by omega

theorem rangeInts_mem {k : Nat} {i : Int} (h : i ∈ rangeInts 0 1 k) : 0 ≤ i ∧ i < k := by
  unfold rangeInts at h
  obtain ⟨j, hj, rfl⟩ := List.mem_map.mp h
  have := List.mem_range.mp hj
  omega

section
variable {prog : Program} {w : World} {A : Around} {E : Value → Shared → Prop} {s : Shared} {h0 : Heap} {L : Addr} {m : Str → Option Value} {news : List (Addr × Obj)}

abbrev rangeObj (n : Int) (t u v : Tok) : Obj := { cls := .type "range", dict := none, data := .fields #[.int 0 t, .int n u, .int 1 v], slots := #[] }

theorem rangeNews {Q : Value → Shared → Prop} {n : Int} {t : Tok} (F : Fr h0 L s.heap m) (N : News h0 L s.heap news)
    (h : ∀ R t' u' v' h' tk, Fr h0 L h' m → News h0 L h' ((R, rangeObj n t' u' v') :: news) → (∀ q ∈ news, q.1 < R) → Q (.ref R) { s with heap := h', toks := tk }) :
    wpAny (model prog w) A (call (.type "range") [.int n t]) Q E s := by
  refine range1_rows F N fun h' tk t1 u1 v1 hr F' N' _ => ?_
  have hL : L < s.heap.objs.size := F.ns.lt
  refine h s.heap.objs.size t1 u1 v1 h' tk F' (fun p hp => ?_) fun q hq => Heap.lt_size (N q hq).1
  rcases List.mem_cons.mp hp with rfl | hp
  · exact ⟨hr, Nat.ne_of_gt hL, Heap.get?_none_of_le (Nat.le_trans F.above (Nat.le_of_lt hL))⟩
  · exact N' p hp

theorem itemsOf_ints : ∀ {n : Nat} {acc : Array Value}, ItemsOf (fun i v => ∃ t, v = .int (0 + (i : Int) * 1) t) acc n → IntsAre acc.toList (rangeInts 0 1 n) := by
  intro n acc h
  have e : acc.toList.map numOf = rangeInts 0 1 n := by
    refine List.ext_getElem? fun j => ?_
    rw [List.getElem?_map]
    by_cases hj : j < n
    · have hj' : j < acc.size := by rw [h.1]; exact hj
      have hv : acc[j]? = some acc[j] := Array.getElem?_eq_getElem hj'
      obtain ⟨t, ht⟩ := h.2 j _ hv
      have hl : acc.toList[j]? = some acc[j] := by simpa using hv
      rw [hl, rangeInts_get hj, ht]
      rfl
    · rw [List.getElem?_eq_none (by rw [Array.length_toList, h.1]; omega), List.getElem?_eq_none (by rw [rangeInts_length]; omega)]
      rfl
  rw [← e]
  refine intsAre_map _ fun x hx => ?_
  obtain ⟨j, hj⟩ := List.mem_iff_getElem?.mp hx
  obtain ⟨t, ht⟩ := h.2 j x (by simpa using hj)
  exact ⟨_, t, ht⟩

theorem collectRange {r : Addr} {n : Int} {t u v : Tok} {k : Nat} {Q : List Value → Shared → Prop} (hh : A.handled = none) (hr : IsRange s.heap r 0 n 1 t u v) (hk : n = (k : Int)) (hb : k ≤ 2 ^ 24)
    (h : ∀ h' tk vs, (∀ b o, s.heap.get? b = some o → h'.get? b = some o) → s.heap.objs.size ≤ h'.objs.size → IntsAre vs (rangeInts 0 1 k) → Q vs { s with heap := h', toks := tk }) :
    wpAny (model prog w) A (collect (.ref r)) Q E s := by
  subst hk
  have hsm : Builtin.Range.small 0 (k : Int) 1 = true := small_one (by omega) (by omega) (by omega) (by omega)
  have hn : Builtin.Range.rangeSize 0 (k : Int) 1 = (k : Int) := by rw [rangeSize_one]; split <;> omega
  unfold collect
  refine wpAny_bind <| wpAny_runValue <| codeAny_builtin entry_proto_collect' ?_
  show wpAny _ _ (newList [] >>= fun l => again (.builtin "list.__iadd__" ⟨[l, .ref r], []⟩)) _ _ s
  refine wpAny_bind <| wpAny_newList (wpAny_pure ⟨Code.quiet_builtin _ (by decide +kernel), ?_⟩)
  refine codeAny_builtin entry_list_iadd' ?_
  have hS : (s.heap.push (seqObj "list" #[] 0)).get? s.heap.objs.size = some (seqObj "list" #[] 0) := Heap.get?_push_size _ rfl
  refine wpAny_extend_range (s := { s with heap := s.heap.push (seqObj "list" #[] 0) }) (A := A) (R := fun r s' => match r with
    | .ok (.ret v) => wpAny (model prog w) A (match v with
      | .ref a => do
        let o ← load a
        match o.data with
        | .seq xs _ => pure xs.toList
        | _ => unsupported "internal:collect"
      | _ => unsupported "internal:collect") Q E s'
    | .ok _ => False
    | .error e => E e s') hh (Heap.get?_push_of_some _ hr) hsm hn hb s.heap.objs.size (.ref s.heap.objs.size) 0 hS fun h' tk acc c hkeep hS' hacc => ?_
  refine wpAny_bind (wpAny_load hS' ?_)
  refine wpAny_pure (h h' tk acc.toList (fun b o e => hkeep b o (Nat.ne_of_lt (Heap.lt_size e)) (Heap.get?_push_of_some _ e)) (Nat.le_of_lt (Heap.lt_size hS')) (itemsOf_ints hacc))

end
end My

open PySem PySem.W PyProof.Rows
set_option Elab.async false
set_option maxRecDepth 100000
set_option maxHeartbeats 4000000

namespace My
/-- the places below k, in g's order -/
structure Placed (g : Int → Int) (k : Nat) (l : List Int) : Prop where
  perm : l.Perm (rangeInts 0 1 k)
  rise : l.Pairwise (W g)

/-- what a stable sort of ints' places by keys gives back, read as ints -/
theorem placed_of {g : Int → Int} {k : Nat} {vs out : List Value} (hv : IntsAre vs (rangeInts 0 1 k)) (ko : KskOutSt false ((rangeInts 0 1 k).map g) vs out) :
    IntsAre out (out.map numOf) ∧ (out.map numOf).length = k ∧ Placed g k (out.map numOf) := by
  obtain ⟨ps, hp, rfl, hs, hst⟩ := ko
  have hzip : ∀ {l : List Value} {ns : List Int}, IntsAre l ns → ∀ p ∈ (ns.map g).zip l, (∃ i t, p.2 = Value.int i t) ∧ p.1 = g (numOf p.2) := by
    intro l ns h
    induction h with
    | nil => intro p hp; simp at hp
    | cons i t _ ih =>
      intro p hp
      rw [List.map_cons, List.zip_cons_cons] at hp
      rcases List.mem_cons.mp hp with rfl | hp
      · exact ⟨⟨i, t, rfl⟩, rfl⟩
      · exact ih p hp
  have hall : ∀ p ∈ ps, (∃ i t, p.2 = Value.int i t) ∧ p.1 = g (numOf p.2) := fun p h => hzip hv p (hp.mem_iff.mp h)
  have hsnd : ((((rangeInts 0 1 k).map g).zip vs).map Prod.snd).map numOf = rangeInts 0 1 k := by
    rw [List.map_snd_zip (by rw [List.length_map, hv.length]; exact Nat.le_refl _), hv.nums]
  have hperm : ((ps.map Prod.snd).map numOf).Perm (rangeInts 0 1 k) := by
    have h1 := (hp.map Prod.snd).map numOf
    rw [hsnd] at h1
    exact h1
  refine ⟨intsAre_map _ fun x hx => ?_, by rw [hperm.length_eq, rangeInts_length], hperm, ?_⟩
  · obtain ⟨p, hp', rfl⟩ := List.mem_map.mp hx
    exact (hall p hp').1
  · refine w_of (src := rangeInts 0 1 k) ?_ (fun z => ?_) (rangeInts_up k)
    · rw [List.pairwise_map, List.pairwise_map]
      refine hs.imp_of_mem fun {p q} hp' hq' hr => ?_
      rw [← (hall p hp').2, ← (hall q hq').2]
      simpa using hr
    · have e1 : ∀ l : List (Int × Value), (∀ p ∈ l, p.1 = g (numOf p.2)) → ((l.map Prod.snd).map numOf).filter (fun x => g x == z) = ((l.filter (fun p => p.1 == z)).map Prod.snd).map numOf := by
        intro l hl
        induction l with
        | nil => rfl
        | cons p l ih =>
          have hp' := hl p (.head _)
          have ih' := ih fun q hq => hl q (.tail _ hq)
          simp only [List.map_cons, List.filter_cons, ← hp']
          split
          · rw [List.map_cons, List.map_cons, ih']
          · exact ih'
      rw [e1 ps fun p h => (hall p h).2, hst z, ← e1 _ fun p h => (hzip hv p h).2, hsnd]

section
variable {prog : Program} {w : World} {A : Around} {E : Value → Shared → Prop} {s : Shared} {h0 : Heap} {L : Addr} {m : Str → Option Value} {news : List (Addr × Obj)}

theorem sortedRange {f : Value} {kw : List (Str × Value)} {R : Addr} {n : Int} {t u v : Tok} {k : Nat} {Q : Value → Shared → Prop} (g : Int → Int)
    (hh : A.handled = none) (F : Fr h0 L s.heap m) (N : News h0 L s.heap news) (hR : (R, rangeObj n t u v) ∈ news) (hk : n = (k : Int)) (hb : k ≤ 2 ^ 20)
    (ha1 : argsOk "sorted" ⟨[.ref R], kw⟩) (ha2 : ∀ x, argsOk "list.sort" ⟨[.ref x], kw⟩) (ht : ∀ x, Builtin.«list.sort» ⟨[.ref x], kw⟩ = ksk_tree x f false)
    (turn : ∀ (i : Int) (t : Tok) (h : Heap) (tk : Nat) (own : List (Addr × Obj)), 0 ≤ i → i < n → Fr h0 L h m → News h0 L h (news ++ own) →
      wpAny (model prog w) A.in1.in1 (call f [.int i t]) (KskEnd h0 L m (news ++ own) (g i) { s with heap := h, toks := tk }) (fun _ _ => False) { s with heap := h, toks := tk })
    (done : ∀ D vs' ns' c h' tk, Fr h0 L h' m → News h0 L h' ((D, PySem.W.listOf (List.toArray vs') c) :: news) → (∀ q ∈ news, q.1 < D) → IntsAre vs' ns' → ns'.length = k → Placed g k ns' → Q (.ref D) { s with heap := h', toks := tk }) :
    wpAny (model prog w) A (call (.builtin "sorted") [.ref R] kw) Q E s := by
  refine call_function_entry_kw kind_sorted plain_sorted entry_sorted ha1 ?_
  unfold Builtin.«sorted»
  refine wpAny_bind (m := checkCount "sorted" 1 1 _) <| wpAny_pure ?_
  refine wpAny_bind <| collectRange (A := A.in1) hh (N _ hR).1 hk (by omega) fun h1 tk1 vs hkeep hsz hv => ?_
  have hvl : vs.length = k := by rw [hv.length, rangeInts_length]
  refine wpAny_bind <| wpAny_newList ?_ (by rw [sizeLine_eq]; omega)
  have keep : ∀ b o, s.heap.get? b = some o → (h1.push (seqObj "list" vs.toArray 0)).get? b = some o := fun b o e => Heap.get?_push_of_some _ (hkeep b o e)
  have hnew : (h1.push (seqObj "list" vs.toArray 0)).get? h1.objs.size = some (seqObj "list" vs.toArray 0) := Heap.get?_push_size _ rfl
  have hL : L < h1.objs.size := Nat.lt_of_lt_of_le F.ns.lt hsz
  refine wpAny_bind <| wpAny_holding <| wpAny_call_entry_kw slot_list_sort ⟨_, hnew, rfl⟩ entry_list_sort ?body (ha2 _)
  case body =>
    have ht' := ht h1.objs.size
    show wpAny (model prog w) A.in1.in1 (Builtin.«list.sort» ⟨[.ref h1.objs.size], kw⟩) _ _ { s with heap := h1.push (seqObj "list" vs.toArray 0), toks := tk1 }
    rw [ht']
    refine ksk_sortSt (s := { s with heap := h1.push (seqObj "list" vs.toArray 0), toks := tk1 }) (kz := (rangeInts 0 1 k).map g) (F.kept keep) (N.grown keep) hnew (Nat.ne_of_gt hL)
      (Heap.get?_none_of_le (Nat.le_trans F.above (Nat.le_of_lt hL))) (fun p hp => Nat.ne_of_lt (Nat.lt_of_lt_of_le (Heap.lt_size (N p hp).1) hsz)) (by rw [List.length_map, rangeInts_length, hvl]) (by rw [sizeLine_eq]; omega)
      (fun i x y hx hy h tk own F' N' => ?_) fun h' tk out c F' N' ko => ⟨_, rfl, ?_⟩
    · rw [List.getElem?_map] at hy
      cases q : (rangeInts 0 1 k)[i]? with
      | none => rw [q] at hy; simp at hy
      | some z =>
        rw [q] at hy
        have hy' : some (g z) = some y := hy
        cases hy'
        obtain ⟨t', ht2⟩ := hv.get i z q
        rw [ht2] at hx
        cases hx
        have hz := rangeInts_mem (List.mem_of_getElem? q)
        exact turn z t' h tk own hz.1 (by omega) F' N'
    · obtain ⟨hI, hl, hP⟩ := placed_of hv ko
      refine wpAny_pure ⟨_, rfl, ?_⟩
      exact done _ out.toList _ c h' tk F' (by simpa using N') (fun q hq => Nat.lt_of_lt_of_le (Heap.lt_size (N q hq).1) hsz) hI hl hP
end
end My

open PySem PySem.W PyProof.Rows
set_option Elab.async false

local macro_rules
  | `(tactic| k_behindS $G $ho $hd $hcd $hD $hmg $hpre $hlay $hrd $hwl $hlo $cd) => `(tactic| (
    kn_any $hmg; have X := (Ground.X $G).1; have V := (Ground.X $G).2; refine Ground.open $G ?_; intro T B D TE TW; (try (refine guard_noD D (by decide +kernel) ?_; clear D)); kn_lay T $hmg $ho $hd $cd; clear $hmg; wrow_argsS $hpre $hlay $hrd $hwl $hlo;
    all_goals ((first | refine callC_kw (enter_call ?_) | refine enter_call ?_); w_top on; kn_posts; w_call any $ho $hd $hcd $hD T F; clear $hd; kn_ghosts F T; k_drop; skip)))
local macro_rules | `(tactic| walk_at "call type:range") => `(tactic| (k_here; (with_reducible show wpAny _ _ (call (Value.type _) [Value.int _ _]) _ _ _); (with_unfolding_all refine' My.rangeNews ?k1 ?k2 ?_; (case k1 => k_asm); (case k2 => k_asm); k_whole); intro R' t1' u1' v1' h' tk' F' N' l1; (try k_lt l1)))
local macro_rules | `(tactic| walk_at "call builtin:sorted") => `(tactic| (k_here; ksk_kw; ksk_show; (with_unfolding_all refine' My.sortedRange _ ?hh ?k1 ?k2 ?k3 ?kk ?k5 ?a1 ?a2 ?a3 (fun n' t' h' tk' own' b1' b2' F' N' => ?_) (fun D' v' n' c' h' tk' F' N' l1 i' e' p' => ?_); (case hh => rfl); (case k1 => k_asm); (case k2 => k_asm); (case k3 => k_mem); (case kk => exact rfl); (case k5 => ((have hb9 := len_ints_list (by lay_of)); omega)); (case a1 => ksk_a1); (case a2 => (intro x'; ksk_a2)); (case a3 => (intro x'; ksk_a3))); (all_goals (try simp only [List.nil_append, List.cons_append, List.append_nil] at N')); (all_goals (try k_lt l1)); ksk_order))

namespace My
theorem rangeInts_eq (k : Nat) : rangeInts 0 1 k = (List.range k).map fun (i : Nat) => (i : Int) := by
  unfold rangeInts
  exact List.map_congr_left fun i _ => by omega
theorem order_done {xs l : List Int} (p : Placed (fun n => xs.getD n.toNat 0) xs.length l) (least : 16 ≤ xs.length) (most : xs.length ≤ 16) (items : ∀ x ∈ xs, 0 ≤ x ∧ x ≤ 4294967295) : l = PySw48.lv_order xs := by
  have e : xs.length = 16 := by omega
  have hp := p.perm
  rw [e, rangeInts_eq] at hp
  exact is_order items (fun i _ => rfl) hp p.rise
end My

set_option maxRecDepth 100000 in
set_option maxHeartbeats 8000000 in
theorem PySem.Challenge.cw_lanesort_s01_lv_order_holds : PySem.Challenge.rw_lanesort_s01_lv_order.Holds := by
  open_ks_part with [.list [.int 0, .int 0, .int 0, .int 0, .int 0, .int 0, .int 0, .int 0, .int 0, .int 0, .int 0, .int 0, .int 0, .int 0, .int 0, .int 0]]
  os_ints
  refine same_iff.mpr ?_
  rw [os_ofPys_ints]
  refine congrArg (fun l => WData.list (List.map WData.int l)) ?_
  exact My.order_done (by assumption) (by assumption) (by assumption) (by assumption)
#print axioms PySem.Challenge.cw_lanesort_s01_lv_order_holds
