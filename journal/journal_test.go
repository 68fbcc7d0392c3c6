package journal_test

import (
	"fmt"
	"math"
	"math/rand"
	"reflect"
	"slices"
	"strings"
	"testing"

	"stowage/api"
	"stowage/journal"
	"stowage/record"
)

const (
	maxSeq   = 1 << 40
	maxCount = 64
)

// wild are numbers that no Seq may be, but for the Seq of a journal to which something is added.
var wild = []int{0, -1, -2, -maxSeq, maxSeq + 1, maxSeq + 2, 2 * maxSeq, 1 << 41, 1 << 62, math.MinInt32, math.MinInt, math.MinInt + 1, math.MaxInt - 1, math.MaxInt}

// mayBe tells whether a journal may be, as the document says it.
func mayBe(j api.Journal) bool {
	seen := map[string]bool{}
	for _, r := range j.Records {
		if record.Check(r) != api.OK || seen[r.ID] {
			return false
		}
		seen[r.ID] = true
	}
	return 1 <= j.Seq && j.Seq <= maxSeq && len(j.Records) <= maxCount
}

// level tells the same journal with nil for each empty list.
func level(j api.Journal) api.Journal {
	var records []api.Record
	for _, r := range j.Records {
		records = append(records, levelRecord(r))
	}
	return api.Journal{Seq: j.Seq, Records: records}
}

func levelRecord(r api.Record) api.Record {
	r.Parts = append([]api.PartSize(nil), r.Parts...)
	return r
}

func same(a, b api.Journal) bool { return reflect.DeepEqual(level(a), level(b)) }

func sameRecord(a, b api.Record) bool { return reflect.DeepEqual(levelRecord(a), levelRecord(b)) }

// placesOf are those of the records that have an ID.
func placesOf(j api.Journal, id string) []int {
	var places []int
	for i, r := range j.Records {
		if r.ID == id {
			places = append(places, i)
		}
	}
	return places
}

// others are the records that do not have an ID, in their order.
func others(j api.Journal, id string) []api.Record {
	var l []api.Record
	for _, r := range j.Records {
		if r.ID != id {
			l = append(l, r)
		}
	}
	return l
}

// modelAdd, modelRemove, modelFind and modelNewest tell what the document says.
func modelAdd(j api.Journal, r api.Record) (api.Journal, api.Errno) {
	fresh := j.Seq == 0 && len(j.Records) == 0
	there := len(placesOf(j, r.ID)) > 0
	switch {
	case !mayBe(j) && !fresh, record.Check(r) != api.OK:
		return api.Journal{}, api.ErrArg
	case j.Seq == maxSeq, len(j.Records) == maxCount && !there:
		return api.Journal{}, api.ErrFull
	}
	return level(api.Journal{Seq: j.Seq + 1, Records: append([]api.Record{r}, others(j, r.ID)...)}), api.OK
}

func modelRemove(j api.Journal, id string) (api.Journal, api.Errno) {
	switch {
	case !mayBe(j):
		return api.Journal{}, api.ErrArg
	case len(placesOf(j, id)) == 0:
		return api.Journal{}, api.ErrMissing
	case j.Seq == maxSeq:
		return api.Journal{}, api.ErrFull
	}
	return level(api.Journal{Seq: j.Seq + 1, Records: others(j, id)}), api.OK
}

func modelFind(j api.Journal, id string) (api.Record, int, api.Errno) {
	if !mayBe(j) {
		return api.Record{}, 0, api.ErrArg
	}
	places := placesOf(j, id)
	if len(places) == 0 {
		return api.Record{}, 0, api.ErrMissing
	}
	return j.Records[places[0]], places[0], api.OK
}

func modelNewest(j api.Journal) (api.Record, api.Errno) {
	if !mayBe(j) {
		return api.Record{}, api.ErrArg
	}
	if len(j.Records) == 0 {
		return api.Record{}, api.ErrMissing
	}
	return j.Records[0], api.OK
}

// id, mark, plain and parted: the ID of a number, and records that may be.
func id(n int) string { return fmt.Sprintf("v%d", n) }

func mark(id string, at int) api.Record { return api.Record{ID: id, Time: at, Mark: true} }

func plain(id string) api.Record {
	return api.Record{ID: id, Time: 300, Size: 3, ETag: "a", K: 1, M: 1, Data: strings.Repeat("0", 32), Sum: api.Digest{0: 1, 31: 255}}
}

func parted(id string) api.Record {
	r := plain(id)
	r.Time, r.Size, r.ETag, r.K, r.M, r.Up = api.MaxNow, api.MaxData, strings.Repeat("f-", 20), 12, 4, strings.Repeat("z", 32)
	r.Parts = []api.PartSize{{Number: 1, Size: 0}, {Number: 200, Size: 65000}, {Number: 10000, Size: 536}}
	return r
}

// kind is a record of an ID, another one by each number.
func kind(n int, id string) api.Record {
	switch n % 3 {
	case 0:
		return mark(id, n)
	case 1:
		return plain(id)
	}
	return parted(id)
}

// of is a journal of that Seq with so many records, of the IDs v0 on.
func of(seq, count int) api.Journal {
	j := api.Journal{Seq: seq}
	for i := range count {
		j.Records = append(j.Records, kind(i, id(i)))
	}
	return j
}

// with is a journal of which something is changed.
func with(j api.Journal, change func(j *api.Journal)) api.Journal {
	j = level(j)
	change(&j)
	return j
}

// at is a journal whose record of one place is changed.
func at(j api.Journal, place int, change func(r *api.Record)) api.Journal {
	return with(j, func(j *api.Journal) { change(&j.Records[place]) })
}

// wrongRecords are records that may not be, of an ID, if that is not what is wrong.
func wrongRecords(id string) map[string]api.Record {
	all := map[string]api.Record{"zero": {}, "a mark alone": {Mark: true}, "an ID alone": {ID: id}}
	for what, change := range map[string]func(r *api.Record){
		"no ID": func(r *api.Record) { r.ID = "" }, "an ID A": func(r *api.Record) { r.ID = "A" },
		"a long ID": func(r *api.Record) { r.ID = strings.Repeat("a", 33) }, "a time below": func(r *api.Record) { r.Time = -1 },
		"a late time": func(r *api.Record) { r.Time = api.MaxNow + 1 }, "a mark with more": func(r *api.Record) { r.Mark = true },
		"a size below": func(r *api.Record) { r.Size = -1 }, "a great size": func(r *api.Record) { r.Size = api.MaxData + 1 },
		"no tag": func(r *api.Record) { r.ETag = "" }, "K 0": func(r *api.Record) { r.K = 0 }, "M 0": func(r *api.Record) { r.M = 0 },
		"K and M 17": func(r *api.Record) { r.K, r.M = 9, 8 }, "no data name": func(r *api.Record) { r.Data = "" },
		"parts that fall": func(r *api.Record) { r.Parts[0].Number, r.Parts[2].Number = 10000, 1 },
		"a part more":     func(r *api.Record) { r.Parts[0].Size++ }, "an odd Up": func(r *api.Record) { r.Up = "/" },
		"33 parts": func(r *api.Record) { r.Parts = make([]api.PartSize, 33) },
	} {
		r := parted(id)
		change(&r)
		all[what] = r
	}
	return all
}

// wrong are journals that may not be.
func wrong() map[string]api.Journal {
	all := map[string]api.Journal{
		"65 records": of(7, 65), "66 records": of(7, 66), "128 records": of(7, 128), "many records": of(7, 3000),
		"zero": {}, "zero and records": of(0, 3), "zero and 64 records": of(0, 64), "Seq 0 and 65 records": of(0, 65),
		"two alike":             {Seq: 3, Records: []api.Record{mark("a", 1), mark("a", 1)}},
		"two of one ID":         {Seq: 3, Records: []api.Record{mark("a", 1), plain("a")}},
		"the first two":         {Seq: 3, Records: []api.Record{mark("a", 1), mark("a", 2), mark("b", 1), mark("c", 1)}},
		"the midst two":         {Seq: 3, Records: []api.Record{mark("b", 1), mark("a", 1), mark("a", 2), mark("c", 1)}},
		"the last two":          {Seq: 3, Records: []api.Record{mark("b", 1), mark("c", 1), mark("a", 1), mark("a", 2)}},
		"the first and last":    {Seq: 3, Records: []api.Record{mark("a", 1), mark("b", 1), mark("c", 1), mark("a", 2)}},
		"all wrong":             {Seq: -1, Records: make([]api.Record, 100)},
		"two of one ID, Seq 0":  {Records: []api.Record{mark("a", 1), mark("a", 2)}},
		"two of one ID at last": {Seq: maxSeq, Records: []api.Record{mark("a", 1), mark("a", 2)}},
		"65 records at last":    of(maxSeq, 65),
	}
	for _, seq := range wild {
		all[fmt.Sprint("Seq ", seq)] = of(seq, 2)
		all[fmt.Sprint("Seq ", seq, " and 64 records")] = of(seq, 64)
		all[fmt.Sprint("Seq ", seq, " and no records")] = of(seq, 0)
	}
	for what, r := range wrongRecords("v1") {
		all["a record with "+what] = with(of(7, 4), func(j *api.Journal) { j.Records[1] = r })
		all["a record alone with "+what] = api.Journal{Seq: 7, Records: []api.Record{r}}
	}
	return all
}

// right are journals that may be.
func right() map[string]api.Journal {
	all := map[string]api.Journal{}
	for _, seq := range []int{1, 2, 127, 128, maxSeq - 1, maxSeq} {
		for _, count := range []int{0, 1, 2, 3, 4, 63, 64} {
			all[fmt.Sprint(count, " records of Seq ", seq)] = of(seq, count)
		}
	}
	all["empty lists"] = api.Journal{Seq: 5, Records: []api.Record{}}
	all["a record with an empty list"] = at(of(5, 2), 1, func(r *api.Record) { r.Parts = []api.PartSize{} })
	return all
}

// drawn draws a journal that may be.
func drawn(r *rand.Rand) api.Journal {
	j := api.Journal{Seq: 1 + r.Intn(maxSeq)>>r.Intn(41)}
	count := r.Intn(5)
	if r.Intn(8) == 0 {
		count = r.Intn(65)
	}
	for _, n := range r.Perm(100)[:count] {
		j.Records = append(j.Records, kind(r.Intn(50), id(n)))
	}
	return j
}

func wantJournal(t *testing.T, what string, j api.Journal, err api.Errno, wanted api.Journal, wantedErr api.Errno) {
	t.Helper()
	if !same(j, wanted) || err != wantedErr {
		t.Errorf("%s: %s, %d; want %s, %d", what, short(j), err, short(wanted), wantedErr)
	}
}

func wantRecord(t *testing.T, what string, r api.Record, place int, err api.Errno, wanted api.Record, wantedPlace int, wantedErr api.Errno) {
	t.Helper()
	if !sameRecord(r, wanted) || place != wantedPlace || err != wantedErr {
		t.Errorf("%s: %+v, %d, %d; want %+v, %d, %d", what, r, place, err, wanted, wantedPlace, wantedErr)
	}
}

func short(v any) string {
	s := fmt.Sprintf("%+v", v)
	return s[:min(len(s), 300)]
}

func quoted(id string) string { return fmt.Sprintf("%q", id[:min(len(id), 40)]) }

// askAdd, askRemove, askFind and askNewest hold answers against the document's words.
func askAdd(t *testing.T, what string, j api.Journal, r api.Record) {
	t.Helper()
	wanted, wantedErr := modelAdd(j, r)
	got, err := journal.Add(j, r)
	wantJournal(t, "Add of "+quoted(r.ID)+", "+what, got, err, wanted, wantedErr)
}

func askRemove(t *testing.T, what string, j api.Journal, id string) {
	t.Helper()
	wanted, wantedErr := modelRemove(j, id)
	got, err := journal.Remove(j, id)
	wantJournal(t, "Remove of "+quoted(id)+", "+what, got, err, wanted, wantedErr)
}

func askFind(t *testing.T, what string, j api.Journal, id string) {
	t.Helper()
	wanted, wantedPlace, wantedErr := modelFind(j, id)
	r, place, err := journal.Find(j, id)
	wantRecord(t, "Find of "+quoted(id)+", "+what, r, place, err, wanted, wantedPlace, wantedErr)
}

func askNewest(t *testing.T, what string, j api.Journal) {
	t.Helper()
	wanted, wantedErr := modelNewest(j)
	r, err := journal.Newest(j)
	wantRecord(t, "Newest, "+what, r, 0, err, wanted, 0, wantedErr)
}

// askAll asks for each ID that is there, for the one of a record, and for such as are not there.
func askAll(t *testing.T, what string, j api.Journal, r api.Record) {
	t.Helper()
	askAdd(t, what, j, r)
	askNewest(t, what, j)
	ids := []string{r.ID, "", "none"}
	for _, r := range j.Records[:min(len(j.Records), 70)] {
		ids = append(ids, r.ID)
	}
	for _, id := range ids {
		askRemove(t, what, j, id)
		askFind(t, what, j, id)
		askAdd(t, what, j, plain(id))
	}
}

// askCheck holds Check, and Bytes, which goes by it, against the document's words.
func askCheck(t *testing.T, what string, j api.Journal) {
	t.Helper()
	wanted, wantedBytes := api.ErrArg, []byte(nil)
	if mayBe(j) {
		wanted, wantedBytes = api.OK, bytesOf(j)
	}
	if err := journal.Check(j); err != wanted {
		t.Errorf("Check, %s: %d; want %d: %s", what, err, wanted, short(j))
	}
	b, err := journal.Bytes(j)
	wantBytes(t, what, b, err, wantedBytes, wanted)
}

func wantCheck(t *testing.T, what string, j api.Journal, wanted api.Errno) {
	t.Helper()
	if err := journal.Check(j); err != wanted {
		t.Errorf("Check, %s: %d; want %d: %s", what, err, wanted, short(j))
	}
	askCheck(t, what, j)
}

// P8.1

func TestCheckKnown(t *testing.T) {
	wantCheck(t, "zero", api.Journal{}, api.ErrArg)
	wantCheck(t, "nothing any more", api.Journal{Seq: 1}, api.OK)
	wantCheck(t, "the mark null at 5", api.Journal{Seq: 1, Records: []api.Record{mark("null", 5)}}, api.OK)
	for what, j := range right() {
		wantCheck(t, what, j, api.OK)
	}
	for what, j := range wrong() {
		wantCheck(t, what, j, api.ErrArg)
	}
}

func TestCheckSeq(t *testing.T) {
	for _, count := range []int{0, 1, 2, 63, 64} {
		for _, seq := range []int{1, 2, 3, 64, 65, 1 << 20, 1 << 32, maxSeq - 2, maxSeq - 1, maxSeq} {
			wantCheck(t, fmt.Sprint("Seq ", seq), of(seq, count), api.OK)
		}
		for _, seq := range wild {
			wantCheck(t, fmt.Sprint("Seq ", seq), of(seq, count), api.ErrArg)
		}
	}
}

func TestCheckCounts(t *testing.T) {
	for count := range 140 {
		wanted := api.OK
		if count > maxCount {
			wanted = api.ErrArg
		}
		for _, seq := range []int{1, 9, maxSeq} {
			wantCheck(t, fmt.Sprint(count, " records"), of(seq, count), wanted)
		}
	}
	for _, count := range []int{256, 257, 320, 1 << 16, 1<<16 + 1} {
		wantCheck(t, fmt.Sprint(count, " records"), of(1, count), api.ErrArg)
	}
}

// TestCheckEachPlace: a record that may not be, at each place.
func TestCheckEachPlace(t *testing.T) {
	for _, count := range []int{1, 2, 3, 64} {
		for place := range count {
			for what, r := range wrongRecords(id(place)) {
				j := with(of(7, count), func(j *api.Journal) { j.Records[place] = r })
				wantCheck(t, fmt.Sprint(what, " at ", place, " of ", count), j, api.ErrArg)
			}
		}
	}
}

// TestCheckEachPair: two of one ID, at each two places; whatever else of them is unlike.
func TestCheckEachPair(t *testing.T) {
	for _, count := range []int{2, 3, 4, 64} {
		for second := range count {
			for first := range second {
				j := at(of(7, count), second, func(r *api.Record) { r.ID = id(first) })
				wantCheck(t, fmt.Sprint(first, " and ", second, " of ", count), j, api.ErrArg)
				j.Records[second] = levelRecord(j.Records[first])
				wantCheck(t, fmt.Sprint(first, " and ", second, " of ", count, " alike"), j, api.ErrArg)
				j.Records[second].ID = "another"
				wantCheck(t, fmt.Sprint(first, " and ", second, " of ", count, " alike but the ID"), j, api.OK)
			}
		}
	}
}

// TestCheckIDsThatAreAlmostAlike: those that begin or end alike are not of one ID.
func TestCheckIDsThatAreAlmostAlike(t *testing.T) {
	long := strings.Repeat("a", 31)
	for _, ids := range [][]string{{"a", "aa"}, {"aa", "a"}, {"ab", "ba"}, {"0", "00"}, {long, long + "a"}, {long + "a", long + "b"}, {"a" + long, "b" + long}} {
		j := api.Journal{Seq: 1}
		for _, id := range ids {
			j.Records = append(j.Records, mark(id, 1))
		}
		wantCheck(t, fmt.Sprint(ids), j, api.OK)
		askAll(t, fmt.Sprint(ids), j, mark(ids[1], 2))
	}
}

func wantSame(t *testing.T, what string, a, b api.Journal, wanted bool) {
	t.Helper()
	if journal.Same(a, b) != wanted || journal.Same(b, a) != wanted {
		t.Errorf("Same, %s: %v, %v; want %v: %s, %s", what, journal.Same(a, b), journal.Same(b, a), wanted, short(a), short(b))
	}
}

// changes are those by which a record differs in one field, or one part, from what it was.
func changes() map[string]func(r *api.Record) {
	all := map[string]func(r *api.Record){
		"ID": func(r *api.Record) { r.ID += "0" }, "Time": func(r *api.Record) { r.Time++ }, "Mark": func(r *api.Record) { r.Mark = !r.Mark },
		"Size": func(r *api.Record) { r.Size-- }, "ETag": func(r *api.Record) { r.ETag += "0" }, "K": func(r *api.Record) { r.K++ },
		"M": func(r *api.Record) { r.M++ }, "Data": func(r *api.Record) { r.Data += "1" }, "Sum": func(r *api.Record) { r.Sum[0] ^= 1 },
		"the end of Sum": func(r *api.Record) { r.Sum[31] ^= 128 }, "Up": func(r *api.Record) { r.Up += "0" },
		"a part more": func(r *api.Record) { r.Parts = append(r.Parts, api.PartSize{}) },
	}
	for i := range 3 {
		all[fmt.Sprint("Number of part ", i)] = func(r *api.Record) { changePart(r, i, 1, 0) }
		all[fmt.Sprint("Size of part ", i)] = func(r *api.Record) { changePart(r, i, 0, -1) }
	}
	return all
}

// changePart changes a part, or all of the record's list, if it has none of that place.
func changePart(r *api.Record, i, number, size int) {
	if i >= len(r.Parts) {
		r.Parts = append(r.Parts, api.PartSize{Number: 3 * number, Size: 3 * size})
		return
	}
	r.Parts[i].Number += number
	r.Parts[i].Size += size
}

func TestSameButOneField(t *testing.T) {
	for _, j := range []api.Journal{of(7, 1), of(7, 2), of(7, 3), of(7, 6), of(maxSeq, 64)} {
		for place := range j.Records {
			for what, change := range changes() {
				wantSame(t, fmt.Sprint(what, " at ", place, " of ", len(j.Records)), j, at(j, place, change), false)
			}
		}
	}
}

func TestSameButSeqCountOrOrder(t *testing.T) {
	for _, count := range []int{0, 1, 2, 3, 64} {
		j := of(7, count)
		wantSame(t, "itself", j, j, true)
		wantSame(t, "in other memory", j, level(j), true)
		for _, seq := range append([]int{1, 6, 8, 7 + 1<<32, maxSeq}, wild...) {
			wantSame(t, fmt.Sprint("Seq ", seq), j, of(seq, count), false)
		}
		wantSame(t, "one more", j, of(7, count+1), false)
		wantSame(t, "one more ahead", j, with(j, func(j *api.Journal) { j.Records = append([]api.Record{{}}, j.Records...) }), false)
		for place := range count {
			wantSame(t, fmt.Sprint("without ", place), j, with(j, func(j *api.Journal) { j.Records = slices.Delete(j.Records, place, place+1) }), false)
			wantSame(t, fmt.Sprint("up to ", place), j, with(j, func(j *api.Journal) { j.Records = j.Records[:place] }), false)
			for other := range place {
				wantSame(t, fmt.Sprint(place, " and ", other, " in the other order"), j, with(j, func(j *api.Journal) {
					j.Records[place], j.Records[other] = j.Records[other], j.Records[place]
				}), false)
			}
		}
	}
	a := at(of(7, 3), 2, func(r *api.Record) { r.Parts[0], r.Parts[1] = r.Parts[1], r.Parts[0] })
	wantSame(t, "parts in the other order", a, of(7, 3), false)
}

func TestSameOfAnyTwo(t *testing.T) {
	var all []api.Journal
	for _, list := range []map[string]api.Journal{right(), wrong()} {
		for what, j := range list {
			wantSame(t, what, j, level(j), true)
			if len(j.Records) < 70 {
				all = append(all, j)
			}
		}
	}
	for i, a := range all {
		for _, b := range all[:i] {
			wantSame(t, "any two", a, b, same(a, b))
		}
	}
	none, empty := api.Journal{Seq: 1}, api.Journal{Seq: 1, Records: []api.Record{}}
	wantSame(t, "nil and empty", none, empty, true)
	wantSame(t, "nil and empty parts", of(1, 2), at(of(1, 2), 1, func(r *api.Record) { r.Parts = []api.PartSize{} }), true)
	wantSame(t, "zero", api.Journal{}, api.Journal{}, true)
	wantSame(t, "zero and nothing", api.Journal{}, none, false)
}

// P8.3

func TestAddExamples(t *testing.T) {
	j := api.Journal{Seq: 1, Records: []api.Record{mark("null", 5)}}
	got, err := journal.Add(j, mark("null", 9))
	wantJournal(t, "once more", got, err, api.Journal{Seq: 2, Records: []api.Record{mark("null", 9)}}, api.OK)
	got, err = journal.Add(api.Journal{}, mark("null", 5))
	wantJournal(t, "to Seq 0", got, err, j, api.OK)
	got, err = journal.Add(api.Journal{Records: []api.Record{}}, mark("null", 5))
	wantJournal(t, "to Seq 0 and an empty list", got, err, j, api.OK)
	got, err = journal.Add(api.Journal{Records: []api.Record{mark("a", 5)}}, mark("null", 5))
	wantJournal(t, "to Seq 0 with a record", got, err, api.Journal{}, api.ErrArg)
	got, err = journal.Add(api.Journal{Records: []api.Record{mark("null", 5)}}, mark("null", 5))
	wantJournal(t, "to Seq 0 with that record", got, err, api.Journal{}, api.ErrArg)
	got, err = journal.Add(of(4, 3), mark("new", 2))
	wantJournal(t, "a new one", got, err, api.Journal{Seq: 5, Records: append([]api.Record{mark("new", 2)}, of(4, 3).Records...)}, api.OK)
	got, err = journal.Add(of(4, 3), mark("v1", 2))
	wantJournal(t, "one that is there", got, err, api.Journal{Seq: 5, Records: []api.Record{mark("v1", 2), kind(0, "v0"), kind(2, "v2")}}, api.OK)
}

func TestAddToWhatMayNotBe(t *testing.T) {
	for what, j := range wrong() {
		if j.Seq == 0 && len(j.Records) == 0 {
			continue
		}
		for _, r := range []api.Record{mark("v1", 2), plain("new"), parted("a"), {}} {
			got, err := journal.Add(j, r)
			wantJournal(t, what, got, err, api.Journal{}, api.ErrArg)
		}
	}
}

func TestAddOfWhatMayNotBe(t *testing.T) {
	for what, r := range wrongRecords("v1") {
		for _, j := range []api.Journal{{}, of(1, 0), of(4, 3), of(4, 64), of(maxSeq, 3), of(maxSeq, 0), of(maxSeq, 64)} {
			got, err := journal.Add(j, r)
			wantJournal(t, what, got, err, api.Journal{}, api.ErrArg)
		}
	}
}

func TestAddAtEachPlace(t *testing.T) {
	for _, count := range []int{1, 2, 3, 4, 63, 64} {
		for place := range count {
			for n := range 3 {
				j, r := of(9, count), kind(n, id(place))
				r.Time = 77
				got, err := journal.Add(j, r)
				left := slices.Delete(level(j).Records, place, place+1)
				wanted := api.Journal{Seq: 10, Records: append([]api.Record{r}, left...)}
				wantJournal(t, fmt.Sprint(place, " of ", count), got, err, wanted, api.OK)
			}
		}
	}
}

func TestAddAtTheBounds(t *testing.T) {
	for _, c := range []struct {
		seq, count int
		id         string
		wanted     api.Errno
	}{
		{1, 63, "new", api.OK}, {1, 63, "v5", api.OK}, {1, 64, "new", api.ErrFull}, {1, 64, "v0", api.OK}, {1, 64, "v31", api.OK},
		{1, 64, "v63", api.OK}, {maxSeq - 1, 0, "new", api.OK}, {maxSeq - 1, 3, "new", api.OK}, {maxSeq - 1, 3, "v2", api.OK},
		{maxSeq - 1, 63, "new", api.OK}, {maxSeq - 1, 64, "new", api.ErrFull}, {maxSeq - 1, 64, "v1", api.OK},
		{maxSeq, 0, "new", api.ErrFull}, {maxSeq, 3, "new", api.ErrFull}, {maxSeq, 3, "v0", api.ErrFull}, {maxSeq, 3, "v2", api.ErrFull},
		{maxSeq, 63, "new", api.ErrFull}, {maxSeq, 64, "new", api.ErrFull}, {maxSeq, 64, "v1", api.ErrFull},
		{0, 0, "new", api.OK}, {0, 1, "new", api.ErrArg}, {0, 64, "new", api.ErrArg}, {-1, 0, "new", api.ErrArg},
		{maxSeq + 1, 0, "new", api.ErrArg}, {1, 65, "v1", api.ErrArg}, {0, 65, "new", api.ErrArg}, {math.MinInt, 0, "new", api.ErrArg},
		{math.MaxInt, 0, "new", api.ErrArg}, {math.MaxInt, 64, "new", api.ErrArg},
	} {
		what := fmt.Sprint(c.id, " to ", c.count, " of Seq ", c.seq)
		got, err := journal.Add(of(c.seq, c.count), plain(c.id))
		if err != c.wanted || err == api.OK && got.Seq != c.seq+1 {
			t.Errorf("Add of %s: %d, Seq %d; want %d", what, err, got.Seq, c.wanted)
		}
		askAdd(t, what, of(c.seq, c.count), plain(c.id))
		if err == api.OK && journal.Check(got) != api.OK {
			t.Errorf("Add of %s: what is told may not be", what)
		}
	}
}

func TestRemoveExamples(t *testing.T) {
	j := api.Journal{Seq: 1, Records: []api.Record{mark("null", 5)}}
	got, err := journal.Remove(j, "null")
	wantJournal(t, "null", got, err, api.Journal{Seq: 2}, api.OK)
	_, err = journal.Newest(got)
	if err != api.ErrMissing {
		t.Errorf("Newest of that: %d", err)
	}
	got, err = journal.Remove(got, "null")
	wantJournal(t, "null once more", got, err, api.Journal{}, api.ErrMissing)
	got, err = journal.Remove(j, "x")
	wantJournal(t, "x", got, err, api.Journal{}, api.ErrMissing)
	got, err = journal.Remove(j, "")
	wantJournal(t, "the empty text", got, err, api.Journal{}, api.ErrMissing)
	got, err = journal.Remove(api.Journal{}, "null")
	wantJournal(t, "of Seq 0 without records", got, err, api.Journal{}, api.ErrArg)
}

func TestRemoveAtEachPlace(t *testing.T) {
	for _, count := range []int{1, 2, 3, 4, 63, 64} {
		for place := range count {
			j := of(9, count)
			got, err := journal.Remove(j, id(place))
			wanted := api.Journal{Seq: 10, Records: slices.Delete(level(j).Records, place, place+1)}
			wantJournal(t, fmt.Sprint(place, " of ", count), got, err, wanted, api.OK)
			_, _, err = journal.Find(got, id(place))
			if err != api.ErrMissing {
				t.Errorf("%d of %d is there still: %d", place, count, err)
			}
		}
	}
}

// absent are texts that are no ID of any record.
var absent = []string{"", "none", "v", "V0", "v00", "v0 ", " v0", "v0\x00", "v-1", "v64", "v65", "A", "é", "\xff", strings.Repeat("v", 32), strings.Repeat("v", 33), strings.Repeat("v0", 1<<16)}

func TestRemoveAtTheBounds(t *testing.T) {
	for _, c := range []struct {
		seq, count int
		id         string
		wanted     api.Errno
	}{
		{1, 1, "v0", api.OK}, {1, 0, "v0", api.ErrMissing}, {1, 64, "v63", api.OK}, {maxSeq - 1, 3, "v1", api.OK}, {maxSeq - 1, 64, "v0", api.OK},
		{maxSeq - 1, 3, "new", api.ErrMissing}, {maxSeq, 3, "v0", api.ErrFull}, {maxSeq, 3, "v2", api.ErrFull}, {maxSeq, 1, "v0", api.ErrFull},
		{maxSeq, 64, "v63", api.ErrFull}, {maxSeq, 3, "new", api.ErrMissing}, {maxSeq, 3, "", api.ErrMissing}, {maxSeq, 0, "v0", api.ErrMissing},
		{maxSeq, 64, "new", api.ErrMissing}, {maxSeq + 1, 3, "v0", api.ErrArg}, {maxSeq + 1, 3, "new", api.ErrArg}, {0, 0, "v0", api.ErrArg},
		{0, 1, "v0", api.ErrArg}, {-1, 1, "v0", api.ErrArg}, {1, 65, "v0", api.ErrArg}, {1, 65, "new", api.ErrArg}, {maxSeq, 65, "v0", api.ErrArg},
	} {
		what := fmt.Sprint(c.id, " of ", c.count, " of Seq ", c.seq)
		got, err := journal.Remove(of(c.seq, c.count), c.id)
		if err != c.wanted || err == api.OK && got.Seq != c.seq+1 {
			t.Errorf("Remove of %s: %d, Seq %d; want %d", what, err, got.Seq, c.wanted)
		}
		askRemove(t, what, of(c.seq, c.count), c.id)
		askFind(t, what, of(c.seq, c.count), c.id)
	}
}

// TestWhatIsNotThere: texts that no record has as its ID, of journals that may be.
func TestWhatIsNotThere(t *testing.T) {
	for what, j := range right() {
		for _, id := range absent {
			got, err := journal.Remove(j, id)
			wantJournal(t, what+" without "+quoted(id), got, err, api.Journal{}, api.ErrMissing)
			r, place, err := journal.Find(j, id)
			wantRecord(t, what+" and "+quoted(id), r, place, err, api.Record{}, 0, api.ErrMissing)
		}
	}
}

// TestOfWhatMayNotBe: nothing is removed or found of such, whether the ID is there or not.
func TestOfWhatMayNotBe(t *testing.T) {
	for what, j := range wrong() {
		for _, id := range []string{"v0", "v1", "a", "", "none", "A"} {
			got, err := journal.Remove(j, id)
			wantJournal(t, what, got, err, api.Journal{}, api.ErrArg)
			r, place, err := journal.Find(j, id)
			wantRecord(t, what, r, place, err, api.Record{}, 0, api.ErrArg)
		}
		r, err := journal.Newest(j)
		wantRecord(t, what, r, 0, err, api.Record{}, 0, api.ErrArg)
	}
}

// P8.4

func TestFindAtEachPlace(t *testing.T) {
	for _, count := range []int{1, 2, 3, 4, 63, 64} {
		for _, seq := range []int{1, 9, maxSeq} {
			j := of(seq, count)
			for place := range count {
				r, got, err := journal.Find(j, id(place))
				wantRecord(t, fmt.Sprint(place, " of ", count), r, got, err, kind(place, id(place)), place, api.OK)
			}
			r, err := journal.Newest(j)
			wantRecord(t, fmt.Sprint("the newest of ", count), r, 0, err, kind(0, "v0"), 0, api.OK)
		}
	}
}

func TestNewest(t *testing.T) {
	for n := range 3 {
		j := api.Journal{Seq: 1, Records: []api.Record{kind(n, "b"), mark("a", 9), plain("c")}}
		r, err := journal.Newest(j)
		wantRecord(t, "the first one", r, 0, err, kind(n, "b"), 0, api.OK)
	}
	for _, seq := range []int{1, 2, maxSeq} {
		for _, j := range []api.Journal{{Seq: seq}, {Seq: seq, Records: []api.Record{}}} {
			r, err := journal.Newest(j)
			wantRecord(t, "of none", r, 0, err, api.Record{}, 0, api.ErrMissing)
		}
	}
	r, err := journal.Newest(api.Journal{})
	wantRecord(t, "of Seq 0", r, 0, err, api.Record{}, 0, api.ErrArg)
	r, place, err := journal.Find(api.Journal{}, "null")
	wantRecord(t, "of Seq 0", r, place, err, api.Record{}, 0, api.ErrArg)
}

// TestAsk goes through all calls, of journals that may be and of such that may not.
func TestAsk(t *testing.T) {
	for _, list := range []map[string]api.Journal{right(), wrong()} {
		for what, j := range list {
			for _, r := range []api.Record{mark("v1", 9), parted("v0"), {}, mark("A", 1)} {
				askAdd(t, what, j, r)
			}
			askAll(t, what, j, parted("new"))
		}
	}
}

// P8.6

// TestLives: journals to which is added, and of which is removed, for long, are as lists to which the same is done.
func TestLives(t *testing.T) {
	r := rand.New(rand.NewSource(81))
	for _, ids := range []int{1, 2, 5, 30, 70, 100} {
		var j api.Journal
		var list []api.Record
		for step := range 700 {
			v := kind(r.Intn(99), id(r.Intn(ids)))
			there := slices.IndexFunc(list, func(r api.Record) bool { return r.ID == v.ID })
			var next api.Journal
			var err, wanted api.Errno
			if grows := step%300 < 200; r.Intn(10) < 7 == grows {
				next, err = journal.Add(j, v)
				if there < 0 && len(list) == maxCount {
					wanted = api.ErrFull
				} else {
					if there >= 0 {
						list = slices.Delete(list, there, there+1)
					}
					list = slices.Insert(list, 0, v)
				}
			} else {
				next, err = journal.Remove(j, v.ID)
				if j.Seq == 0 {
					wanted = api.ErrArg
				} else if there < 0 {
					wanted = api.ErrMissing
				} else {
					list = slices.Delete(list, there, there+1)
				}
			}
			if err != wanted {
				t.Fatalf("%d IDs, step %d: %d; want %d", ids, step, err, wanted)
			}
			if err == api.OK {
				wantJournal(t, "a life", next, err, api.Journal{Seq: j.Seq + 1, Records: list}, api.OK)
				j = next
			} else {
				wantJournal(t, "a life", next, err, api.Journal{}, err)
			}
			if j.Seq > 0 {
				wantLife(t, j)
			}
		}
	}
}

// wantLife holds what is told of a journal against its records.
func wantLife(t *testing.T, j api.Journal) {
	t.Helper()
	b, err := journal.Bytes(j)
	wantBytes(t, "a life", b, err, bytesOf(j), api.OK)
	read, err := journal.Read(b)
	wantJournal(t, "a life read", read, err, j, api.OK)
	askNewest(t, "a life", j)
	for i, r := range j.Records {
		found, place, err := journal.Find(j, r.ID)
		wantRecord(t, "a life", found, place, err, r, i, api.OK)
	}
}

func TestDrawn(t *testing.T) {
	r := rand.New(rand.NewSource(82))
	for range 600 {
		j := drawn(r)
		wantCheck(t, "drawn", j, api.OK)
		askAll(t, "drawn", j, kind(r.Intn(50), id(r.Intn(100))))
		for _, change := range changes() {
			if len(j.Records) > 0 {
				other := at(j, r.Intn(len(j.Records)), change)
				askCheck(t, "drawn and changed", other)
				wantSame(t, "drawn and changed", j, other, false)
			}
		}
	}
}
