package props_test

import (
	"math/rand/v2"
	"slices"
	"strings"
	"testing"

	"inkwell/api"
	"inkwell/props"
)

// cut is a value cut at each blank, byte by byte.
func cut(val string) []string {
	l := []string{""}
	for i := range len(val) {
		if val[i] == ' ' {
			l = append(l, "")
		} else {
			l[len(l)-1] += val[i : i+1]
		}
	}
	return l
}

// expanded is D1, said case by case.
func expanded(d api.Decl) ([]api.Decl, api.Errno) {
	if d.Name != "edge" {
		return []api.Decl{d}, api.OK
	}
	switch v := cut(d.Val); len(v) {
	case 1:
		return four(v[0], v[0], v[0], v[0], d.Strong), api.OK
	case 2:
		return four(v[0], v[1], v[0], v[1], d.Strong), api.OK
	case 3:
		return four(v[0], v[1], v[2], v[1], d.Strong), api.OK
	case 4:
		return four(v[0], v[1], v[2], v[3], d.Strong), api.OK
	}
	return nil, api.ErrMany
}

func madeDecl(r *rand.Rand) api.Decl {
	names := []string{"edge", "edge", "edge", "edge-top", "color", "e", ""}
	var val strings.Builder
	for range r.IntN(9) {
		val.WriteByte("  12\t"[r.IntN(5)])
	}
	return api.Decl{Name: names[r.IntN(len(names))], Val: val.String(), Strong: r.IntN(2) == 0}
}

// D1: made declarations and lists of them, against a second reading of the chapter.
func TestMade(t *testing.T) {
	r := rand.New(rand.NewPCG(4, 1))
	errs := 0
	for range 20_000 {
		var l, want []api.Decl
		wantErr := api.OK
		for range r.IntN(5) {
			d := madeDecl(r)
			some, err := expanded(d)
			wantExpanded(t, d, some, err)
			l, want = append(l, d), append(want, some...)
			if err != api.OK {
				wantErr = err
			}
		}
		if wantErr != api.OK {
			want = nil
			errs++
		}
		wantAll(t, l, want, wantErr)
	}
	if errs < 1000 || errs > 19_000 {
		t.Errorf("%d of the lists have an error: too few of one kind", errs)
	}
}

// D1: what is expanded is expanded already.
func TestAllTwice(t *testing.T) {
	r := rand.New(rand.NewPCG(4, 2))
	for range 2000 {
		once, err := props.All([]api.Decl{madeDecl(r), madeDecl(r)})
		if err != api.OK {
			continue
		}
		if twice, err := props.All(once); !slices.Equal(once, twice) || err != api.OK {
			t.Errorf("%v is expanded once more to %v, %d", once, twice, err)
		}
	}
}
