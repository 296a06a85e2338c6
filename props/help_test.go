package props_test

import (
	"slices"
	"testing"

	"inkwell/api"
	"inkwell/props"
)

func decl(name, val string) api.Decl { return api.Decl{Name: name, Val: val} }

func strong(name, val string) api.Decl { return api.Decl{Name: name, Val: val, Strong: true} }

// four are an edge's sides with these values.
func four(top, right, bottom, left string, strong bool) []api.Decl {
	return []api.Decl{
		{Name: "edge-top", Val: top, Strong: strong}, {Name: "edge-right", Val: right, Strong: strong},
		{Name: "edge-bottom", Val: bottom, Strong: strong}, {Name: "edge-left", Val: left, Strong: strong},
	}
}

func wantExpanded(t *testing.T, d api.Decl, want []api.Decl, wantErr api.Errno) {
	t.Helper()
	if got, err := props.Expand(d); !slices.Equal(got, want) || err != wantErr {
		t.Errorf("%v is expanded to %v, %d, not %v, %d", d, got, err, want, wantErr)
	}
}

func wantAll(t *testing.T, l, want []api.Decl, wantErr api.Errno) {
	t.Helper()
	if got, err := props.All(l); !slices.Equal(got, want) || err != wantErr {
		t.Errorf("%v is expanded to %v, %d, not %v, %d", l, got, err, want, wantErr)
	}
}
