"""Towers whose flags are put all at once, each by its own rule."""
