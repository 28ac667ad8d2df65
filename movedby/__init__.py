"""How far a picture has moved: see movedby.desk."""
